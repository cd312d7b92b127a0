/- Texts of FaI, LawFa. Own work of the verifier. -/
import Derived.Test.YtelcfcgdnebdgaaGreatDoorUqbk
import Derived.Test.YtelcfcgdnebdgaaGreatDoorUqbh
import Derived.Test.YtelcfcgdnebdgaaGreatDoorUqbi
import Derived.Test.YtelcfcgdnebdgaaGreatDoorUqbj
namespace Go.Proofs.YtelcfcgdnebdgaaGreatDoor
open Go Go.RowKit
set_option linter.unusedVariables false
set_option linter.unusedSimpArgs false
theorem ws_again {B : Bas} {W W' : World} {wb : Nat} {K : WK} {p : Option Addr} {n c : Nat} {R : List Int} {k : Nat} (h : WS B W wb K p n c R k) (hb : Below W.heap.size W W') : WS ⟨W', B.lo, Value.ownBlock (.slice p n c)⟩ W' wb K p n c R k := by
  have h' := h.below hb
  exact ⟨⟨rfl, rfl, rfl, h'.gr.size, Nat.le_refl _, fun _ _ _ _ => rfl⟩, h'.hwb, h'.blk, h'.c0, h'.c1, h'.c2, h'.c3, h'.c4, h'.fr, h'.own, fun k hk => .inl hk.symm⟩
theorem env_bas {w3 : World} {B : Bas} {mb M : Nat} {T : List Cel} (hT : Tab w3) (hP : TabP w3) (hM : OpMap w3 mb M T) (hG : TabG T) (hb : Below w3.heap.size w3 B.t) (hg : ∀ k, B.g = some k → w3.heap.size ≤ k) : EnvK B w3.heap.size (mb, none, 0, 0, true) T [] M := by
  have key : ∀ W, B.grownBy W (some w3.heap.size) → Below w3.heap.size w3 W := fun W hW => below_bas hW hb (Nat.le_refl _) hg
  exact ⟨⟨fun W hW => hT.below (key W hW), fun W hW => hP.below (key W hW)⟩, ⟨fun W hW => fun h => by simp at h, rfl, by simp, fun i hi => by simp at hi⟩, fun W hW => hM.below (key W hW), hG⟩
def FaW (w3 wr : World) (mb : Nat) (R : List Int) : Prop := ∃ B p m c kg, WS B wr w3.heap.size (mb, none, 0, 0, true) p m c R kg ∧ B.lo = w3.heap.size + 1 ∧ (R = [] → kg = 0)
theorem faw_new (w3 : World) (mb : Nat) : FaW w3 (w3.alloc (wrO mb none 0 0 true)) mb [] := by
  have hblk : (w3.alloc (wrO mb none 0 0 true)).heap[w3.heap.size]? = some (wrO mb none 0 0 true) := by
    show (w3.heap.push _)[w3.heap.size]? = _
    exact Array.getElem?_push_size
  have hsz : (w3.alloc (wrO mb none 0 0 true)).heap.size = w3.heap.size + 1 := by simp
  obtain ⟨W, eW⟩ : ∃ W, W = w3.alloc (wrO mb none 0 0 true) := ⟨_, rfl⟩
  rw [← eW] at hblk hsz ⊢
  clear eW
  refine ⟨⟨W, w3.heap.size + 1, none⟩, none, 0, 0, 0, ?_, rfl, fun _ => rfl⟩
  refine ⟨⟨rfl, rfl, rfl, Nat.le_of_eq hsz.symm, Nat.le_refl _, fun _ _ _ _ => rfl⟩, Nat.lt_succ_self _, ⟨_, _, hblk⟩, ?_, ?_, ?_, ?_, ?_, fun o => ?_, OwnS.nil _ _, fun k hk => by cases hk⟩
  · simp [World.cell?, hblk, wrO]
  · simp [World.cell?, hblk, wrO, gV]
  · simp [World.cell?, hblk, wrO]
  · simp [World.cell?, hblk, wrO]
  · simp [World.cell?, hblk, wrO]
  · simp [World.frozen?, hblk, wrO]
theorem fa_step {w3 wr : World} {mb M : Nat} {T : List Cel} {N : List (List Int)} {D : List (List Cel)} (hF : FaB T N D) (ht : tabB T = true) (hl : N.length = D.length) (hT : Tab w3) (hP : TabP w3) (hM : OpMap w3 mb M T) (k : Nat) (hk : k < N.length) (hv : allV D (k + 1)) (hX : N.getD k [] ≠ [])
    (hs : FaW w3 wr mb (faI T N D k)) (hb : Below w3.heap.size w3 wr) (W4 W5 : World) (vt : TypeId) (vx : Value) (h4 : Below wr.heap.size wr W4) (h5 : Below W4.heap.size W4 W5) (hfo : FoIn W5 W4.heap.size (.node (trC (D.getD k [])).1 (trC (D.getD k [])).2 .nil) [.iface vt vx]) :
    Calls Tryz.prog 46 #[.pointer (some ⟨w3.heap.size, 0, none⟩), .string (strOfNums (N.getD k [])), .iface vt vx] W5 fun e w' => e = .returned (.tuple #[]) ∧ FaW w3 w' mb (faI T N D (k + 1)) ∧ Below w3.heap.size w3 w' := by
  obtain ⟨B, p, m, c, kg, hw, hlo, hkg⟩ := hs
  have hw4 := hw.below h4
  have hw5 := ws_again hw4 h5
  have hb5 : Below w3.heap.size w3 W5 := Below.on (Below.on hb h4) h5
  have hg : ∀ j, Value.ownBlock (.slice p m c) = some j → w3.heap.size ≤ j ∧ j < W4.heap.size := fun j hj => by
    have := hw4.own.2.lt j hj
    exact ⟨by omega, this.2⟩
  have hE : EnvK ⟨W5, B.lo, Value.ownBlock (.slice p m c)⟩ w3.heap.size (mb, none, 0, 0, true) T [] M := env_bas hT hP hM (tabG_of ht hF.tb) hb5 (fun j hj => (hg j hj).1)
  obtain ⟨etr, hok, hlx⟩ := trC_ok (hF.db k (by omega)) (hv k (by omega))
  have hlen : (trC (D.getD k [])).2.cells.length + 1 = (D.getD k []).length := by
    have := congrArg List.length etr
    simp only [List.length_cons] at this
    omega
  have hA : FoA (Bas.may ⟨W5, B.lo, Value.ownBlock (.slice p m c)⟩ w3.heap.size) W5 (.node (trC (D.getD k [])).1 (trC (D.getD k [])).2 .nil) [.iface vt vx] := foA_up hfo (fun a ha => by
    rcases ha with h1 | h1
    · have := hw4.hwb; have := hw4.gr.size; omega
    · exact (hg a h1.symm).2)
  have hte := term_all hE (D.getD k []).length (trC (D.getD k [])).1 (trC (D.getD k [])).2 (.iface vt vx) hok hA (by omega) (by omega) 699 (by decide) (by decide)
  have hgi := faI_len hF ht hl k (by omega) (fun j hj => hv j (by omega))
  have hle := faOne_len hF ht hl k hk hv
  have hq := equation_any hE.tabs (N.getD k []) (hF.nb k hk) hX vt vx _ hte W5 (faI T N D k) kg hgi.1 hkg (by show (faOne T (faI T N D k) (N.getD k []) (D.getD k [])).length ≤ _; omega) ⟨p, m, c, hw5⟩
  refine hq.mono ?_
  rintro e w' ⟨rfl, k', p', n', c', hw'⟩
  have eI : faI T N D (k + 1) = faOne T (faI T N D k) (N.getD k []) (D.getD k []) := by rw [faI, if_neg hX]
  refine ⟨rfl, ⟨⟨W5, B.lo, Value.ownBlock (.slice p m c)⟩, p', n', c', k', by rw [eI]; exact hw', hlo, fun h => ?_⟩, below_bas hw'.gr hb5 (Nat.le_refl _) (fun j hj => (hg j hj).1)⟩
  rw [eI] at h
  simp [faOne] at h
theorem FaW.c0 {w3 wr : World} {mb : Nat} {R : List Int} (h : FaW w3 wr mb R) : ∃ p m c, wr.cell? ⟨w3.heap.size, 0, none⟩ = some (.slice p m c) ∧ m = R.length ∧ OwnT wr w3.heap.size p m c R := by
  obtain ⟨B, p, m, c, kg, hw, hlo, _⟩ := h
  exact ⟨p, m, c, hw.c0, hw.own.1, hw.own.toT.mono (by omega)⟩
set_option maxRecDepth 100000 in
set_option maxHeartbeats 4000000 in
theorem implFa_any (T : List Cel) (N : List (List Int)) (D : List (List Cel)) (po : Option Addr) (co : Nat) (pn : Option Addr) (cn : Nat) (pd : Option Addr) (cd : Nat) (w : World) (hF : FaB T N D) (hTl : T.length + tl T ≤ 1000000000) (hT : OIn w po T) (hN : NIn w pn N) (hD : TCC w pd D) (hTab : Tab w) (hPow : TabP w) :
    Calls Tryz.prog 25 #[.slice po T.length co, .slice pn N.length cn, .slice pd D.length cd] w (FaO w T N D) := by
  have HV1 := implTab_any po co T w hTl hT
  have hnl : N.length ≤ 1048576 := by have := hF.nl; omega
  have hdl : D.length ≤ 1048576 := by have := hF.dl; omega
  by_cases h1 : tabB T = true
  · rw [h1] at HV1
    by_cases h2 : N.length = D.length
    · have HCN : Hid (∀ W, Below w.heap.size w W → Calls Tryz.prog 45 #[.slice pd D.length cd, .func (.func 44) #[] #[]] W fun e w' => ∃ b : Bool, e = .returned (.bool b) ∧ (b = false ↔ allV D D.length) ∧ Below W.heap.size W w') := fun W hW => contNo_any pd cd D W (hD.below hW) hdl (fun i hi => by have := tll_at D i hi; have := hF.dl; omega)
      have HF : Hid (FaB T N D) := hF
      have H1 : Hid (tabB T = true) := h1
      have H2 : Hid (N.length = D.length) := h2
      have HN : Hid (NIn w pn N) := hN
      have HD : Hid (TCC w pd D) := hD
      have HTB : Hid (Tab w ∧ TabP w) := ⟨hTab, hPow⟩
      have HTO : Hid (∀ W, Below w.heap.size w W → Calls Tryz.prog 39 #[.slice po T.length co] W fun e w' => e = .returned (.map (some W.heap.size)) ∧ OpMap w' W.heap.size T.length T ∧ Below W.heap.size W w') := fun W hB => by
        obtain ⟨ft1, ft2⟩ := tab_facts h1
        obtain ⟨hasc, hokc⟩ := chain_ascW h1
        have hokT : ∀ x ∈ T, okT x := fun x hx' => by
          obtain ⟨i, hi, rfl⟩ := List.getElem_of_mem hx'
          have h8 := hF.tb i hi
          have h9 := (ft2 i hi).1.2
          simp only [List.getD, List.getElem?_eq_getElem hi, Option.getD_some] at h8 h9
          exact ⟨h8, by omega⟩
        exact tableOf_any po co T W (by omega) hokT (List.Pairwise.imp (fun h => ltO_key h) hasc) (hT.below hB)
      rw [← h2] at HCN ⊢
      obtain ⟨n, en⟩ : ∃ n, n = N.length := ⟨_, rfl⟩
      have EN : Hid (n = N.length) := en
      have hn1 : n ≤ 1048576 := by omega
      rw [← en] at HCN ⊢
      obtain ⟨lT, elT⟩ : ∃ lT, lT = T.length := ⟨_, rfl⟩
      rw [← elT] at HV1 HTO ⊢
      clear h1 h2 hT hN hD hF hTl en hnl hdl hTab hPow elT
      by_cases hall : allV D D.length
      · have HAL : Hid (allV D D.length) := hall
        have HCN2 : Hid (∀ W, Below w.heap.size w W → Calls Tryz.prog 45 #[.slice pd n cd, .func (.func 44) #[] #[]] W fun e w' => e = .returned (.bool false) ∧ Below W.heap.size W w') := fun W hW => (HCN.out W hW).mono (by
          rintro e w' ⟨b, rfl, hb, hB⟩
          have hall2 : allV D n := by have := HAL.out; rw [← H2.out, ← EN.out] at this; exact this
          exact ⟨by rw [hb.2 hall2], hB⟩)
        have HAN : Hid (allV D n) := by have := HAL.out; rw [← H2.out, ← EN.out] at this; exact this
        clear hall HCN
        have st0 := fun (W : World) (a : Addr) m => run_store Tryz.prog W a .nilFunc m rfl
        go_enter Tryz.func25, Tryz.ntmps25
        go_wp2_with fail
        refine HV1.mono ?_
        rintro e w1 ⟨rfl, hb1⟩
        have HB1 : Hid (Below w.heap.size w w1) := hb1
        clear hb1 HV1
        go_wp2_with fail
        refine (HCN2.out w1 HB1.out).mono ?_
        rintro e w2 ⟨rfl, hb2⟩
        have HB2 : Hid (Below w.heap.size w w2) := Below.on HB1.out hb2
        clear hb2 HCN2
        go_wp2_with fail
        refine (HTO.out w2 HB2.out).mono ?_
        rintro e w3 ⟨rfl, hm3, hb3⟩
        have HB3 : Hid (Below w.heap.size w w3) := Below.on HB2.out hb3
        have HM3 : Hid (OpMap w3 w2.heap.size lT T) := hm3
        have HW3 : Hid (FaW w3 (w3.alloc (.cells #[.slice none 0 0, .nilFunc, .map (some w2.heap.size), .slice none 0 0, .bool true] 76)) w2.heap.size []) := faw_new w3 w2.heap.size
        have HBA : Hid (Below w3.heap.size w3 (w3.alloc (.cells #[.slice none 0 0, .nilFunc, .map (some w2.heap.size), .slice none 0 0, .bool true] 76))) := (Below.refl _ _).alloc (Nat.le_refl _) _
        obtain ⟨mb, emb⟩ : ∃ mb, mb = w2.heap.size := ⟨_, rfl⟩
        rw [← emb] at HM3 HW3 HBA ⊢
        clear hb3 hm3 HTO HB1 HB2 emb
        go_wp2_with fail
        obtain ⟨WA, eWA⟩ : ∃ WA, WA = w3.alloc (.cells #[.slice none 0 0, .nilFunc, .map (some mb), .slice none 0 0, .bool true] 76) := ⟨_, rfl⟩
        rw [← eWA] at HW3 HBA ⊢
        clear eWA
        go_loopw [31] (fun i wr => ∃ (k : Nat), k ≤ n ∧ i = .int .i64 k ∧ Hid (FaW w3 wr mb (faI T N D k)) ∧ Hid (Below w3.heap.size w3 wr)) (fun i _ => n - (intOf i).toNat)
        case atStart => exact ⟨0, Nat.zero_le _, rfl, HW3, HBA⟩
        case round =>
          obtain ⟨k, hk, rfl, HS, HB⟩ := hrel
          have HBW : Hid (Below w.heap.size w wr) := HB3.out.trans (HB.out.mono HB3.out.size)
          by_cases hlt : k < n
          · have hkN : k < N.length := by have := EN.out; omega
            have hkD : k < D.length := by have := H2.out; omega
            obtain ⟨b, o, epn, hcn⟩ := HN.out (by omega)
            obtain ⟨qn, cq, n0, n1⟩ := hcn k hkN
            obtain ⟨bd, od, epd, hcd⟩ := HD.out (by omega)
            obtain ⟨qd, e0, e1⟩ := hcd k hkD
            subst epn epd
            have c0 := (HBW.out.cell (World.block_lt_of_cell? _ _ n0)).trans n0
            have hXl : (N.getD k []).length ≤ 1048576 := by have h8 := tnn_at N k hkN; have h9 := HF.out.nl; omega
            by_cases hX : N.getD k [] = []
            · have HNEXT : Hid (FaW w3 wr mb (faI T N D (k + 1))) := by
                have e : faI T N D (k + 1) = faI T N D k := by rw [faI, if_pos hX]
                show FaW _ _ _ _
                rw [e]; exact HS.out
              rw [hX] at c0
              simp only [List.length_nil] at c0
              clear n0 n1 e0 e1 hcn hcd hX hXl
              go_wp2_with fail
              go_roundw
              case rel => exact ⟨k + 1, by omega, by go_num, HNEXT, HB⟩
              case measure => simp [intOf]; omega
            · have hlx : 0 < (N.getD k []).length := by
                cases h8 : N.getD k [] with
                | nil => exact absurd h8 hX
                | cons _ _ => simp
              obtain ⟨ad, ead, _⟩ := bin_cells n1 hlx
              subst ead
              obtain ⟨sn, esn⟩ : ∃ sn, sn = strOfNums (N.getD k []) := ⟨_, rfl⟩
              have HCV : Hid (∀ W, Below w.heap.size w W → (convert 28 9 (.slice (some ad) (N.getD k []).length cq)).run Tryz.prog W = .ok (.string sn) W) := fun W hW => by rw [esn]; exact conv_str (n1.below hW) _ _ rfl 9 Tryz.underlying9
              have HDC : Hid (∀ W, Below w.heap.size w W → W.cell? ⟨bd, od + k, none⟩ = some (.slice qd (D.getD k []).length (D.getD k []).length)) := fun W hW => (hW.cell (World.block_lt_of_cell? _ _ e0)).trans e0
              have hvk : validB (D.getD k []) = true := HAN.out k hlt
              obtain ⟨etr, hok, hlx2⟩ := trC_ok (HF.out.db k hkD) hvk
              have HTE : Hid (∀ W, Below wr.heap.size wr W → Calls Tryz.prog 41 #[.slice qd (D.getD k []).length (D.getD k []).length] W fun e w' => ∃ v, e = .returned v ∧ FoIn w' W.heap.size (.node (trC (D.getD k [])).1 (trC (D.getD k [])).2 .nil) [v] ∧ Below W.heap.size W w') := fun W hW => by
                have hlen : (D.getD k []).length = (trC (D.getD k [])).2.cells.length + 1 := by
                  have := congrArg List.length etr
                  simp only [List.length_cons] at this
                  omega
                exact termOfW_any (trC (D.getD k [])).1 (trC (D.getD k [])).2 qd _ _ W hok hlen (Nat.le_refl _) (by omega) (by have h9 := e1.below (Below.on HBW.out hW); rw [etr] at h9; exact h9)
              have HEQ : Hid (∀ (W4 W5 : World) (vt : TypeId) (vx : Value), Below wr.heap.size wr W4 → Below W4.heap.size W4 W5 → FoIn W5 W4.heap.size (.node (trC (D.getD k [])).1 (trC (D.getD k [])).2 .nil) [.iface vt vx] → Calls Tryz.prog 46 #[.pointer (some ⟨w3.heap.size, 0, none⟩), .string sn, .iface vt vx] W5 fun e w' => e = .returned (.tuple #[]) ∧ FaW w3 w' mb (faI T N D (k + 1)) ∧ Below w3.heap.size w3 w') := fun W4 W5 vt vx h4 h5 hfo => by
                rw [esn]
                exact fa_step HF.out H1.out H2.out (HTB.out.1.below HB3.out) (HTB.out.2.below HB3.out) HM3.out k hkN (fun j hj => HAN.out j (by omega)) hX HS.out HB.out W4 W5 vt vx h4 h5 hfo
              obtain ⟨lX, elX⟩ : ∃ lX, lX = (N.getD k []).length := ⟨_, rfl⟩
              rw [← elX] at HCV c0 hlx hXl
              obtain ⟨ld, eld⟩ : ∃ ld, ld = (D.getD k []).length := ⟨_, rfl⟩
              rw [← eld] at HTE HDC
              obtain ⟨FX, eFX⟩ : ∃ FX, FX = faI T N D (k + 1) := ⟨_, rfl⟩
              have hlxi : (0 : Int) < lX := by omega
              have hki : ((k : Int)).toNat = k := by omega
              clear n0 n1 e0 e1 hcn hcd hX esn hvk etr hok hlx2 elX eld eFX
              go_wp2_with fail
              refine wp_region_held_drew (S := fun W => Below w.heap.size w W) (by kernel_rfl) (Below.on HBW.out ((Below.refl _ _).drew)) (fun hHeld => ?_)
              have hSS : Below w.heap.size w wr.drew := Below.on HBW.out ((Below.refl _ _).drew)
              refine hTake (i := 0) (v := .slice (some ad) lX cq) (some 39) (by kernel_rfl) (by kernel_rfl) (by kernel_rfl) (by kernel_rfl) (by kernel_rfl) (fun _ _ _ h => h) (fun o ho W hSw => ?y0) (by assumption) ?_
              case y0 =>
                cases ho
                simp [execOp, go_sem, Act.eval]
              simp only [Act.put, zzA, zzB, zzC]
              refine hTake (i := 1) (v := .string sn) (some 40) (by kernel_rfl) (by kernel_rfl) (by kernel_rfl) (by kernel_rfl) (by kernel_rfl) (fun _ _ _ h => h) (fun o ho W hSw => ?y1) (by assumption) ?_
              case y1 =>
                cases ho
                simp [execOp, go_sem, Act.eval, HCV.out W hSw]
              simp only [Act.put, zzA, zzB, zzC]
              refine hTake (i := 2) (v := .slice (some ⟨bd, od, none⟩) n cd) (some 41) (by kernel_rfl) (by kernel_rfl) (by kernel_rfl) (by kernel_rfl) (by kernel_rfl) (fun _ _ _ h => h) (fun o ho W hSw => ?y2) (by assumption) ?_
              case y2 =>
                cases ho
                simp [execOp, go_sem, Act.eval]
              simp only [Act.put, zzA, zzB, zzC]
              refine hTake (i := 3) (v := .int .i64 (k : Int)) (some 42) (by kernel_rfl) (by kernel_rfl) (by kernel_rfl) (by kernel_rfl) (by kernel_rfl) (fun _ _ _ h => h) (fun o ho W hSw => ?y3) (by assumption) ?_
              case y3 =>
                cases ho
                simp [execOp, go_sem, Act.eval]
              simp only [Act.put, zzA, zzB, zzC]
              refine hTake (i := 4) (v := .pointer (some ⟨bd, od + k, none⟩)) (some 43) (by kernel_rfl) (by kernel_rfl) (by kernel_rfl) (by kernel_rfl) (by kernel_rfl) (fun _ _ _ h => h) (fun o ho W hSw => ?y4) (by assumption) ?_
              case y4 =>
                cases ho
                simp [execOp, go_sem, Act.eval, hlt, hki]
              simp only [Act.put, zzA, zzB, zzC]
              refine hTake (i := 5) (v := .slice qd ld ld) (some 44) (by kernel_rfl) (by kernel_rfl) (by kernel_rfl) (by kernel_rfl) (by kernel_rfl) (fun _ _ _ h => h) (fun o ho W hSw => ?y5) (by assumption) ?_
              case y5 =>
                cases ho
                simp [execOp, go_sem, Act.eval, HDC.out W hSw]
              simp only [Act.put, zzA, zzB, zzC]
              refine hCallE (i := 6) (some 45) (by kernel_rfl) (by kernel_rfl) (by kernel_rfl) (fun o ho => ?y6) (HTE.out _ ((Below.refl _ _).drew)) ?_ (fun ch w' h => by obtain ⟨v, h, _⟩ := h; simp at h) (fun w' h => by obtain ⟨v, h, _⟩ := h; simp at h)
              case y6 =>
                cases ho
                simp [execOp, go_sem, Act.eval]
              rintro u w5 ⟨v, hu, hfo, hb5⟩
              cases hu
              obtain ⟨vt, vx, rfl⟩ := hfo.iface
              have HE5 := HEQ.out wr.drew w5 vt vx ((Below.refl _ _).drew) hb5 hfo
              have HB5 : Hid (Below w.heap.size w w5) := Below.on (Below.on HBW.out ((Below.refl _ _).drew)) hb5
              refine ⟨HB5.out, ?_⟩
              clear hfo hb5
              simp only [Act.put, zzA, zzB, zzC]
              refine hCallE (i := 7) (some 46) (by kernel_rfl) (by kernel_rfl) (by kernel_rfl) (fun o ho => ?y7) HE5 ?_ (fun ch w' h => by obtain ⟨h, _⟩ := h; simp at h) (fun w' h => by obtain ⟨h, _⟩ := h; simp at h)
              case y7 =>
                cases ho
                simp [execOp, go_sem, Act.eval]
              rintro u w6 ⟨hu, hn6, hb6⟩
              cases hu
              have HN6 : Hid _ := hn6
              have HB6 : Hid (Below w3.heap.size w3 w6) := hb6
              refine ⟨HB3.out.trans (hb6.mono HB3.out.size), ?_⟩
              clear hn6 hb6 HE5 HB5
              simp only [Act.put, zzA, zzB, zzC]
              refine wpAnyH_done (by kernel_rfl) ?_ _
              go_wp2_with fail
              go_roundw
              case rel => exact ⟨k + 1, by omega, by go_num, HN6, HB6⟩
              case measure => simp [intOf]; omega
          · obtain rfl : k = n := by omega
            obtain ⟨p, m, c, c0, hm, hown⟩ := HS.out.c0
            have HFI : Hid (∀ p m c W, OwnT W w.heap.size p m c (faA T N D) → Below w3.heap.size w3 W → FaO w T N D (.returned (.slice p m c)) W) := fun p m c W h8 h9 => by
              refine ⟨p, m, c, rfl, ?_, HB3.out.trans (h9.mono HB3.out.size)⟩
              rw [faR_yes ⟨H1.out, H2.out, HAL.out⟩]
              exact h8
            have HFA : Hid (faA T N D = if faI T N D k = [] then [116, 114, 117, 101] else faI T N D k) := by show _ = _; unfold faA; rw [← EN.out]
            have HSX : Hid (FaW w3 wr mb (faI T N D k)) := HS.out
            obtain ⟨R, eR⟩ : ∃ R, R = faI T N D k := ⟨_, rfl⟩
            rw [← eR] at HFA HSX hm hown
            clear eR HS
            by_cases hR : R = []
            · rw [hR] at hm HSX HFA
              have hm0 : m = 0 := hm
              subst hm0
              have HPU : Hid (Calls Tryz.prog 47 #[.pointer (some ⟨w3.heap.size, 0, none⟩), .string ⟨#[116, 114, 117, 101]⟩] wr fun e w' => e = .returned (.tuple #[]) ∧ (∃ p m c, w'.cell? ⟨w3.heap.size, 0, none⟩ = some (.slice p m c) ∧ OwnT w' w.heap.size p m c [116, 114, 117, 101]) ∧ Below w3.heap.size w3 w') := by
                obtain ⟨B, p, m, c, kg, hw, hlo, hkg⟩ := HSX.out
                have hw2 := ws_again hw (Below.refl _ _)
                have hg : ∀ j, Value.ownBlock (.slice p m c) = some j → w3.heap.size ≤ j := fun j hj => by have := hw.own.2.lt j hj; omega
                have e4 : strOfNums [116, 114, 117, 101] = ⟨#[116, 114, 117, 101]⟩ := rfl
                have := put_any _ wr w3.heap.size (mb, none, 0, 0, true) [] [116, 114, 117, 101] kg ((HTB.out.1.below HB3.out).below HB.out) byte_nil byte_true (by decide) ⟨p, m, c, hw2⟩
                rw [hkg rfl, e4] at this
                refine this.mono ?_
                rintro e w' ⟨he, ⟨p', m', c', hw'⟩, _⟩
                rw [putR_zero] at hw'
                have hlo2 : w.heap.size ≤ B.lo := by have := HB3.out.size; omega
                exact ⟨he, ⟨p', m', c', hw'.c0, hw'.own.toT.mono hlo2⟩, below_bas hw'.gr HB.out (Nat.le_refl _) hg⟩
              have HPU' := HPU.out
              clear HPU hR hm hown HSX
              go_wp2_with fail
              refine HPU'.mono ?_
              rintro e w4 ⟨rfl, ⟨p4, m4, c4, k0, ho4⟩, hb4⟩
              have HO4 : Hid (OwnT w4 w.heap.size p4 m4 c4 [116, 114, 117, 101]) := ho4
              have HB4 : Hid (Below w3.heap.size w3 w4) := hb4
              clear ho4 hb4 HPU'
              go_wp2_with fail
              go_ret
              exact HFI.out _ _ _ _ (by rw [HFA.out]; simpa using HO4.out) HB4.out
            · have hm0 : 0 < m := by
                rw [hm]
                cases R with
                | nil => exact absurd rfl hR
                | cons _ _ => simp
              have hmi : ¬ ((m : Int) = 0) := by omega
              have hmb : ((m : Int) == 0) = false := by simp; omega
              have HFA2 : Hid (faA T N D = R) := by rw [HFA.out, if_neg hR]; rfl
              have HO4 : Hid (OwnT wr w.heap.size p m c R) := hown.mono HB3.out.size
              clear HFA hR hm hown HSX
              go_wp2_with fail
              go_ret
              exact HFI.out _ _ _ _ (by rw [HFA2.out]; exact HO4.out) HB.out
      · have HCN2 : Hid (∀ W, Below w.heap.size w W → Calls Tryz.prog 45 #[.slice pd n cd, .func (.func 44) #[] #[]] W fun e w' => e = .returned (.bool true) ∧ Below W.heap.size W w') := fun W hW => (HCN.out W hW).mono (by
          rintro e w' ⟨b, rfl, hb, hB⟩
          cases b with
          | true => exact ⟨rfl, hB⟩
          | false =>
            have h8 := hb.1 rfl
            exact absurd (by rw [← H2.out, ← EN.out]; exact h8) hall)
        have HNO : Hid (∀ W, Below w.heap.size w W → FaO w T N D (.returned (.slice none 0 0)) W) := fun W hW => fa_none (fun hg => hall hg.2.2) hW
        clear hall HCN HTO
        go_enter Tryz.func25, Tryz.ntmps25
        go_wp2_with fail
        refine HV1.mono ?_
        rintro e w1 ⟨rfl, hb1⟩
        have HB1 : Hid (Below w.heap.size w w1) := hb1
        clear hb1 HV1
        go_wp2_with fail
        refine (HCN2.out w1 HB1.out).mono ?_
        rintro e w2 ⟨rfl, hb2⟩
        have HB2 : Hid (Below w.heap.size w w2) := Below.on HB1.out hb2
        clear hb2 HCN2
        go_wp2_with fail
        go_ret
        exact HNO.out _ HB2.out
    · have HNO : Hid (∀ W, Below w.heap.size w W → FaO w T N D (.returned (.slice none 0 0)) W) := fun W hW => fa_none (fun hg => h2 hg.2.1) hW
      obtain ⟨n, en⟩ : ∃ n, n = N.length := ⟨_, rfl⟩
      obtain ⟨d, ed⟩ : ∃ d, d = D.length := ⟨_, rfl⟩
      rw [← en, ← ed] at h2 ⊢
      have h2i : ¬ ((n : Int) = d) := by omega
      have h2b : ((n : Int) == d) = false := by simp; omega
      have h2c : ((n : Int) != d) = true := by simp; omega
      rw [← en] at hnl
      rw [← ed] at hdl
      clear hT hN hD hF hTl en ed h1 hTab hPow
      go_enter Tryz.func25, Tryz.ntmps25
      go_wp2_with fail
      refine HV1.mono ?_
      rintro e w1 ⟨rfl, hb1⟩
      have HB1 : Hid (Below w.heap.size w w1) := hb1
      clear hb1 HV1
      go_wp2_with fail
      go_ret
      exact HNO.out _ HB1.out
  · have h1' : tabB T = false := by simpa using h1
    rw [h1'] at HV1
    have HNO : Hid (∀ W, Below w.heap.size w W → FaO w T N D (.returned (.slice none 0 0)) W) := fun W hW => fa_none (fun hg => h1 hg.1) hW
    clear hT hN hD hF hTl h1 h1' hTab hPow
    go_enter Tryz.func25, Tryz.ntmps25
    go_wp2_with fail
    refine HV1.mono ?_
    rintro e w1 ⟨rfl, hb1⟩
    have HB1 : Hid (Below w.heap.size w w1) := hb1
    clear hb1 HV1
    go_wp2_with fail
    go_ret
    exact HNO.out _ HB1.out
end Go.Proofs.YtelcfcgdnebdgaaGreatDoor
namespace Go.Proofs.YtelcfcgdnebdgaaGreatDoor
open Go Go.RowKit
set_option linter.unusedVariables false
theorem tcc_of {w : World} {p : Option Addr} {D : List (List Cel)} (h : CCIn w p D) (ht : TightCC w p D) : TCC w p D := fun hn => by
  obtain ⟨b, o, rfl, hc⟩ := h hn
  refine ⟨b, o, rfl, fun i hi => ?_⟩
  obtain ⟨q, c, h1, h2⟩ := hc i hi
  obtain ⟨q', h3⟩ := ht b o rfl i hi
  rw [h1] at h3
  injection h3 with h3
  injection h3 with h4 h5 h6
  exact ⟨q, by rw [h1, h6], h2⟩
theorem endSS_bd (k : Int) (D : List (List Cel)) : k ≤ endSS k D ∧ endSS k D ≤ k + 2 * tll D := kS_bound k D D.length
set_option maxRecDepth 100000 in
set_option maxHeartbeats 2000000 in
theorem lawFa_any (po : Option Addr) (co : Nat) (T : List Cel) (pn : Option Addr) (cn : Nat) (N : List (List Int)) (pd : Option Addr) (cd : Nat) (D : List (List Cel)) (w : World) (hin : OArg w po T) (hin2 : NArg w pn N) (hin3 : CCArg w pd D) (hTab : Tab w) (hPow : TabP w) :
    Calls Tryz.prog 4 #[.slice po T.length co, .slice pn N.length cn, .slice pd D.length cd] w fun e w' => e = .returned (.bool true) ∧ Below w.heap.size w w' := by
  have HI : Hid (OArg w po T) := hin
  have HJ : Hid (NArg w pn N) := hin2
  have HL : Hid (CCArg w pd D) := hin3
  have HS := szOpS_any po co T 1048576 w (Nat.le_refl _) hin.len hin.text hin.lies
  have HTP : Hid (Tab w ∧ TabP w) := ⟨hTab, hPow⟩
  have hlen1 := hin.len
  have hlen2 := hin2.len
  have hlen3 := hin3.len
  clear hin hin2 hin3 hTab hPow
  by_cases hn : T.length + tl T ≤ 1048576
  · obtain ⟨r, er, hr⟩ : ∃ r : Nat, szR 1048576 (T.length + tl T) = r ∧ r ≤ 1048576 := ⟨1048576 - (T.length + tl T), by rw [szR, if_pos hn]; omega, by omega⟩
    rw [er] at HS
    clear er
    have HS2 : Hid (∀ W, Below w.heap.size w W → Calls Tryz.prog 7 #[.slice pn N.length cn, .int .i64 r] W fun e w' => e = .returned (.int .i64 (szR r (N.length + tnn N))) ∧ Below W.heap.size W w') := fun W hW => szNN_any pn cn N r W hr (HJ.out.below hW)
    by_cases hm0 : N.length + tnn N ≤ r
    · obtain ⟨r2, er2, hr2⟩ : ∃ r2 : Nat, szR r (N.length + tnn N) = r2 ∧ r2 ≤ 1048576 := ⟨r - (N.length + tnn N), by rw [szR, if_pos hm0]; omega, by omega⟩
      rw [er2] at HS2
      clear er2
      have HS3 : Hid (∀ W, Below w.heap.size w W → Calls Tryz.prog 22 #[.slice pd D.length cd, .int .i64 r2] W fun e w' => e = .returned (.int .i64 (szR r2 (D.length + tll D))) ∧ Below W.heap.size W w') := fun W hW => szSS_any pd cd D r2 W hr2 (HL.out.below hW)
      have hm : N.length + tnn N ≤ 1048576 := by omega
      by_cases hk0 : D.length + tll D ≤ r2
      · obtain ⟨r3, er3⟩ : ∃ r3 : Nat, szR r2 (D.length + tll D) = r3 := ⟨r2 - (D.length + tll D), by rw [szR, if_pos hk0]; omega⟩
        rw [er3] at HS3
        clear er3
        have hkn : D.length + tll D ≤ 1048576 := by omega
        have hFB : FaB T N D := ⟨HI.out.byte, fun i hi => (HJ.out.item i hi).2, fun i hi => (HL.out.item i hi).2.2, hm, hkn⟩
        obtain ⟨R, hR⟩ : ∃ R, R = faR T N D := ⟨_, rfl⟩
        have HZL : Hid (R.length ≤ 6000000000) := by rw [hR]; exact (faR_good hFB).2
        have HSP : Hid (∀ (p q u : Option Addr) (w : World), OIn w p T → NIn w q N → TCC w u D → Calls Tryz.prog 23 #[.slice p T.length T.length, .slice q N.length N.length, .slice u D.length D.length] w fun e w' => ∃ q m c2, e = .returned (.slice q m c2) ∧ OwnT w' w.heap.size q m c2 R ∧ Below w.heap.size w w') := fun p q u w h1 h2 h3 => by
          rw [hR]
          exact specFa_any T N D p T.length q N.length u D.length w hFB (by omega) h1 h2 h3
        have HIM : Hid (∀ (p q u : Option Addr) (W : World), Below w.heap.size w W → OIn W p T → NIn W q N → TCC W u D → Calls Tryz.prog 25 #[.slice p T.length T.length, .slice q N.length N.length, .slice u D.length D.length] W fun e w' => ∃ q m c2, e = .returned (.slice q m c2) ∧ OwnT w' W.heap.size q m c2 R ∧ Below W.heap.size W w') := fun p q u W hW h1 h2 h3 => by
          rw [hR]
          exact implFa_any T N D p T.length q N.length u D.length W hFB (by omega) h1 h2 h3 (HTP.out.1.below hW) (HTP.out.2.below hW)
        clear hR hFB HTP hm0 hk0 hr hr2 hlen1 hlen2 hlen3
        go_enter Tryz.func4, Tryz.ntmps4
        go_wp2_with fail
        refine (HS).mono ?_
        rintro e w0 ⟨rfl, hb⟩
        have HA0 : Hid (Below w.heap.size w w0) := hb
        clear hb HS
        go_wp2_with fail
        refine (HS2.out w0 HA0.out).mono ?_
        rintro e w1 ⟨rfl, hb⟩
        have HA1 : Hid (Below w.heap.size w w1) := Below.on HA0.out hb
        clear hb
        go_wp2_with fail
        refine (HS3.out w1 HA1.out).mono ?_
        rintro e w2 ⟨rfl, hb⟩
        have HA2 : Hid (Below w.heap.size w w2) := Below.on HA1.out hb
        clear hb HA0 HA1 HS2 HS3
        go_wp2_with fail
        refine (toOpS_any po co T w2 hn (HI.out.below HA2.out).lies).mono ?_
        rintro e w3 ⟨rfl, ho, hb⟩
        have HA3 : Hid (Below w.heap.size w w3) := Below.on HA2.out hb
        have HP3 : Hid (OIn w3 (some ⟨w2.heap.size, 0, none⟩) T) := ho.oin
        clear ho hb
        go_wp2_with fail
        refine (toNN_any pn cn N w3 hm (HJ.out.below HA3.out)).mono ?_
        rintro e w4 ⟨rfl, ⟨gs2, ho⟩, hb⟩
        have HA4 : Hid (Below w.heap.size w w4) := Below.on HA3.out hb
        have HP4 : Hid (OIn w4 (some ⟨w2.heap.size, 0, none⟩) T) := HP3.out.below hb
        have HQ4 : Hid (NIn w4 (some ⟨w3.heap.size, 0, none⟩) N) := ho.nin
        clear ho hb
        go_wp2_with fail
        refine (toSS_any pd cd D w4 hkn (HL.out.below HA4.out)).mono ?_
        rintro e w5 ⟨rfl, ho, ht, hb⟩
        have HA5 : Hid (Below w.heap.size w w5) := Below.on HA4.out hb
        have HP5 : Hid (OIn w5 (some ⟨w2.heap.size, 0, none⟩) T) := HP4.out.below hb
        have HQ5 : Hid (NIn w5 (some ⟨w3.heap.size, 0, none⟩) N) := HQ4.out.below hb
        have HV5 : Hid (TCC w5 (some ⟨w4.heap.size, 0, none⟩) D) := tcc_of ho.ccin ht
        clear ho ht hb
        go_wp2_with fail
        refine (HSP.out _ _ _ w5 HP5.out HQ5.out HV5.out).mono ?_
        rintro e w6 ⟨p6, n6, c6, rfl, ho, hb⟩
        have HA6 : Hid (Below w.heap.size w w6) := Below.on HA5.out hb
        have HB6 : Hid (Below w6.heap.size w6 w6) := Below.refl _ _
        have HZ6 : Hid (BIn w6 p6 R ∧ n6 = R.length) := ⟨ho.bin, ho.1⟩
        clear ho hb
        go_wp2_with fail
        refine (toOpS_any po co T w6 hn (HI.out.below HA6.out).lies).mono ?_
        rintro e w7 ⟨rfl, ho, hb⟩
        have HA7 : Hid (Below w.heap.size w w7) := Below.on HA6.out hb
        have HB7 : Hid (Below w6.heap.size w6 w7) := Below.on HB6.out hb
        have HX7 : Hid (OwnOU w7 w6.heap.size w7.heap.size (some ⟨w6.heap.size, 0, none⟩) T.length T.length T) := ho.up
        clear ho hb
        go_wp2_with fail
        refine (toNN_any pn cn N w7 hm (HJ.out.below HA7.out)).mono ?_
        rintro e w8 ⟨rfl, ⟨gs9, ho⟩, hb⟩
        have HA8 : Hid (Below w.heap.size w w8) := Below.on HA7.out hb
        have HB8 : Hid (Below w6.heap.size w6 w8) := Below.on HB7.out hb
        have HX8 : Hid (OwnOU w8 w6.heap.size w7.heap.size (some ⟨w6.heap.size, 0, none⟩) T.length T.length T) := HX7.out.below hb
        have HY8 : Hid (OwnNN w8 w7.heap.size w8.heap.size w7.heap.size N gs9) := ho
        have HS7 : Hid (w7.heap.size ≤ w8.heap.size) := hb.size
        clear ho hb
        go_wp2_with fail
        refine (toSS_any pd cd D w8 hkn (HL.out.below HA8.out)).mono ?_
        rintro e w9 ⟨rfl, ho, ht, hb⟩
        have HA9 : Hid (Below w.heap.size w w9) := Below.on HA8.out hb
        have HB9 : Hid (Below w6.heap.size w6 w9) := Below.on HB8.out hb
        have HX9 : Hid (OwnOU w9 w6.heap.size w7.heap.size (some ⟨w6.heap.size, 0, none⟩) T.length T.length T) := HX8.out.below hb
        have HY9 : Hid (OwnNN w9 w7.heap.size w8.heap.size w7.heap.size N gs9) := HY8.out.below hb
        have HW9 : Hid (OwnCC w9 w8.heap.size w9.heap.size (some ⟨w8.heap.size, 0, none⟩) D.length D.length D) := ho
        have HS8 : Hid (w8.heap.size ≤ w9.heap.size) := hb.size
        have HU9 : Hid (TCC w9 (some ⟨w8.heap.size, 0, none⟩) D) := tcc_of ho.ccin ht
        clear ho ht hb
        go_wp2_with fail
        refine (HIM.out _ _ _ w9 HA9.out HX9.out.toO.oin HY9.out.nin HU9.out).mono ?_
        rintro e w10 ⟨p10, n10, c10, rfl, ho, hb⟩
        have HA10 : Hid (Below w.heap.size w w10) := Below.on HA9.out hb
        have HB10 : Hid (Below w6.heap.size w6 w10) := Below.on HB9.out hb
        have HX10 : Hid (OwnOU w10 w6.heap.size w7.heap.size (some ⟨w6.heap.size, 0, none⟩) T.length T.length T) := HX9.out.below hb
        have HY10 : Hid (OwnNN w10 w7.heap.size w8.heap.size w7.heap.size N gs9) := HY9.out.below hb
        have HW10 : Hid (OwnCC w10 w8.heap.size w9.heap.size (some ⟨w8.heap.size, 0, none⟩) D.length D.length D) := HW9.out.below hb
        have HG10 : Hid (OwnT w10 w9.heap.size p10 n10 c10 R) := ho
        have HN10 : Hid (n10 = R.length) := ho.1
        clear ho hb
        go_wp2_with fail
        refine (eqB_same p10 p6 c10 c6 _ _ R w10 (by have := HZL.out; omega) HN10.out HZ6.out.2 (HG10.out.bin) (HZ6.out.1.below HB10.out)).mono ?_
        rintro e w11 ⟨rfl, hb⟩
        have HA11 : Hid (Below w.heap.size w w11) := Below.on HA10.out hb
        have HB11 : Hid (Below w6.heap.size w6 w11) := Below.on HB10.out hb
        have HX11 : Hid (OwnOU w11 w6.heap.size w7.heap.size (some ⟨w6.heap.size, 0, none⟩) T.length T.length T) := HX10.out.below hb
        have HY11 : Hid (OwnNN w11 w7.heap.size w8.heap.size w7.heap.size N gs9) := HY10.out.below hb
        have HW11 : Hid (OwnCC w11 w8.heap.size w9.heap.size (some ⟨w8.heap.size, 0, none⟩) D.length D.length D) := HW10.out.below hb
        have HG11 : Hid (OwnT w11 w9.heap.size p10 n10 c10 R) := HG10.out.below hb
        clear hb
        go_wp2_with fail
        refine (toOpS_any po co T w11 hn (HI.out.below HA11.out).lies).mono ?_
        rintro e w12 ⟨rfl, ho, hb⟩
        have HA12 : Hid (Below w.heap.size w w12) := Below.on HA11.out hb
        have HB12 : Hid (Below w6.heap.size w6 w12) := Below.on HB11.out hb
        have HX12 : Hid (OwnOU w12 w6.heap.size w7.heap.size (some ⟨w6.heap.size, 0, none⟩) T.length T.length T) := HX11.out.below hb
        have HY12 : Hid (OwnNN w12 w7.heap.size w8.heap.size w7.heap.size N gs9) := HY11.out.below hb
        have HW12 : Hid (OwnCC w12 w8.heap.size w9.heap.size (some ⟨w8.heap.size, 0, none⟩) D.length D.length D) := HW11.out.below hb
        have HG12 : Hid (OwnT w12 w9.heap.size p10 n10 c10 R) := HG11.out.below hb
        have HP12 : Hid (OIn w12 (some ⟨w11.heap.size, 0, none⟩) T) := ho.oin
        clear ho hb
        go_wp2_with fail
        refine (eqOpS_any _ _ _ _ T T w12 (by omega) (by omega) HX12.out.toO.oin HP12.out).mono ?_
        rintro e w13 ⟨rfl, hb⟩
        have HA13 : Hid (Below w.heap.size w w13) := Below.on HA12.out hb
        have HB13 : Hid (Below w6.heap.size w6 w13) := Below.on HB12.out hb
        have HX13 : Hid (OwnOU w13 w6.heap.size w7.heap.size (some ⟨w6.heap.size, 0, none⟩) T.length T.length T) := HX12.out.below hb
        have HY13 : Hid (OwnNN w13 w7.heap.size w8.heap.size w7.heap.size N gs9) := HY12.out.below hb
        have HW13 : Hid (OwnCC w13 w8.heap.size w9.heap.size (some ⟨w8.heap.size, 0, none⟩) D.length D.length D) := HW12.out.below hb
        have HG13 : Hid (OwnT w13 w9.heap.size p10 n10 c10 R) := HG12.out.below hb
        have ht : decide (T = T) = true := by simp
        rw [ht]
        clear ht hb HP12
        go_wp2_with fail
        refine (toNN_any pn cn N w13 hm (HJ.out.below HA13.out)).mono ?_
        rintro e w14 ⟨rfl, ⟨gs13, ho⟩, hb⟩
        have HA14 : Hid (Below w.heap.size w w14) := Below.on HA13.out hb
        have HB14 : Hid (Below w6.heap.size w6 w14) := Below.on HB13.out hb
        have HX14 : Hid (OwnOU w14 w6.heap.size w7.heap.size (some ⟨w6.heap.size, 0, none⟩) T.length T.length T) := HX13.out.below hb
        have HY14 : Hid (OwnNN w14 w7.heap.size w8.heap.size w7.heap.size N gs9) := HY13.out.below hb
        have HW14 : Hid (OwnCC w14 w8.heap.size w9.heap.size (some ⟨w8.heap.size, 0, none⟩) D.length D.length D) := HW13.out.below hb
        have HG14 : Hid (OwnT w14 w9.heap.size p10 n10 c10 R) := HG13.out.below hb
        have HQ14 : Hid (NIn w14 (some ⟨w13.heap.size, 0, none⟩) N) := ho.nin
        clear ho hb
        go_wp2_with fail
        refine (eqNN_same _ _ _ _ N w14 hm HY14.out.nin HQ14.out).mono ?_
        rintro e w15 ⟨rfl, hb⟩
        have HA15 : Hid (Below w.heap.size w w15) := Below.on HA14.out hb
        have HB15 : Hid (Below w6.heap.size w6 w15) := Below.on HB14.out hb
        have HX15 : Hid (OwnOU w15 w6.heap.size w7.heap.size (some ⟨w6.heap.size, 0, none⟩) T.length T.length T) := HX14.out.below hb
        have HY15 : Hid (OwnNN w15 w7.heap.size w8.heap.size w7.heap.size N gs9) := HY14.out.below hb
        have HW15 : Hid (OwnCC w15 w8.heap.size w9.heap.size (some ⟨w8.heap.size, 0, none⟩) D.length D.length D) := HW14.out.below hb
        have HG15 : Hid (OwnT w15 w9.heap.size p10 n10 c10 R) := HG14.out.below hb
        clear hb HQ14
        go_wp2_with fail
        refine (toSS_any pd cd D w15 hkn (HL.out.below HA15.out)).mono ?_
        rintro e w16 ⟨rfl, ho, ht, hb⟩
        have HA16 : Hid (Below w.heap.size w w16) := Below.on HA15.out hb
        have HB16 : Hid (Below w6.heap.size w6 w16) := Below.on HB15.out hb
        have HX16 : Hid (OwnOU w16 w6.heap.size w7.heap.size (some ⟨w6.heap.size, 0, none⟩) T.length T.length T) := HX15.out.below hb
        have HY16 : Hid (OwnNN w16 w7.heap.size w8.heap.size w7.heap.size N gs9) := HY15.out.below hb
        have HW16 : Hid (OwnCC w16 w8.heap.size w9.heap.size (some ⟨w8.heap.size, 0, none⟩) D.length D.length D) := HW15.out.below hb
        have HG16 : Hid (OwnT w16 w9.heap.size p10 n10 c10 R) := HG15.out.below hb
        have HV16 : Hid (CCIn w16 (some ⟨w15.heap.size, 0, none⟩) D) := ho.ccin
        clear ho ht hb
        go_wp2_with fail
        refine (eqSS_any _ _ _ _ _ _ D w16 rfl rfl (by omega) HW16.out.ccin HV16.out).mono ?_
        rintro e w17 ⟨rfl, hb⟩
        have HA17 : Hid (Below w.heap.size w w17) := Below.on HA16.out hb
        have HB17 : Hid (Below w6.heap.size w6 w17) := Below.on HB16.out hb
        have HX17 : Hid (OwnOU w17 w6.heap.size w7.heap.size (some ⟨w6.heap.size, 0, none⟩) T.length T.length T) := HX16.out.below hb
        have HY17 : Hid (OwnNN w17 w7.heap.size w8.heap.size w7.heap.size N gs9) := HY16.out.below hb
        have HW17 : Hid (OwnCC w17 w8.heap.size w9.heap.size (some ⟨w8.heap.size, 0, none⟩) D.length D.length D) := HW16.out.below hb
        have HG17 : Hid (OwnT w17 w9.heap.size p10 n10 c10 R) := HG16.out.below hb
        clear hb HV16
        go_wp2_with fail
        refine (markOps_any w6.heap.size w7.heap.size _ _ _ 1 T w17 (by decide) (by decide) (by omega) HX17.out).mono ?_
        rintro e w18 ⟨rfl, ho, hk⟩
        have HA18 : Hid (Below w.heap.size w w18) := HA17.out.trans (hk.below HA6.out.size HA17.out.size)
        have HB18 : Hid (Below w6.heap.size w6 w18) := HB17.out.trans (hk.below (Nat.le_refl _) HB17.out.size)
        have HY18 : Hid (OwnNN w18 w7.heap.size w8.heap.size w7.heap.size N gs9) := HY17.out.keep hk (Nat.le_refl _)
        have HW18 : Hid (OwnCC w18 w8.heap.size w9.heap.size (some ⟨w8.heap.size, 0, none⟩) D.length D.length D) := HW17.out.keep hk (.inr HS7.out)
        have HG18 : Hid (OwnT w18 w9.heap.size p10 n10 c10 R) := HG17.out.keepU hk (Nat.le_trans HS7.out HS8.out)
        obtain ⟨k1, ek1⟩ : ∃ k, k = endO 1 T := ⟨_, rfl⟩
        have hk1 : 0 ≤ k1 ∧ k1 ≤ 3200000 := by rw [ek1, endO_eq]; omega
        rw [← ek1]
        clear ek1 ho hk HX17
        go_wp2_with fail
        refine (markNN_any w7.heap.size w8.heap.size w7.heap.size k1 N gs9 w18 hk1.1 (by omega) hm HY18.out).mono ?_
        rintro e w19 ⟨rfl, hk⟩
        have HA19 : Hid (Below w.heap.size w w19) := HA18.out.trans (hk.below HA7.out.size HA18.out.size)
        have HB19 : Hid (Below w6.heap.size w6 w19) := HB18.out.trans (hk.below HB7.out.size HB18.out.size)
        have HW19 : Hid (OwnCC w19 w8.heap.size w9.heap.size (some ⟨w8.heap.size, 0, none⟩) D.length D.length D) := HW18.out.keep hk (.inr (Nat.le_refl _))
        have HG19 : Hid (OwnT w19 w9.heap.size p10 n10 c10 R) := HG18.out.keepU hk HS8.out
        obtain ⟨k2, ek2⟩ : ∃ k : Int, k = k1 + (tnn N : Nat) := ⟨_, rfl⟩
        have hk2 : 0 ≤ k2 ∧ k2 ≤ 5000000 := by rw [ek2]; omega
        rw [← ek2]
        clear ek2 hk HY18 hk1
        go_wp2_with fail
        refine (markSS_any w8.heap.size w9.heap.size _ _ _ k2 D w19 hk2.1 hk2.2 (by omega) HW19.out).mono ?_
        rintro e w20 ⟨rfl, ho, hk⟩
        have HA20 : Hid (Below w.heap.size w w20) := HA19.out.trans (hk.below HA8.out.size HA19.out.size)
        have HB20 : Hid (Below w6.heap.size w6 w20) := HB19.out.trans (hk.below HB8.out.size HB19.out.size)
        have HG20 : Hid (OwnT w20 w9.heap.size p10 n10 c10 R) := HG19.out.keepU hk (Nat.le_refl _)
        obtain ⟨k3, ek3⟩ : ∃ k : Int, k = endSS k2 D := ⟨_, rfl⟩
        have hk3 : ¬ k3 < 0 := by have := endSS_bd k2 D; rw [ek3]; omega
        rw [← ek3]
        clear ek3 ho hk HW19 hk2
        go_wp2_with fail
        refine (eqB_same p10 p6 c10 c6 _ _ R w20 (by have := HZL.out; omega) HN10.out HZ6.out.2 (HG20.out.bin) (HZ6.out.1.below HB20.out)).mono ?_
        rintro e w21 ⟨rfl, hb⟩
        have HA21 : Hid (Below w.heap.size w w21) := Below.on HA20.out hb
        have HB21 : Hid (Below w6.heap.size w6 w21) := Below.on HB20.out hb
        have HG21 : Hid (OwnT w21 w9.heap.size p10 n10 c10 R) := HG20.out.below hb
        clear hb
        go_wp2_with fail
        refine (markTB_any w9.heap.size p10 n10 c10 1 R w21 (by decide) (by decide) (by have := HZL.out; have := HN10.out; omega) HG21.out).mono ?_
        rintro e w22 ⟨rfl, ho, hg⟩
        have hk : Keep w9.heap.size w21.heap.size w21 w22 := Keep.of_grown hg (fun k e => (HG21.out.tb e).2)
        have HA22 : Hid (Below w.heap.size w w22) := HA21.out.trans (hk.below HA9.out.size HA21.out.size)
        have HB22 : Hid (Below w6.heap.size w6 w22) := HB21.out.trans (hk.below HB9.out.size HB21.out.size)
        have HH22 : Hid (BIn w22 p10 (marks 1 n10)) := ho.bin
        obtain ⟨mm, emm⟩ : ∃ mm : Int, mm = 1 + (n10 : Nat) := ⟨_, rfl⟩
        have hmm : ¬ mm < 0 := by rw [emm]; omega
        have HMM : Hid (mm = 1 + (n10 : Nat)) := emm
        rw [← emm]
        clear emm ho hk hg HG21
        go_wp2_with fail
        refine (heldB_any p10 n10 c10 1 w22 (by decide) (by decide) (by have := HZL.out; have := HN10.out; omega) HH22.out).mono ?_
        rintro e wh ⟨rfl, hwh⟩
        rw [hwh, ← HMM.out]
        clear hwh
        go_wp2_with fail
        refine (toOpS_any po co T w22 hn (HI.out.below HA22.out).lies).mono ?_
        rintro e w23 ⟨rfl, ho, hb⟩
        have HA23 : Hid (Below w.heap.size w w23) := Below.on HA22.out hb
        have HB23 : Hid (Below w6.heap.size w6 w23) := Below.on HB22.out hb
        have HH23 : Hid (BIn w23 p10 (marks 1 n10)) := HH22.out.below hb
        have HP23 : Hid (OIn w23 (some ⟨w22.heap.size, 0, none⟩) T) := ho.oin
        clear ho hb
        go_wp2_with fail
        refine (toNN_any pn cn N w23 hm (HJ.out.below HA23.out)).mono ?_
        rintro e w24 ⟨rfl, ⟨gs22, ho⟩, hb⟩
        have HA24 : Hid (Below w.heap.size w w24) := Below.on HA23.out hb
        have HB24 : Hid (Below w6.heap.size w6 w24) := Below.on HB23.out hb
        have HH24 : Hid (BIn w24 p10 (marks 1 n10)) := HH23.out.below hb
        have HP24 : Hid (OIn w24 (some ⟨w22.heap.size, 0, none⟩) T) := HP23.out.below hb
        have HQ24 : Hid (NIn w24 (some ⟨w23.heap.size, 0, none⟩) N) := ho.nin
        clear ho hb
        go_wp2_with fail
        refine (toSS_any pd cd D w24 hkn (HL.out.below HA24.out)).mono ?_
        rintro e w25 ⟨rfl, ho, ht, hb⟩
        have HA25 : Hid (Below w.heap.size w w25) := Below.on HA24.out hb
        have HB25 : Hid (Below w6.heap.size w6 w25) := Below.on HB24.out hb
        have HH25 : Hid (BIn w25 p10 (marks 1 n10)) := HH24.out.below hb
        have HP25 : Hid (OIn w25 (some ⟨w22.heap.size, 0, none⟩) T) := HP24.out.below hb
        have HQ25 : Hid (NIn w25 (some ⟨w23.heap.size, 0, none⟩) N) := HQ24.out.below hb
        have HV25 : Hid (TCC w25 (some ⟨w24.heap.size, 0, none⟩) D) := tcc_of ho.ccin ht
        clear ho ht hb
        go_wp2_with fail
        refine (HIM.out _ _ _ w25 HA25.out HP25.out HQ25.out HV25.out).mono ?_
        rintro e w26 ⟨p26, n26, c26, rfl, ho, hb⟩
        have HA26 : Hid (Below w.heap.size w w26) := Below.on HA25.out hb
        have HB26 : Hid (Below w6.heap.size w6 w26) := Below.on HB25.out hb
        have HH26 : Hid (BIn w26 p10 (marks 1 n10)) := HH25.out.below hb
        have HG26 : Hid (BIn w26 p26 R ∧ n26 = R.length) := ⟨ho.bin, ho.1⟩
        clear ho hb
        go_wp2_with fail
        refine (eqB_same p26 p6 c26 c6 _ _ R w26 (by have := HZL.out; omega) HG26.out.2 HZ6.out.2 (HG26.out.1) (HZ6.out.1.below HB26.out)).mono ?_
        rintro e w27 ⟨rfl, hb⟩
        have HA27 : Hid (Below w.heap.size w w27) := Below.on HA26.out hb
        have HB27 : Hid (Below w6.heap.size w6 w27) := Below.on HB26.out hb
        have HH27 : Hid (BIn w27 p10 (marks 1 n10)) := HH26.out.below hb
        clear hb
        go_wp2_with fail
        refine (heldB_any p10 n10 c10 1 w27 (by decide) (by decide) (by have := HZL.out; have := HN10.out; omega) HH27.out).mono ?_
        rintro e wh ⟨rfl, hwh⟩
        rw [hwh, ← HMM.out]
        clear hwh
        go_wp2_with fail
        go_ret
        exact ⟨rfl, HA27.out⟩
      · have er3 : szR r2 (D.length + tll D) = -1 := by rw [szR, if_neg hk0]
        rw [er3] at HS3
        clear er3 HTP
        go_enter Tryz.func4, Tryz.ntmps4
        go_wp2_with fail
        refine (HS).mono ?_
        rintro e w0 ⟨rfl, hb⟩
        have HA0 : Hid (Below w.heap.size w w0) := hb
        clear hb
        go_wp2_with fail
        refine (HS2.out w0 HA0.out).mono ?_
        rintro e w1 ⟨rfl, hb⟩
        have HA1 : Hid (Below w.heap.size w w1) := Below.on HA0.out hb
        clear hb
        go_wp2_with fail
        refine (HS3.out w1 HA1.out).mono ?_
        rintro e w2 ⟨rfl, hb⟩
        have HA2 : Hid (Below w.heap.size w w2) := Below.on HA1.out hb
        clear hb
        go_wp2_with fail
        go_ret
        exact ⟨rfl, HA2.out⟩
    · have er2 : szR r (N.length + tnn N) = -1 := by rw [szR, if_neg hm0]
      rw [er2] at HS2
      clear er2 HTP
      go_enter Tryz.func4, Tryz.ntmps4
      go_wp2_with fail
      refine (HS).mono ?_
      rintro e w0 ⟨rfl, hb⟩
      have HA0 : Hid (Below w.heap.size w w0) := hb
      clear hb
      go_wp2_with fail
      refine (HS2.out w0 HA0.out).mono ?_
      rintro e w1 ⟨rfl, hb⟩
      have HA1 : Hid (Below w.heap.size w w1) := Below.on HA0.out hb
      clear hb
      go_wp2_with fail
      go_ret
      exact ⟨rfl, HA1.out⟩
  · have er : szR 1048576 (T.length + tl T) = -1 := by rw [szR, if_neg hn]
    rw [er] at HS
    clear er HTP
    go_enter Tryz.func4, Tryz.ntmps4
    go_wp2_with fail
    refine (HS).mono ?_
    rintro e w0 ⟨rfl, hb⟩
    have HA0 : Hid (Below w.heap.size w w0) := hb
    clear hb
    go_wp2_with fail
    go_ret
    exact ⟨rfl, HA0.out⟩
end Go.Proofs.YtelcfcgdnebdgaaGreatDoor
