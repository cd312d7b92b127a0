/- Texts of LcQ, LcR, LcS0. Own work of the verifier. -/
import Derived.Test.YtjhbplgppakhoaaGreatDoorUqbm
import Derived.Test.YtjhbplgppakhoaaGreatDoorUqak
import Derived.Test.YtjhbplgppakhoaaGreatDoorUqal
import Derived.Test.YtjhbplgppakhoaaGreatDoorUqbd
import Derived.Test.YtjhbplgppakhoaaGreatDoorUqaf
namespace Go.Proofs.YtjhbplgppakhoaaGreatDoor
open Go Go.RowKit
set_option linter.unusedVariables false
set_option linter.unusedSimpArgs false
def LcO (w : World) (T : List Cel) (xs : List Iv) (e : Ending) (w' : World) : Prop := ∃ p n c, e = .returned (.slice p n c) ∧ OwnT w' w.heap.size p n c (lcT T xs) ∧ Below w.heap.size w w'
def IvOne (x : Iv) : Prop := Byte x.c.2.2 ∧ (-9223372036854775808 ≤ x.r ∧ x.r < 9223372036854775808) ∧ (-9223372036854775808 ≤ x.a ∧ x.a < 9223372036854775808) ∧ (-9223372036854775808 ≤ x.c.2.1 ∧ x.c.2.1 < 9223372036854775808)
def IvOk (xs : List Iv) : Prop := ∀ i, i < xs.length → IvOne (xs.getD i Iv.zero)
theorem lc_nil {w : World} {T : List Cel} {xs : List Iv} (h : ¬ (tabB T = true ∧ xs.length ≤ 20000 ∧ ∀ i, i < xs.length → okI (xs.getD i Iv.zero) = true)) (W : World) (hW : Below w.heap.size w W) : LcO w T xs (.returned (.slice none 0 0)) W :=
  ⟨none, 0, 0, rfl, by unfold lcT; rw [if_neg h]; exact ownT_nil _ _, hW⟩
theorem lnsT_byte (xs : List Iv) (hI : IvOk xs) : ∀ k, k ≤ xs.length → (∀ i, i < k → okI (xs.getD i Iv.zero) = true) → Byte (lnsT xs k)
  | 0, _, _ => byte_nil
  | k + 1, h, ho => by
    have b := ho k (by omega)
    simp only [okI, decide_eq_true_eq] at b
    exact byte_app (lnsT_byte xs hI k (by omega) (fun i hi => ho i (by omega))) (lineT_byte (hI k (by omega)).1 b.1 b.2.1)
set_option maxRecDepth 100000 in
set_option maxHeartbeats 4000000 in
theorem implLc_any (T : List Cel) (xs : List Iv) (po : Option Addr) (co : Nat) (p : Option Addr) (N pc : Nat) (g : Option Addr) (M gc : Nat) (w : World) (hTb : ∀ i, i < T.length → Byte (T.getD i Cel.none).2.2) (hTl : T.length + tl T ≤ 1000000000) (hT : OIn w po T) (hN : N = xs.length) (hNl : N ≤ 1048576) (hx : IvIn w p xs) (hI : IvOk xs) (hTab : Tab w) (hPow : TabP w) :
    Calls Tryz.prog 25 #[.slice po T.length co, .agg #[.slice p N pc, .slice g M gc]] w (LcO w T xs) := by
  have HV : Hid (∀ W, Below w.heap.size w W → Calls Tryz.prog 37 #[.slice po T.length co] W fun e w' => e = .returned (.bool (tabB T)) ∧ Below W.heap.size W w') := fun W hW => implTab_any po co T W hTl (hT.below hW)
  have HNIL : Hid (¬ (tabB T = true ∧ xs.length ≤ 20000 ∧ ∀ i, i < xs.length → okI (xs.getD i Iv.zero) = true) → ∀ W, Below w.heap.size w W → LcO w T xs (.returned (.slice none 0 0)) W) := fun h W hW => lc_nil h W hW
  have HB0 : Hid (∀ o, Below w.heap.size w (w.alloc o)) := fun o => (Below.refl _ _).alloc (Nat.le_refl _) _
  have HNX : Hid (N = xs.length ∧ IvOk xs ∧ IvIn w p xs ∧ Tab w ∧ TabP w) := ⟨hN, hI, hx, hTab, hPow⟩
  have HBK : Hid (∀ o, (w.alloc o).heap[w.heap.size]? = some o) := fun o => heap_alloc_new w o
  by_cases h1 : tabB T = true
  · rw [h1] at HV
    have ft := tab_facts h1
    obtain ⟨ft1, ft2⟩ := ft
    obtain ⟨hasc, hokc⟩ := chain_ascW h1
    have hokT : ∀ x ∈ T, okT x := fun x hx' => by
      obtain ⟨i, hi, rfl⟩ := List.getElem_of_mem hx'
      have h8 := hTb i hi
      have h9 := (ft2 i hi).1.2
      simp only [List.getD, List.getElem?_eq_getElem hi, Option.getD_some] at h8 h9
      exact ⟨h8, by omega⟩
    have HTO : Hid (∀ W, Below w.heap.size w W → Calls Tryz.prog 39 #[.slice po T.length co] W fun e w' => e = .returned (.map (some W.heap.size)) ∧ OpMap w' W.heap.size T.length T ∧ Below W.heap.size W w') := fun W hB => tableOf_any po co T W (by omega) hokT (List.Pairwise.imp (fun h => ltO_key h) hasc) (hT.below hB)
    have HT1 : Hid (tabB T = true) := h1
    obtain ⟨lt, elt⟩ : ∃ lt, lt = T.length := ⟨_, rfl⟩
    rw [← elt] at HV HTO ⊢
    clear hTb hTl hT hN hx hI hTab hPow ft1 ft2 hasc hokc hokT h1 elt
    by_cases h2 : N ≤ 20000
    · have hN2 : (N : Int) ≤ 20000 := by omega
      have st0 := fun (W : World) (a : Addr) m => run_store Tryz.prog W a .nilFunc m rfl
      go_enter Tryz.func25, Tryz.ntmps25
      go_wp2_with fail
      refine (HV.out _ (HB0.out _)).mono ?_
      rintro e w1 ⟨rfl, hb1⟩
      have HB1 : Hid (Below w.heap.size w w1) := Below.on (HB0.out _) hb1
      have HX1 : Hid (w1.heap[w.heap.size]? = some (.cells #[.slice p N pc, .slice g M gc] 52)) := (hb1.block w.heap.size (by simp)).trans (HBK.out _)
      have x0 : w1.cell? ⟨w.heap.size, 0, none⟩ = some (.slice p N pc) := by simp [World.cell?, HX1.out]
      clear hb1 HV
      go_wp2_with fail
      refine (HTO.out w1 HB1.out).mono ?_
      rintro e w2 ⟨rfl, hm2, hb2⟩
      have HB2 : Hid (Below w.heap.size w w2) := Below.on HB1.out hb2
      have HX2 : Hid (w2.heap[w.heap.size]? = some (.cells #[.slice p N pc, .slice g M gc] 52)) := (hb2.block w.heap.size (Array.getElem?_eq_some_iff.1 HX1.out).1).trans HX1.out
      clear hm2 hb2 HTO
      go_wp2_with fail
      refine (insForms_any w2).mono ?_
      rintro e w3 ⟨rfl, hf3, hb3⟩
      have HB3 : Hid (Below w.heap.size w w3) := Below.on HB2.out hb3
      have HX3 : Hid (w3.heap[w.heap.size]? = some (.cells #[.slice p N pc, .slice g M gc] 52)) := (hb3.block w.heap.size (Array.getElem?_eq_some_iff.1 HX2.out).1).trans HX2.out
      have HE : Hid _ := ls_env (mb := w1.heap.size) (HNX.out.2.2.2.1.below HB3.out) (HNX.out.2.2.2.2.below HB3.out) hf3
      have x3 : w3.cell? ⟨w.heap.size, 0, none⟩ = some (.slice p N pc) := by simp [World.cell?, HX3.out]
      have hlt3 : w.heap.size < w3.heap.size := (Array.getElem?_eq_some_iff.1 HX3.out).1
      have x4 : (w3.alloc (.cells #[.slice none 0 0, .nilFunc, .map (some w1.heap.size), .slice none 0 0, .bool true, .slice (some ⟨w2.heap.size, 0, none⟩) 33 33] 103)).cell? ⟨w.heap.size, 0, none⟩ = some (.slice p N pc) := ((Below.refl w3.heap.size w3).alloc (Nat.le_refl _) (.cells #[.slice none 0 0, .nilFunc, .map (some w1.heap.size), .slice none 0 0, .bool true, .slice (some ⟨w2.heap.size, 0, none⟩) 33 33] 103)).cell (p := ⟨w.heap.size, 0, none⟩) hlt3 |>.trans x3
      clear hf3 hb3 x0
      go_wp2_with fail
      obtain ⟨Bb, eBb⟩ : ∃ Bb, Bb = lsB w3 w1.heap.size w2.heap.size := ⟨_, rfl⟩
      have HBL : Hid (∀ W, Bb.grownBy W (some w3.heap.size) → Below w.heap.size w W) := fun W h => by rw [eBb] at h; exact Below.on HB3.out (lsB_below h)
      have HLO : Hid (w.heap.size ≤ Bb.lo) := by rw [eBb]; show w.heap.size ≤ w3.heap.size + 1; have := HB3.out.size; omega
      have HE' := HE.out
      rw [← eBb] at HE'
      have HKK : Hid (TabsK Bb w3.heap.size ∧ NamesK Bb w3.heap.size (w1.heap.size, none, 0, 0, true) [] ∧ FormsK Bb w3.heap.size w2.heap.size) := ⟨HE'.1, HE'.2.1, HE'.2.2.1⟩
      have HS0 : Hid (WS Bb (w3.alloc (.cells #[.slice none 0 0, .nilFunc, .map (some w1.heap.size), .slice none 0 0, .bool true, .slice (some ⟨w2.heap.size, 0, none⟩) 33 33] 103)) w3.heap.size (w1.heap.size, none, 0, 0, true) none 0 0 [] 0) := HE'.2.2.2
      clear HE' HE eBb x3 x4 hlt3
      go_loopw [25] (fun v wr => ∃ k : Nat, k ≤ N ∧ v = .int .i64 k ∧ Hid ((∃ p n c, WS Bb wr w3.heap.size (w1.heap.size, none, 0, 0, true) p n c (lnsT xs k) 0) ∧ ∀ i, i < k → okI (xs.getD i Iv.zero) = true)) (fun v _ => N - (intOf v).toNat)
      case atStart => exact ⟨0, Nat.zero_le _, rfl, ⟨none, 0, 0, HS0.out⟩, fun i h => by omega⟩
      case round =>
        obtain ⟨k, hk, rfl, HL⟩ := hrel
        have HBW : Hid (Below w.heap.size w wr) := by obtain ⟨⟨_, _, _, h⟩, _⟩ := HL.out; exact HBL.out wr h.gr
        by_cases hlt : k < N
        · have hkl : k < xs.length := by rw [← HNX.out.1]; exact hlt
          obtain ⟨b, o, rfl, hcs⟩ := HNX.out.2.2.1 (by omega)
          obtain ⟨q, qc, s, sc, u, uc, h0, hq1, _, _⟩ := hcs k hkl
          have hbl : b < w.heap.size := World.block_lt_of_cell? (u := .int .i64 (xs.getD k Iv.zero).op) w ⟨b, o + k * 8 + 0, none⟩ (h0 0 (by omega))
          have d0 : wr.cell? ⟨b, o + k * 8, none⟩ = some (.int .i64 (xs.getD k Iv.zero).op) := (HBW.out.cell (p := ⟨b, _, none⟩) hbl).trans (h0 0 (by omega))
          have d1 : wr.cell? ⟨b, o + k * 8 + 1, none⟩ = some (.int .i64 (xs.getD k Iv.zero).r) := (HBW.out.cell (p := ⟨b, _, none⟩) hbl).trans (h0 1 (by omega))
          have d2 : wr.cell? ⟨b, o + k * 8 + 2, none⟩ = some (.int .i64 (xs.getD k Iv.zero).a) := (HBW.out.cell (p := ⟨b, _, none⟩) hbl).trans (h0 2 (by omega))
          have d3 : wr.cell? ⟨b, o + k * 8 + 3, none⟩ = some (.int .i64 (xs.getD k Iv.zero).c.1) := (HBW.out.cell (p := ⟨b, _, none⟩) hbl).trans (h0 3 (by omega))
          have d4 : wr.cell? ⟨b, o + k * 8 + 4, none⟩ = some (.int .i64 (xs.getD k Iv.zero).c.2.1) := (HBW.out.cell (p := ⟨b, _, none⟩) hbl).trans (h0 4 (by omega))
          have d5 : wr.cell? ⟨b, o + k * 8 + 5, none⟩ = some (.slice q (xs.getD k Iv.zero).c.2.2.length qc) := (HBW.out.cell (p := ⟨b, _, none⟩) hbl).trans (h0 5 (by omega))
          have d6 : wr.cell? ⟨b, o + k * 8 + 6, none⟩ = some (.slice s (xs.getD k Iv.zero).K.length sc) := (HBW.out.cell (p := ⟨b, _, none⟩) hbl).trans (h0 6 (by omega))
          have d7 : wr.cell? ⟨b, o + k * 8 + 7, none⟩ = some (.slice u (xs.getD k Iv.zero).L.length uc) := (HBW.out.cell (p := ⟨b, _, none⟩) hbl).trans (h0 7 (by omega))
          have hio := HNX.out.2.1 k hkl
          obtain ⟨x, ex⟩ : ∃ x, x = xs.getD k Iv.zero := ⟨_, rfl⟩
          rw [← ex] at d0 d1 d2 d3 d4 d5 d6 d7 hq1 hio
          have HX : Hid (x = xs.getD k Iv.zero ∧ IvOne x) := ⟨ex, hio⟩
          have HQ : Hid (∀ W, Bb.grownBy W (some w3.heap.size) → BIn W q x.c.2.2) := fun W hW => hq1.below (HBL.out W hW)
          obtain ⟨op, Eop⟩ : ∃ y, y = x.op := ⟨_, rfl⟩
          obtain ⟨r, Er⟩ : ∃ y, y = x.r := ⟨_, rfl⟩
          obtain ⟨a, Ea⟩ : ∃ y, y = x.a := ⟨_, rfl⟩
          obtain ⟨kd, Ekd⟩ : ∃ y, y = x.c.1 := ⟨_, rfl⟩
          obtain ⟨cn, Ecn⟩ : ∃ y, y = x.c.2.1 := ⟨_, rfl⟩
          obtain ⟨m, Em⟩ : ∃ y, y = x.c.2.2.length := ⟨_, rfl⟩
          obtain ⟨n, En⟩ : ∃ y, y = x.K.length := ⟨_, rfl⟩
          obtain ⟨l, El⟩ : ∃ y, y = x.L.length := ⟨_, rfl⟩
          have HEQ : Hid (op = x.op ∧ r = x.r ∧ a = x.a ∧ kd = x.c.1 ∧ cn = x.c.2.1 ∧ m = x.c.2.2.length) := ⟨Eop, Er, Ea, Ekd, Ecn, Em⟩
          rw [← Eop] at d0
          rw [← Er] at d1
          rw [← Ea] at d2
          rw [← Ekd] at d3
          rw [← Ecn] at d4
          rw [← Em] at d5
          rw [← En] at d6
          rw [← El] at d7
          have HOK : Hid (okI x = decide (0 ≤ op ∧ op ≤ 32 ∧ cellB kd cn m = true)) := by show _ = _; unfold okI; rw [← Eop, ← Ekd, ← Ecn, ← Em]
          have c5 : (wr.alloc (.cells #[.int .i64 op, .int .i64 r, .int .i64 a, .int .i64 kd, .int .i64 cn, .slice q m qc, .slice s n sc, .slice u l uc] 93)).cell? ⟨w3.heap.size, 5, none⟩ = some (.slice (some ⟨w2.heap.size, 0, none⟩) 33 33) := by
            obtain ⟨⟨_, _, _, h⟩, _⟩ := HL.out
            exact ((h.below ((Below.refl _ _).alloc (Nat.le_refl _) _)).cx 5 (Nat.le_refl _)).trans HKK.out.2.2.1
          have HBXX : Hid (∀ o, (wr.alloc o).heap[wr.heap.size]? = some o) := fun o => heap_alloc_new wr o
          have HBZ : Hid (∀ W, Below (wr.alloc (.cells #[.int .i64 op, .int .i64 r, .int .i64 a, .int .i64 kd, .int .i64 cn, .slice q m qc, .slice s n sc, .slice u l uc] 93)).heap.size (wr.alloc (.cells #[.int .i64 op, .int .i64 r, .int .i64 a, .int .i64 kd, .int .i64 cn, .slice q m qc, .slice s n sc, .slice u l uc] 93)) W → Below w.heap.size w W) := fun W hW => Below.on (Below.on HBW.out ((Below.refl _ _).alloc (Nat.le_refl _) _)) hW
          have hkN : (k : Int) < (N : Int) := by omega
          have hk0 : (0 : Int) ≤ (k : Int) := by omega
          clear hcs h0 hq1 hio ex Eop Er Ea Ekd Ecn Em En El hbl
          have HBAD : Hid (okI x = false → ∀ W, Below w.heap.size w W → LcO w T xs (.returned (.slice none 0 0)) W) := fun hb => HNIL.out (fun h => by have := h.2.2 k hkl; rw [← HX.out.1, hb] at this; cases this)
          by_cases ho1 : op < 0
          · have HR := HBAD.out (by rw [HOK.out]; exact decide_eq_false (by omega)) _ (HBZ.out _ (Below.refl _ _))
            have HRR : Hid _ := HR
            clear HR
            go_wp2_with fail
            go_ret
            exact HRR.out
          · by_cases ho2 : 32 < op
            · have HR := HBAD.out (by rw [HOK.out]; exact decide_eq_false (by omega)) _ (HBZ.out _ (Below.refl _ _))
              have HRR : Hid _ := HR
              clear HR
              go_wp2_with fail
              go_ret
              exact HRR.out
            · have HIC := isCell_any kd cn q m qc (wr.alloc (.cells #[.int .i64 op, .int .i64 r, .int .i64 a, .int .i64 kd, .int .i64 cn, .slice q m qc, .slice s n sc, .slice u l uc] 93))
              have ho3 : op < 33 := by omega
              cases hc : cellB kd cn m with
              | false =>
                rw [hc] at HIC
                have HRR : Hid (∀ W, Below w.heap.size w W → LcO w T xs (.returned (.slice none 0 0)) W) := HBAD.out (by rw [HOK.out]; exact decide_eq_false (by rw [hc]; simp))
                clear hc
                go_wp2_with fail
                refine HIC.mono ?_
                rintro e w5 ⟨rfl, hb5⟩
                have HR5 : Hid _ := HRR.out w5 (HBZ.out w5 hb5)
                clear hb5 HIC
                go_wp2_with fail
                go_ret
                exact HR5.out
              | true =>
                rw [hc] at HIC
                have HOT : Hid (okI x = true) := by show _ = _; rw [HOK.out]; exact decide_eq_true ⟨by omega, by omega, hc⟩
                have HCL : Hid (cellB kd cn m = true) := hc
                clear hc HBAD HOK
                obtain ⟨j, ej⟩ : ∃ j : Nat, op = (j : Int) := ⟨op.toNat, by omega⟩
                subst ej
                have hj : j < 33 := by omega
                go_wp2_with fail
                refine HIC.mono ?_
                rintro e w5 ⟨rfl, hb5⟩
                have HBX : Hid (w5.heap[wr.heap.size]? = some (.cells #[.int .i64 (j : Int), .int .i64 r, .int .i64 a, .int .i64 kd, .int .i64 cn, .slice q m qc, .slice s n sc, .slice u l uc] 93)) := (hb5.block wr.heap.size (by simp)).trans (HBXX.out _)
                have HLN := line_any (B := Bb) (wb := w3.heap.size) (fb := w2.heap.size) (K := (w1.heap.size, none, 0, 0, true)) HKK.out.1 HKK.out.2.1 rfl HKK.out.2.2 x j hj r a kd cn q m qc s n sc u l uc HEQ.out.1 HEQ.out.2.1 HEQ.out.2.2.1 HEQ.out.2.2.2.1 HEQ.out.2.2.2.2.1 HEQ.out.2.2.2.2.2 (by have := HCL.out; rw [HEQ.out.2.2.2.1, HEQ.out.2.2.2.2.1, HEQ.out.2.2.2.2.2] at this; exact this) HX.out.2.1 HQ.out (by rw [HEQ.out.2.1, HEQ.out.2.2.1, HEQ.out.2.2.2.2.1]; exact HX.out.2.2) k (by omega) w5 (lnsT xs k) (lnsT_byte xs HNX.out.2.1 k (by omega) HL.out.2) (by have := lnsT_len xs k (by omega) HL.out.2; omega) (by obtain ⟨⟨p', n', c', h⟩, _⟩ := HL.out; exact ⟨p', n', c', (h.below ((Below.refl _ _).alloc (Nat.le_refl _) _)).below hb5⟩)
                have z0 : w5.cell? ⟨wr.heap.size, 0, none⟩ = some (.int .i64 (j : Int)) := by simp [World.cell?, HBX.out]
                have z1 : w5.cell? ⟨wr.heap.size, 1, none⟩ = some (.int .i64 r) := by simp [World.cell?, HBX.out]
                have z2 : w5.cell? ⟨wr.heap.size, 2, none⟩ = some (.int .i64 a) := by simp [World.cell?, HBX.out]
                have z3 : w5.cell? ⟨wr.heap.size, 3, none⟩ = some (.int .i64 kd) := by simp [World.cell?, HBX.out]
                have z4 : w5.cell? ⟨wr.heap.size, 4, none⟩ = some (.int .i64 cn) := by simp [World.cell?, HBX.out]
                have z5 : w5.cell? ⟨wr.heap.size, 5, none⟩ = some (.slice q m qc) := by simp [World.cell?, HBX.out]
                have z6 : w5.cell? ⟨wr.heap.size, 6, none⟩ = some (.slice s n sc) := by simp [World.cell?, HBX.out]
                have z7 : w5.cell? ⟨wr.heap.size, 7, none⟩ = some (.slice u l uc) := by simp [World.cell?, HBX.out]
                clear hb5 HIC
                go_wp2_with fail
                refine HLN.mono ?_
                rintro e w6 hout
                have HN6 : Hid ((∃ p n c, WS Bb w6 w3.heap.size (w1.heap.size, none, 0, 0, true) p n c (lnsT xs (k + 1)) 0) ∧ ∀ i, i < k + 1 → okI (xs.getD i Iv.zero) = true) := by
                  refine ⟨by have := hout.2.1; rw [HX.out.1] at this; exact this, fun i hi => ?_⟩
                  by_cases e : i < k
                  · exact HL.out.2 i e
                  · obtain rfl : i = k := by omega
                    rw [← HX.out.1]; exact HOT.out
                obtain ⟨rfl, _, _⟩ := hout
                clear HLN z0 z1 z2 z3 z4 z5 z6 z7
                go_wp2_with fail
                go_roundw
                case rel => exact ⟨k + 1, by omega, by go_num, HN6⟩
                case measure => simp [intOf]; omega
        · obtain rfl : k = N := by omega
          obtain ⟨⟨p9, n9, c9, h9⟩, hall⟩ := HL.out
          have c0 := h9.c0
          have HO : Hid (LcO w T xs (.returned (.slice p9 n9 c9)) wr) := ⟨p9, n9, c9, rfl, by
            have e : lcT T xs = lnsT xs k := by unfold lcT; rw [if_pos ⟨HT1.out, by rw [← HNX.out.1]; exact h2, fun i hi => hall i (by rw [HNX.out.1]; exact hi)⟩, HNX.out.1]
            rw [e]
            exact (h9.own.toT).mono HLO.out, HBW.out⟩
          clear h9 hall
          go_wp2_with fail
          go_ret
          exact HO.out
    · have HR : Hid (∀ W, Below w.heap.size w W → LcO w T xs (.returned (.slice none 0 0)) W) := HNIL.out (fun h => h2 (by rw [HNX.out.1]; exact h.2.1))
      have hN2 : 20000 < (N : Int) := by omega
      clear h2
      go_enter Tryz.func25, Tryz.ntmps25
      go_wp2_with fail
      refine (HV.out _ (HB0.out _)).mono ?_
      rintro e w1 ⟨rfl, hb1⟩
      have HR1 : Hid _ := HR.out w1 (Below.on (HB0.out _) hb1)
      have HX1 : Hid (w1.heap[w.heap.size]? = some (.cells #[.slice p N pc, .slice g M gc] 52)) := (hb1.block w.heap.size (by simp)).trans (HBK.out _)
      have x0 : w1.cell? ⟨w.heap.size, 0, none⟩ = some (.slice p N pc) := by simp [World.cell?, HX1.out]
      clear hb1 HV
      go_wp2_with fail
      go_ret
      exact HR1.out
  · have h1' : tabB T = false := by simpa using h1
    rw [h1'] at HV
    have HR : Hid (∀ W, Below w.heap.size w W → LcO w T xs (.returned (.slice none 0 0)) W) := HNIL.out (fun h => h1 h.1)
    obtain ⟨lt, elt⟩ : ∃ lt, lt = T.length := ⟨_, rfl⟩
    rw [← elt] at HV ⊢
    clear hTb hTl hT hN hx hI hTab hPow h1 h1' elt
    go_enter Tryz.func25, Tryz.ntmps25
    go_wp2_with fail
    refine (HV.out _ (HB0.out _)).mono ?_
    rintro e w1 ⟨rfl, hb1⟩
    have HR1 : Hid _ := HR.out w1 (Below.on (HB0.out _) hb1)
    clear hb1 HV
    go_wp2_with fail
    go_ret
    exact HR1.out
end Go.Proofs.YtjhbplgppakhoaaGreatDoor

namespace Go.Proofs.YtjhbplgppakhoaaGreatDoor
open Go Go.RowKit
set_option linter.unusedVariables false
def wordA : Array Value := #[.string ⟨#[103, 101, 116, 118, 97, 114]⟩, .string ⟨#[103, 101, 116, 118, 97, 108]⟩, .string ⟨#[103, 101, 116, 99, 111, 110, 115, 116]⟩, .string ⟨#[103, 101, 116, 115, 116, 114, 117, 99, 116]⟩, .string ⟨#[117, 110, 105, 102, 121, 118, 97, 114]⟩, .string ⟨#[117, 110, 105, 102, 121, 118, 97, 108]⟩, .string ⟨#[117, 110, 105, 102, 121, 99, 111, 110, 115, 116]⟩, .string ⟨#[117, 110, 105, 102, 121, 118, 111, 105, 100]⟩, .string ⟨#[112, 117, 116, 118, 97, 114]⟩, .string ⟨#[112, 117, 116, 118, 97, 108]⟩, .string ⟨#[112, 117, 116, 99, 111, 110, 115, 116]⟩, .string ⟨#[112, 117, 116, 118, 111, 105, 100]⟩, .string ⟨#[112, 117, 116, 115, 116, 114, 117, 99, 116]⟩, .string ⟨#[115, 101, 116, 118, 97, 114]⟩, .string ⟨#[115, 101, 116, 118, 97, 108]⟩, .string ⟨#[115, 101, 116, 99, 111, 110, 115, 116]⟩, .string ⟨#[115, 101, 116, 118, 111, 105, 100]⟩, .string ⟨#[97, 108, 108, 111, 99, 97, 116, 101]⟩, .string ⟨#[100, 101, 97, 108, 108, 111, 99, 97, 116, 101]⟩, .string ⟨#[99, 97, 108, 108]⟩, .string ⟨#[101, 120, 101, 99, 117, 116, 101]⟩, .string ⟨#[112, 114, 111, 99, 101, 101, 100]⟩, .string ⟨#[98, 117, 105, 108, 116, 105, 110]⟩, .string ⟨#[108, 101, 118, 101, 108]⟩, .string ⟨#[109, 97, 114, 107]⟩, .string ⟨#[99, 117, 116]⟩, .string ⟨#[102, 97, 105, 108]⟩, .string ⟨#[115, 116, 111, 112]⟩, .string ⟨#[117, 110, 99, 97, 116, 99, 104]⟩, .string ⟨#[116, 114, 121]⟩, .string ⟨#[114, 101, 116, 114, 121]⟩, .string ⟨#[116, 114, 117, 115, 116]⟩, .string ⟨#[115, 119, 105, 116, 99, 104]⟩]
def letA : Array Value := #[.string ⟨#[82, 65]⟩, .string ⟨#[82, 65]⟩, .string ⟨#[67, 65]⟩, .string ⟨#[70, 65]⟩, .string ⟨#[82]⟩, .string ⟨#[82]⟩, .string ⟨#[67]⟩, .string ⟨#[]⟩, .string ⟨#[82, 65]⟩, .string ⟨#[82, 65]⟩, .string ⟨#[67, 65]⟩, .string ⟨#[65]⟩, .string ⟨#[70, 82]⟩, .string ⟨#[82]⟩, .string ⟨#[82]⟩, .string ⟨#[67]⟩, .string ⟨#[]⟩, .string ⟨#[65]⟩, .string ⟨#[]⟩, .string ⟨#[70]⟩, .string ⟨#[70]⟩, .string ⟨#[]⟩, .string ⟨#[70]⟩, .string ⟨#[82]⟩, .string ⟨#[82]⟩, .string ⟨#[82]⟩, .string ⟨#[]⟩, .string ⟨#[]⟩, .string ⟨#[]⟩, .string ⟨#[65]⟩, .string ⟨#[65]⟩, .string ⟨#[65]⟩, .string ⟨#[65]⟩]
theorem wordA_at : ∀ i, i < 33 → wordA[i]? = some (.string (strOfNums (wordT i))) ∧ letA[i]? = some (.string (strOfNums (fldS i))) := fun i hi => by
  match i, hi with
  | 0, _ => exact ⟨rfl, rfl⟩
  | 1, _ => exact ⟨rfl, rfl⟩
  | 2, _ => exact ⟨rfl, rfl⟩
  | 3, _ => exact ⟨rfl, rfl⟩
  | 4, _ => exact ⟨rfl, rfl⟩
  | 5, _ => exact ⟨rfl, rfl⟩
  | 6, _ => exact ⟨rfl, rfl⟩
  | 7, _ => exact ⟨rfl, rfl⟩
  | 8, _ => exact ⟨rfl, rfl⟩
  | 9, _ => exact ⟨rfl, rfl⟩
  | 10, _ => exact ⟨rfl, rfl⟩
  | 11, _ => exact ⟨rfl, rfl⟩
  | 12, _ => exact ⟨rfl, rfl⟩
  | 13, _ => exact ⟨rfl, rfl⟩
  | 14, _ => exact ⟨rfl, rfl⟩
  | 15, _ => exact ⟨rfl, rfl⟩
  | 16, _ => exact ⟨rfl, rfl⟩
  | 17, _ => exact ⟨rfl, rfl⟩
  | 18, _ => exact ⟨rfl, rfl⟩
  | 19, _ => exact ⟨rfl, rfl⟩
  | 20, _ => exact ⟨rfl, rfl⟩
  | 21, _ => exact ⟨rfl, rfl⟩
  | 22, _ => exact ⟨rfl, rfl⟩
  | 23, _ => exact ⟨rfl, rfl⟩
  | 24, _ => exact ⟨rfl, rfl⟩
  | 25, _ => exact ⟨rfl, rfl⟩
  | 26, _ => exact ⟨rfl, rfl⟩
  | 27, _ => exact ⟨rfl, rfl⟩
  | 28, _ => exact ⟨rfl, rfl⟩
  | 29, _ => exact ⟨rfl, rfl⟩
  | 30, _ => exact ⟨rfl, rfl⟩
  | 31, _ => exact ⟨rfl, rfl⟩
  | 32, _ => exact ⟨rfl, rfl⟩
  | n + 33, h => omega
set_option maxRecDepth 100000 in
set_option maxHeartbeats 4000000 in
theorem l9word_any (j : Nat) (hj : j < 33) (w : World) :
    Calls Tryz.prog 47 #[.int .i64 (j : Int)] w fun e w' => e = .returned (.tuple #[.string (strOfNums (wordT j)), .string (strOfNums (fldS j))]) ∧ Below w.heap.size w w' := by
  have HB : Hid (∀ a b, Below w.heap.size w ((w.alloc a).alloc b).drew) := fun a b => (((Below.refl _ _).alloc (Nat.le_refl _) _).alloc (by simp) _).drew
  obtain ⟨a1, a2⟩ := wordA_at j hj
  have d1 : ((w.alloc (.cells wordA 9)).alloc (.cells letA 9)).cell? ⟨w.heap.size, j, none⟩ = some (.string (strOfNums (wordT j))) := by
    have hb := (Below.heap_alloc (w.alloc (.cells wordA 9)) (.cells letA 9) w.heap.size (by simp)).trans (heap_alloc_new w (.cells wordA 9))
    simp only [World.cell?]; rw [hb]; exact a1
  have d2 : ((w.alloc (.cells wordA 9)).alloc (.cells letA 9)).cell? ⟨w.heap.size + 1, j, none⟩ = some (.string (strOfNums (fldS j))) := by
    have hb := heap_alloc_new (w.alloc (.cells wordA 9)) (.cells letA 9)
    rw [World.size_alloc] at hb
    simp only [World.cell?]; rw [hb]; exact a2
  obtain ⟨sw, esw⟩ : ∃ sw, sw = strOfNums (wordT j) := ⟨_, rfl⟩
  obtain ⟨sf, esf⟩ : ∃ sf, sf = strOfNums (fldS j) := ⟨_, rfl⟩
  rw [← esw] at d1 ⊢
  rw [← esf] at d2 ⊢
  have HD : Hid (((w.alloc (.cells wordA 9)).alloc (.cells letA 9)).cell? ⟨w.heap.size, j, none⟩ = some (.string sw) ∧ ((w.alloc (.cells wordA 9)).alloc (.cells letA 9)).cell? ⟨w.heap.size + 1, j, none⟩ = some (.string sf)) := ⟨d1, d2⟩
  have hj0 : (0 : Int) ≤ (j : Int) := by omega
  have hj1 : (j : Int) < 33 := by omega
  clear esw esf a1 a2 d1 d2
  have HEW : ∀ t, (.cells #[.string ⟨#[103, 101, 116, 118, 97, 114]⟩, .string ⟨#[103, 101, 116, 118, 97, 108]⟩, .string ⟨#[103, 101, 116, 99, 111, 110, 115, 116]⟩, .string ⟨#[103, 101, 116, 115, 116, 114, 117, 99, 116]⟩, .string ⟨#[117, 110, 105, 102, 121, 118, 97, 114]⟩, .string ⟨#[117, 110, 105, 102, 121, 118, 97, 108]⟩, .string ⟨#[117, 110, 105, 102, 121, 99, 111, 110, 115, 116]⟩, .string ⟨#[117, 110, 105, 102, 121, 118, 111, 105, 100]⟩, .string ⟨#[112, 117, 116, 118, 97, 114]⟩, .string ⟨#[112, 117, 116, 118, 97, 108]⟩, .string ⟨#[112, 117, 116, 99, 111, 110, 115, 116]⟩, .string ⟨#[112, 117, 116, 118, 111, 105, 100]⟩, .string ⟨#[112, 117, 116, 115, 116, 114, 117, 99, 116]⟩, .string ⟨#[115, 101, 116, 118, 97, 114]⟩, .string ⟨#[115, 101, 116, 118, 97, 108]⟩, .string ⟨#[115, 101, 116, 99, 111, 110, 115, 116]⟩, .string ⟨#[115, 101, 116, 118, 111, 105, 100]⟩, .string ⟨#[97, 108, 108, 111, 99, 97, 116, 101]⟩, .string ⟨#[100, 101, 97, 108, 108, 111, 99, 97, 116, 101]⟩, .string ⟨#[99, 97, 108, 108]⟩, .string ⟨#[101, 120, 101, 99, 117, 116, 101]⟩, .string ⟨#[112, 114, 111, 99, 101, 101, 100]⟩, .string ⟨#[98, 117, 105, 108, 116, 105, 110]⟩, .string ⟨#[108, 101, 118, 101, 108]⟩, .string ⟨#[109, 97, 114, 107]⟩, .string ⟨#[99, 117, 116]⟩, .string ⟨#[102, 97, 105, 108]⟩, .string ⟨#[115, 116, 111, 112]⟩, .string ⟨#[117, 110, 99, 97, 116, 99, 104]⟩, .string ⟨#[116, 114, 121]⟩, .string ⟨#[114, 101, 116, 114, 121]⟩, .string ⟨#[116, 114, 117, 115, 116]⟩, .string ⟨#[115, 119, 105, 116, 99, 104]⟩] t : Obj) = .cells wordA t := fun t => rfl
  have HEF : ∀ t, (.cells #[.string ⟨#[82, 65]⟩, .string ⟨#[82, 65]⟩, .string ⟨#[67, 65]⟩, .string ⟨#[70, 65]⟩, .string ⟨#[82]⟩, .string ⟨#[82]⟩, .string ⟨#[67]⟩, .string ⟨#[]⟩, .string ⟨#[82, 65]⟩, .string ⟨#[82, 65]⟩, .string ⟨#[67, 65]⟩, .string ⟨#[65]⟩, .string ⟨#[70, 82]⟩, .string ⟨#[82]⟩, .string ⟨#[82]⟩, .string ⟨#[67]⟩, .string ⟨#[]⟩, .string ⟨#[65]⟩, .string ⟨#[]⟩, .string ⟨#[70]⟩, .string ⟨#[70]⟩, .string ⟨#[]⟩, .string ⟨#[70]⟩, .string ⟨#[82]⟩, .string ⟨#[82]⟩, .string ⟨#[82]⟩, .string ⟨#[]⟩, .string ⟨#[]⟩, .string ⟨#[]⟩, .string ⟨#[65]⟩, .string ⟨#[65]⟩, .string ⟨#[65]⟩, .string ⟨#[65]⟩] t : Obj) = .cells letA t := fun t => rfl
  have HEWH : Hid _ := HEW
  have HEFH : Hid _ := HEF
  clear HEW HEF
  go_enter Tryz.func47, Tryz.ntmps47
  go_wp2_with fail
  rw [HEWH.out, HEFH.out]
  obtain ⟨W, eW⟩ : ∃ W, W = (w.alloc (.cells wordA 9)).alloc (.cells letA 9) := ⟨_, rfl⟩
  rw [← eW]
  have d1 : W.cell? ⟨w.heap.size, j, none⟩ = some (.string sw) := by rw [eW]; exact HD.out.1
  have d2 : W.cell? ⟨w.heap.size + 1, j, none⟩ = some (.string sf) := by rw [eW]; exact HD.out.2
  have HBW : Hid (Below w.heap.size w W.drew) := by rw [eW]; exact HB.out _ _
  clear eW
  go_region_held3 (fun W => W.cell? ⟨w.heap.size, j, none⟩ = some (.string sw) ∧ W.cell? ⟨w.heap.size + 1, j, none⟩ = some (.string sf)) (first | go_keep) (fail)
  go_wp2_with fail
  exact bodyPost_ret (v := .tuple #[.string sw, .string sf]) (by simp [results, Tryz.results47, go_sem]) rfl ⟨rfl, HBW.out⟩
theorem l9constOK_any (k n : Int) (p : Option Addr) (m c : Nat) (w : World) :
    Calls Tryz.prog 46 #[.agg #[.int .i64 k, .int .i64 n, .slice p m c]] w fun e w' => e = .returned (.bool (cellB k n m)) ∧ Below w.heap.size w w' := by
  have HC : Hid (∀ W, Calls Tryz.prog 61 #[.agg #[.int .i64 k, .int .i64 n, .slice p m c]] W fun e w' => e = .returned (.bool (cellB k n m)) ∧ Below W.heap.size W w') := fun W => l2cell_any k n p m c W
  have HB : Hid (∀ o, Below w.heap.size w (w.alloc o)) := fun o => (Below.refl _ _).alloc (Nat.le_refl _) _
  go_enter Tryz.func46, Tryz.ntmps46
  go_wp2_with fail
  refine (HC.out _).mono ?_
  rintro e w1 ⟨rfl, hb1⟩
  have HB1 : Hid (Below w.heap.size w w1) := Below.on (HB.out _) hb1
  clear hb1
  go_wp2_with fail
  go_ret
  exact ⟨rfl, HB1.out⟩
end Go.Proofs.YtjhbplgppakhoaaGreatDoor

namespace Go.Proofs.YtjhbplgppakhoaaGreatDoor
open Go Go.RowKit
set_option linter.unusedVariables false
theorem strN_at {fs : List Int} {i : Nat} (h : i < (strOfNums fs).size) : (strOfNums fs)[i] = UInt8.ofNat (fs.getD i 0).toNat := by
  have hl : i < fs.length := by rw [strOfNums_size] at h; exact h
  show (strOfNums fs).data[i] = _
  simp [strOfNums, List.getD, hl]
theorem letter_at {fs : List Int} {i : Nat} {sf : ByteArray} (e : sf = strOfNums fs) (h : i < sf.size) (v : Int) (h0 : 0 ≤ v) (h1 : v < 256) (hv : fs.getD i 0 = v) : ((sf[i].toNat : Nat) : Int) = v := by
  subst e
  rw [strN_at h, hv, UInt8.toNat_ofNat']
  omega
theorem neg_pred (r : Int) (h0 : -9223372036854775808 ≤ r) (h1 : r < 0) : IntKind.i64.wrap (IntKind.i64.wrap (-r) - 1) = -1 - r := by
  rw [IntKind.wrap_i64, IntKind.wrap_i64]; omega
theorem leaf_text (T : List Cel) (c : Cel) (hc : cellB c.1 c.2.1 c.2.2.length = true) (h3 : c.1 ≠ 3) : textF T [] true 1 (c, .nil) 1200 = leafW c := by
  simp only [cellB, decide_eq_true_eq] at hc
  unfold textF leafW
  dsimp only
  split
  · exact varW_nil (by omega)
  · split
    · rfl
    · rw [if_pos (by omega)]; rfl
theorem leaf_valid (c : Cel) (hc : cellB c.1 c.2.1 c.2.2.length = true) (h3 : c.1 ≠ 3) : validB [c] = true := by
  have hg : grows c.1 c.2.1 = 0 := by unfold grows; rw [if_neg h3]
  simp [validB, validFrom, hc, hg]
theorem leaf_is {T : List Cel} {c : Cel} {R : List Int} (hT : tabB T = true) (hc : cellB c.1 c.2.1 c.2.2.length = true) (h3 : c.1 ≠ 3) (h : WrIs T [] true [c] R) : R = leafW c := by
  rcases h with ⟨_, _, c', k, e, hok, eR⟩ | ⟨h1, _⟩
  · injection e with e1 e2
    subst e1
    have : k = .nil := by
      cases k with
      | nil => rfl
      | node c' k' r => simp [Fo.cells] at e2
    subst this
    rw [eR]
    exact leaf_text T c hc h3
  · exact absurd ⟨hT, leaf_valid c hc h3⟩ h1
theorem take_next (l : List Int) (i : Nat) (h : i < l.length) : l.take (i + 1) = l.take i ++ [l.getD i 0] := by
  rw [List.take_add_one]; simp [List.getD, h]
theorem fl_next (x : Iv) (l : List Int) (i : Nat) (h : i < l.length) : flT x (l.take (i + 1)) = flT x (l.take i) ++ (32 :: fT x (l.getD i 0)) := by
  rw [take_next l i h, flT_snoc]
theorem ln_len (k : Int) (j i : Nat) (x : Iv) (hj : j < 33) : (decW k ++ [32] ++ wordT j ++ flT x ((fldI j).take i)).length ≤ 2000 := by
  have a := decW_len k
  have b := wordT_all j hj
  have c := flT_len x ((fldI j).take i)
  have d : ((fldI j).take i).length ≤ 2 := by rw [List.length_take]; omega
  simp only [List.length_append, List.length_cons, List.length_nil]
  omega
theorem lit_app (a : List Int) (b : ByteArray) (B : List Int) (e : b = strOfNums B) (X : ByteArray) (hX : X = strOfNums a) : X ++ b = strOfNums (a ++ B) := by rw [e, hX, str_app]
theorem own_belowL {W0 W W' : World} {p : Option Addr} {n c : Nat} {R : List Int} (hb : Below W0.heap.size W0 W) (ho : OwnS W W0.heap.size p n c R) (hg : W.grownBy W' (Value.ownBlock (.slice p n c))) : Below W0.heap.size W0 W' := hb.grown hg hb.size (fun k hk => (ho.2.lt k hk).1)
theorem app_strL (w : World) {ops : Array Oper} {rest : List Oper} {o : Oper} {a : Act} {Q : Exit → Act → World → Prop} (hgd : o.guard = none) (s x : Operand)
    (ho : o.op = .call { callee := .builtin .append, args := #[s, x], argTypes := #[28, 9] }) (B : Nat) (p : Option Addr) (n c : Nat) (ys zs : List Int) (hz : Byte zs)
    (hs : a.eval s = .slice p n c) (hown : OwnS w B p n c ys) (sz : ByteArray) (es : sz = strOfNums zs) (hx : a.eval x = .string sz) (hlen : n + zs.length ≤ 1000000000000) (hbase : B ≤ w.heap.size)
    (h : ∀ p' n' cap w', OwnS w' B p' n' cap (ys ++ zs) → w.grownBy w' (Value.ownBlock (.slice p n c)) → wpList Tryz.prog ops Q rest (a.put o.dst (.slice p' n' cap)) w') : wpList Tryz.prog ops Q (o :: rest) a w := by
  obtain ⟨i0, hi, hz0, hz1, hz2⟩ := info_parts infoByte
  obtain ⟨rfl, hrow⟩ := hown
  have hss : sz.size = zs.length := by rw [es]; exact strOfNums_size _
  refine Lib.wpList_append_own_string w hgd s x 28 9 ho B 5 i0 Tryz.underlying28 Tryz.underlying9 hi hz0 hz1 hz2 (.slice p ys.length c) ys.length (ys.map (Value.int .u8)) hs hrow sz hx (by unfold maxLen; omega) (by omega) hbase ?_
  intro v' w' hown' hgrow hnil
  rw [es, str_cells hz, ← List.map_append, ← es, hss] at hown'
  rcases hown'.2 with ⟨rfl, h0⟩ | ⟨g, cap, cur, rfl, _⟩
  · exact h none 0 0 w' ⟨by simp; omega, by rw [h0] at hown'; exact hown'⟩ hgrow
  · exact h _ _ cap w' ⟨by simp, hown'⟩ hgrow
theorem one_newsL (w : World) (y : Int) : ∀ j u, ([y].map (Value.int .u8))[j]? = some u → (w.alloc (.cells #[.int .u8 y] 5)).cell? ((⟨w.heap.size, 0, none⟩ : Addr).add j) = some u := fun j u hu => by
  match j, hu with
  | 0, hu => simp at hu; rw [← hu]; simp [Addr.add, World.cell?_alloc_new]
  | j + 1, hu => simp at hu
end Go.Proofs.YtjhbplgppakhoaaGreatDoor

