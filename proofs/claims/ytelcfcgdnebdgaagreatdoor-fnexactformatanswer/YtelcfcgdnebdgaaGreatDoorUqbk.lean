/- Texts of FaS, FaE. Own work of the verifier. -/
import Derived.Test.YtelcfcgdnebdgaaGreatDoorUqbj
import Derived.Test.YtelcfcgdnebdgaaGreatDoorUqaf
import Derived.Test.YtelcfcgdnebdgaaGreatDoorUqbi
import Derived.Test.YtelcfcgdnebdgaaGreatDoorUqbf
namespace Go.Proofs.YtelcfcgdnebdgaaGreatDoor
open Go Go.RowKit
set_option linter.unusedVariables false
set_option linter.unusedSimpArgs false
def TCC (w : World) (p : Option Addr) (D : List (List Cel)) : Prop := 0 < D.length → ∃ b o, p = some ⟨b, o, none⟩ ∧ ∀ i, i < D.length → ∃ q, w.cell? ⟨b, o + i, none⟩ = some (.slice q (D.getD i []).length (D.getD i []).length) ∧ CIn w q (D.getD i [])
theorem TCC.below {W W' : World} {p : Option Addr} {D : List (List Cel)} (h : TCC W p D) (hb : Below W.heap.size W W') : TCC W' p D := fun hn => by
  obtain ⟨b, o, rfl, hc⟩ := h hn
  refine ⟨b, o, rfl, fun i hi => ?_⟩
  obtain ⟨q, h1, h2⟩ := hc i hi
  exact ⟨q, (hb.cell (World.block_lt_of_cell? _ _ h1)).trans h1, h2.below hb⟩
theorem byte_sep : Byte [44, 10] := byte_cons ⟨by decide, by decide⟩ (byte_one (by decide) (by decide))
theorem byte_true : Byte [116, 114, 117, 101] := byte_cons ⟨by decide, by decide⟩ (byte_cons ⟨by decide, by decide⟩ (byte_cons ⟨by decide, by decide⟩ (byte_one (by decide) (by decide))))
theorem own_below {W0 W W' : World} {p : Option Addr} {n c : Nat} {R : List Int} (hb : Below W0.heap.size W0 W) (ho : OwnS W W0.heap.size p n c R) (hg : W.grownBy W' (Value.ownBlock (.slice p n c))) : Below W0.heap.size W0 W' := hb.grown hg hb.size (fun k hk => (ho.2.lt k hk).1)
theorem bin_cells {w : World} {q : Option Addr} {X : List Int} (h : BIn w q X) (hp : 0 < X.length) : ∃ ad, q = some ad ∧ ∀ j u, (X.map (Value.int .u8))[j]? = some u → w.cell? (ad.add j) = some u := by
  obtain ⟨b, o, rfl, hc⟩ := h hp
  refine ⟨_, rfl, fun j u hj => ?_⟩
  obtain ⟨x, hx, rfl⟩ : ∃ x, X[j]? = some x ∧ Value.int .u8 x = u := by
    rw [List.getElem?_map] at hj
    cases hX : X[j]? with
    | none => rw [hX] at hj; cases hj
    | some x => rw [hX] at hj; exact ⟨x, rfl, by simpa using hj⟩
  have hl := (List.getElem?_eq_some_iff.1 hx).1
  have := hc j hl
  rw [show (⟨b, o, none⟩ : Addr).add j = ⟨b, o + j, none⟩ from by simp [Addr.add], this]
  simp [List.getD, hx]
theorem app_strE (w : World) {ops : Array Oper} {rest : List Oper} {o : Oper} {a : Act} {Q : Exit → Act → World → Prop} (hgd : o.guard = none) (s x : Operand)
    (ho : o.op = .call { callee := .builtin .append, args := #[s, x], argTypes := #[28, 9] }) (B : Nat) (p : Option Addr) (n c : Nat) (ys zs : List Int) (hz : Byte zs)
    (hs : a.eval s = .slice p n c) (hown : OwnS w B p n c ys) (sz : ByteArray) (es : sz = strOfNums zs) (hx : a.eval x = .string sz) (hlen : n + zs.length ≤ 1000000000000) (hbase : B ≤ w.heap.size)
    (h : ∀ p' n' cap w', OwnS w' B p' n' cap (ys ++ zs) → w.grownBy w' (Value.ownBlock (.slice p n c)) → wpList Tryz.prog ops Q rest (a.put o.dst (.slice p' n' cap)) w') : wpList Tryz.prog ops Q (o :: rest) a w := by
  obtain ⟨i0, hi, hz0, hz1, hz2⟩ := info_parts infoByte
  obtain ⟨rfl, hrow⟩ := hown
  have hss : sz.size = zs.length := by rw [es]; exact strOfNums_size _
  refine Lib.wpList_append_own_string w hgd s x 28 9 ho B 5 i0 Tryz.underlying28 Tryz.underlying9 hi hz0 hz1 hz2 (.slice p ys.length c) ys.length (ys.map (Value.int .u8)) hs hrow sz hx (by unfold maxLen; omega) (by omega) hbase ?_
  intro v' w' hown' hgrow hnil
  rw [es, str_cells hz, ← List.map_append, ← es, hss] at hown'
  rcases hown'.2 with ⟨rfl, h0⟩ | ⟨g, cap, cur, rfl, _⟩
  · exact h none 0 0 w' ⟨by simp; omega, by rw [h0] at hown'; exact hown'⟩ hgrow
  · exact h _ _ cap w' ⟨by simp, hown'⟩ hgrow
set_option maxRecDepth 100000 in
set_option maxHeartbeats 4000000 in
theorem specFa_any (T : List Cel) (N : List (List Int)) (D : List (List Cel)) (po : Option Addr) (co : Nat) (pn : Option Addr) (cn : Nat) (pd : Option Addr) (cd : Nat) (w : World) (hF : FaB T N D) (hTl : T.length + tl T ≤ 1000000000) (hT : OIn w po T) (hN : NIn w pn N) (hD : TCC w pd D) :
    Calls Tryz.prog 23 #[.slice po T.length co, .slice pn N.length cn, .slice pd D.length cd] w (FaO w T N D) := by
  have HV1 := specTab_any po co T w hTl hT
  by_cases h1 : tabB T = true
  · rw [h1] at HV1
    have hnl : N.length ≤ 1048576 := by have := hF.nl; omega
    have hdl : D.length ≤ 1048576 := by have := hF.dl; omega
    by_cases h2 : N.length = D.length
    · have HF : Hid (FaB T N D) := hF
      have H1 : Hid (tabB T = true) := h1
      have H2 : Hid (N.length = D.length) := h2
      have HT : Hid (OIn w po T) := hT
      have HN : Hid (NIn w pn N) := hN
      have HD : Hid (TCC w pd D) := hD
      have HE : Hid (∀ W, Below w.heap.size w W → WEnv (W.alloc (.cells #[.slice po T.length co, .slice none 0 0, .bool true] 61)) W.heap.size po co T none 0 [] true) := fun W hW => by
        obtain ⟨b0, b1, b2⟩ := cells3 W (.slice po T.length co) (.slice none 0 0) (.bool true) 61
        obtain ⟨ft1, ft2⟩ := tab_facts h1
        exact ⟨b0, b1, b2, hT.below (Below.on hW ((Below.refl _ _).alloc (Nat.le_refl _) _)), fun i hi => ⟨hF.tb i hi, (ft2 i hi).1.2, ⟨by have := (ft2 i hi).2.2.1; omega, (ft2 i hi).2.2.2⟩, (ft2 i hi).2.1.1, (ft2 i hi).2.1.2⟩, by omega, fun h => by simp at h, fun i hi => by simp at hi, by simp⟩
      rw [← h2]
      obtain ⟨n, en⟩ : ∃ n, n = N.length := ⟨_, rfl⟩
      have EN : Hid (n = N.length) := en
      have hn1 : n ≤ 1048576 := by omega
      rw [← en]
      clear h1 h2 hT hN hD hF hTl en hnl hdl
      go_enter Tryz.func23, Tryz.ntmps23
      go_wp2_with fail
      refine HV1.mono ?_
      rintro e wv ⟨rfl, hbv⟩
      have HBV : Hid (Below w.heap.size w wv) := hbv
      clear hbv HV1
      go_wp2_with fail
      obtain ⟨W0, eW0⟩ : ∃ W0, W0 = wv.alloc (.cells #[.slice po T.length co, .slice none 0 0, .bool true] 61) := ⟨_, rfl⟩
      have HE0 : Hid (WEnv W0 wv.heap.size po co T none 0 [] true) := by rw [eW0]; exact HE.out wv HBV.out
      have HW0 : Hid (Below w.heap.size w W0) := by rw [eW0]; exact HBV.out.alloc HBV.out.size _
      rw [← eW0]
      obtain ⟨ob, eob⟩ : ∃ ob, ob = wv.heap.size := ⟨_, rfl⟩
      rw [← eob] at HE0 ⊢
      clear eW0 eob HE HBV
      go_loopw [8, 9] (fun s i wr => ∃ (k : Nat) (p : Option Addr) (m c : Nat), k ≤ n ∧ i = .int .i64 k ∧ s = .slice p m c ∧ Hid (OwnS wr W0.heap.size p m c (faI T N D k)) ∧ Hid (Below W0.heap.size W0 wr) ∧ Hid (allV D k)) (fun _ i _ => n - (intOf i).toNat)
      case atStart => exact ⟨0, none, 0, 0, Nat.zero_le _, rfl, rfl, OwnS.nil _ _, Below.refl _ _, fun j hj => by omega⟩
      case round =>
        obtain ⟨k, p, m, c, hk, rfl, rfl, HO, HB, HA⟩ := hrel
        by_cases hlt : k < n
        · have hkN : k < N.length := by have := EN.out; omega
          have hkD : k < D.length := by have := H2.out; omega
          obtain ⟨b, o, epn, hcn⟩ := HN.out (by omega)
          obtain ⟨qn, cq, n0, n1⟩ := hcn k hkN
          obtain ⟨bd, od, epd, hcd⟩ := HD.out (by omega)
          obtain ⟨qd, e0, e1⟩ := hcd k hkD
          subst epn epd
          obtain ⟨X, eX⟩ : ∃ X, X = N.getD k [] := ⟨_, rfl⟩
          obtain ⟨xs, exs⟩ : ∃ xs, xs = D.getD k [] := ⟨_, rfl⟩
          rw [← eX] at n0 n1
          rw [← exs] at e0 e1
          have hxl : xs.length ≤ 1048576 := by have h8 := tll_at D k hkD; have h9 := HF.out.dl; rw [← exs] at h8; omega
          have hXl : X.length ≤ 1048576 := by have h8 := tnn_at N k hkN; have h9 := HF.out.nl; rw [← eX] at h8; omega
          have hbw : Below w.heap.size w wr := HW0.out.trans (HB.out.mono HW0.out.size)
          have HVT := specValid_any qd xs.length xs wr (by omega) (e1.below hbw)
          have HNC0 : Hid (∀ W, Below W0.heap.size W0 W → W.cell? ⟨b, o + k, none⟩ = some (.slice qn X.length cq)) := fun W hW => ((Below.on HW0.out hW).cell (World.block_lt_of_cell? _ _ n0)).trans n0
          have HDC0 : Hid (∀ W, Below W0.heap.size W0 W → W.cell? ⟨bd, od + k, none⟩ = some (.slice qd xs.length xs.length)) := fun W hW => ((Below.on HW0.out hW).cell (World.block_lt_of_cell? _ _ e0)).trans e0
          have HBN : Hid (∀ W, Below W0.heap.size W0 W → BIn W qn X) := fun W hW => n1.below (Below.on HW0.out hW)
          have HXX : Hid (X = N.getD k [] ∧ xs = D.getD k []) := ⟨eX, exs⟩
          have HCI : Hid (CIn w qd xs) := e1
          clear n0 n1 e0 e1 hcn hcd eX exs hbw
          cases hv : validB xs with
          | false =>
            rw [hv] at HVT
            have HNO : Hid (∀ W, Below w.heap.size w W → FaO w T N D (.returned (.slice none 0 0)) W) := fun W hW => fa_none (fun hg => by
              have := hg.2.2 k hkD
              rw [← HXX.out.2, hv] at this
              cases this) hW
            have d0 := HDC0.out wr HB.out
            obtain ⟨lx, elx⟩ : ∃ lx, lx = xs.length := ⟨_, rfl⟩
            rw [← elx] at HVT d0
            clear elx hv hxl hXl
            go_wp2_with fail
            refine HVT.mono ?_
            rintro e w1 ⟨rfl, hb1⟩
            have HB1 : Hid (Below w.heap.size w w1) := HW0.out.trans ((HB.out.trans (hb1.mono HB.out.size)).mono HW0.out.size)
            clear hb1 HVT
            go_wp2_with fail
            go_ret
            exact HNO.out _ HB1.out
          | true =>
            rw [hv] at HVT
            have HALL : Hid (allV D (k + 1)) := fun j hj => by
              rcases Nat.lt_or_ge j k with h8 | h8
              · exact HA.out j h8
              · have : j = k := by omega
                rw [this, ← HXX.out.2]; exact hv
            have d0 := HDC0.out wr HB.out
            have HVT2 : Hid (∀ W, Below wr.heap.size wr W → Below W0.heap.size W0 W) := fun W hW => HB.out.trans (hW.mono HB.out.size)
            by_cases hX : X = []
            · have HNEXT : Hid (faI T N D (k + 1) = faI T N D k) := by show _ = _; rw [faI, ← HXX.out.1, if_pos hX]
              have HX0 : Hid (X.length = 0) := by show _ = _; rw [hX]; rfl
              obtain ⟨lX, elX⟩ : ∃ lX, lX = X.length := ⟨_, rfl⟩
              rw [← elX] at HNC0 HX0
              obtain rfl : lX = 0 := HX0.out
              obtain ⟨lx, elx⟩ : ∃ lx, lx = xs.length := ⟨_, rfl⟩
              rw [← elx] at HVT d0
              clear elx elX hX hv hxl hXl
              go_wp2_with fail
              refine HVT.mono ?_
              rintro e w1 ⟨rfl, hb1⟩
              have HB1 : Hid (Below W0.heap.size W0 w1) := HVT2.out w1 hb1
              have HO1 : Hid (OwnS w1 W0.heap.size p m c (faI T N D k)) := HO.out.below hb1
              have d1 := HNC0.out w1 HB1.out
              clear hb1 HVT d0
              go_wp2_with fail
              go_roundw
              case rel => exact ⟨k + 1, p, m, c, by omega, by go_num, rfl, by rw [HNEXT.out]; exact HO1, HB1, HALL⟩
              case measure => simp [intOf]; omega
            · obtain ⟨R, eR⟩ : ∃ R, R = faI T N D k := ⟨_, rfl⟩
              obtain ⟨Y, eY⟩ : ∃ Y, Y = valC T xs := ⟨_, rfl⟩
              have hgd := val_good HF.out H1.out hkD (by rw [← HXX.out.2]; exact hv)
              rw [← HXX.out.2, ← eY] at hgd
              obtain ⟨tre, hok, htl⟩ := trC_ok (xs := xs) (by rw [HXX.out.2]; exact HF.out.db k hkD) hv
              have HYB : Hid (Byte Y) := hgd.1
              have HYL : Hid (Y.length ≤ 10000000) := by have := hgd.2; show _ ≤ _; omega
              have HXL : Hid (X.length ≤ 1048576) := hXl
              have HRL : Hid (R.length ≤ 6000000000) := by rw [eR]; exact (faI_len HF.out H1.out H2.out k (by omega) HA.out).2
              have HNEXT : Hid (∀ p5 n5 c5 w5, OwnS w5 W0.heap.size p5 n5 c5 (sepR R ++ X ++ [32, 61, 32] ++ Y) → OwnS w5 W0.heap.size p5 n5 c5 (faI T N D (k + 1))) := fun p5 n5 c5 w5 h8 => by
                rw [faI, ← HXX.out.1, if_neg hX, faOne, ← HXX.out.2, ← eR, ← eY]; exact h8
              obtain ⟨ys, eys⟩ : ∃ ys, ys = strOfNums Y := ⟨_, rfl⟩
              have HYS : Hid (ys = strOfNums Y) := eys
              have HTX : Hid (∀ W, Below W0.heap.size W0 W → Calls Tryz.prog 33 #[.pointer (some ⟨ob, 0, none⟩), .slice qd xs.length xs.length, .int .i64 699] W fun e w' => e = .returned (.string ys) ∧ Below W.heap.size W w') := fun W hW => by
                obtain ⟨ft1, ft2⟩ := tab_facts H1.out
                have hi : (itC (trC xs)).length = xs.length := by
                  have := congrArg List.length tre
                  simp only [List.length_cons] at this
                  simp only [itC, List.length_cons]; omega
                have := text_all ob po co T none 0 [] true (fun j hj => (ft2 j hj).1.1) xs.length W0 HE0.out (trC xs) 699 qd xs.length xs.length W hok (by omega) (by omega) ⟨hi.symm, Nat.le_refl _, by omega, by have h9 := HCI.out.below HW0.out; rw [tre] at h9; exact h9⟩ (by decide) (by decide) hW
                rw [eys, eY]; exact this
              have hlx : 0 < X.length := by cases X with | nil => exact absurd rfl hX | cons _ _ => simp
              have HNB0 : Hid (∃ ad, qn = some ad ∧ ∀ W, Below W0.heap.size W0 W → ∀ j u, (X.map (Value.int .u8))[j]? = some u → W.cell? (ad.add j) = some u) := by
                obtain ⟨ad, ea, hc⟩ := bin_cells (HBN.out W0 (Below.refl _ _)) hlx
                exact ⟨ad, ea, fun W hW j u hj => (hW.cell (World.block_lt_of_cell? _ _ (hc j u hj))).trans (hc j u hj)⟩
              obtain ⟨ad, ead, hnb⟩ := HNB0.out
              subst ead
              have HNB : Hid (∀ W, Below W0.heap.size W0 W → ∀ j u, (X.map (Value.int .u8))[j]? = some u → W.cell? (ad.add j) = some u) := hnb
              obtain ⟨lX, elX⟩ : ∃ lX, lX = X.length := ⟨_, rfl⟩
              have HLX : Hid (lX = X.length) := elX
              have HNC : Hid (∀ W, Below W0.heap.size W0 W → W.cell? ⟨b, o + k, none⟩ = some (.slice (some ad) lX cq)) := by rw [elX]; exact HNC0
              obtain ⟨ld, eld⟩ : ∃ ld, ld = xs.length := ⟨_, rfl⟩
              have HDC : Hid (∀ W, Below W0.heap.size W0 W → W.cell? ⟨bd, od + k, none⟩ = some (.slice qd ld ld)) := by rw [eld]; exact HDC0
              rw [← elX] at hlx
              rw [← eld] at HVT HTX d0
              rw [← eR] at HO
              have hXi : ¬ ((lX : Int) = 0) := by omega
              have hXb : ((lX : Int) == 0) = false := by simp; omega
              clear hnb HNB0 HNC0 HDC0 elX eld eR eY eys hgd tre hok htl hv hX hxl hXl HXX HCI HBN
              by_cases hR : R = []
              · have hm0 : m = 0 := by have := HO.out.1; rw [hR] at this; exact this
                subst hm0 hR
                go_wp2_with fail
                refine HVT.mono ?_
                rintro e wx ⟨rfl, hbx⟩
                have HBX : Hid (Below W0.heap.size W0 wx) := HVT2.out wx hbx
                have HOX : Hid (OwnS wx W0.heap.size p 0 c []) := HO.out.below hbx
                have d1 := HNC.out wx HBX.out
                clear hbx HVT d0 HO HB HVT2
                have tok2 : True := trivial
                go_wp2_with (at_builtin; first
               | (have _t := tok2; refine app_bytes _ rfl _ _ rfl W0.heap.size p 0 c ([]) X lX HLX.out rfl HOX.out ad cq rfl (HNB.out _ HBX.out) hlx (by have h1 := HOX.out.1; have h2 := HRL.out; have h3 := HXL.out; have h5 := HLX.out; (try simp at h1); omega) HBX.out.size ?_; intro g2 n2 c2 w2 ho2 hb2 hn2
                  have HB2 : Hid (Below W0.heap.size W0 w2) := HBX.out.trans hb2
                  have HO2 : Hid (OwnS w2 W0.heap.size (some ⟨g2, 0, none⟩) n2 c2 (([]) ++ X)) := ho2
                  clear tok2 ho2 hb2 hn2
                  have tok3 : True := trivial)
               | (have _t := tok3; refine app_str _ rfl _ _ rfl W0.heap.size (some ⟨g2, 0, none⟩) n2 c2 (([]) ++ X) [32, 61, 32] byte_eq3 rfl HO2.out ⟨#[32, 61, 32]⟩ rfl rfl (by decide) (by have h1 := HO2.out.1; have h2 := HRL.out; have h3 := HXL.out; simp only [List.length_cons, List.length_nil, List.length_append] at h1 ⊢; omega) HB2.out.size ?_; intro g3 n3 c3 w3 ho3 hg3 hn3 ha3
                  have HB3 : Hid (Below W0.heap.size W0 w3) := own_below HB2.out HO2.out hg3
                  have HO3 : Hid (OwnS w3 W0.heap.size (some ⟨g3, 0, none⟩) n3 c3 ((([]) ++ X) ++ [32, 61, 32])) := ho3
                  have d4 := HDC.out w3 HB3.out
                  clear tok3 ho3 hg3 hn3 ha3
                  have tok4 : True := trivial))
                refine (HTX.out w3 HB3.out).mono ?_
                rintro e w4 ⟨rfl, hb4⟩
                have HB4 : Hid (Below W0.heap.size W0 w4) := HB3.out.trans (hb4.mono HB3.out.size)
                have HO4 : Hid (OwnS w4 W0.heap.size (some ⟨g3, 0, none⟩) n3 c3 ((([]) ++ X) ++ [32, 61, 32])) := HO3.out.below hb4
                clear hb4 HO3 HTX
                go_wp2_with (at_builtin; refine app_strE _ rfl _ _ rfl W0.heap.size (some ⟨g3, 0, none⟩) n3 c3 ((([]) ++ X) ++ [32, 61, 32]) Y HYB.out rfl HO4.out ys HYS.out rfl (by have h1 := HO4.out.1; have h2 := HRL.out; have h3 := HXL.out; have h4 := HYL.out; (try simp at h1); omega) HB4.out.size ?_; intro p5 n5 c5 w5 ho5 hg5)
                go_roundw
                case rel => exact ⟨k + 1, _, _, _, by omega, by go_num, rfl, HNEXT.out _ _ _ _ (by simpa [sepR] using ho5), own_below HB4.out HO4.out hg5, HALL⟩
                case measure => simp [intOf]; omega
              · have hm0 : 0 < m := by
                  have := HO.out.1
                  cases R with
                  | nil => exact absurd rfl hR
                  | cons _ _ => simp at this; omega
                have hmi : (0 : Int) < m := by omega
                have HSEP : Hid (sepR R = R ++ [44, 10]) := by show _ = _; unfold sepR; rw [if_neg hR]
                clear hR
                go_wp2_with fail
                refine HVT.mono ?_
                rintro e wx ⟨rfl, hbx⟩
                have HBX : Hid (Below W0.heap.size W0 wx) := HVT2.out wx hbx
                have HOX : Hid (OwnS wx W0.heap.size p m c R) := HO.out.below hbx
                have d1 := HNC.out wx HBX.out
                clear hbx HVT d0 HO HB HVT2
                have tok1 : True := trivial
                go_wp2_with (at_builtin; first
               | (have _t := tok1; refine app_str _ rfl _ _ rfl W0.heap.size p m c (R) [44, 10] byte_sep rfl HOX.out ⟨#[44, 10]⟩ rfl rfl (by decide) (by have h1 := HOX.out.1; have h2 := HRL.out; simp only [List.length_cons, List.length_nil, List.length_append] at h1 ⊢; omega) HBX.out.size ?_; intro g1 n1 c1 w1 ho1 hg1 hn1 ha1
                  have HB1 : Hid (Below W0.heap.size W0 w1) := own_below HBX.out HOX.out hg1
                  have HO1 : Hid (OwnS w1 W0.heap.size (some ⟨g1, 0, none⟩) n1 c1 ((R) ++ [44, 10])) := ho1
                  have d2 := HNC.out w1 HB1.out
                  clear tok1 ho1 hg1 hn1 ha1
                  have tok2 : True := trivial)
               | (have _t := tok2; refine app_bytes _ rfl _ _ rfl W0.heap.size (some ⟨g1, 0, none⟩) n1 c1 (R ++ [44, 10]) X lX HLX.out rfl HO1.out ad cq rfl (HNB.out _ HB1.out) hlx (by have h1 := HO1.out.1; have h2 := HRL.out; have h3 := HXL.out; have h5 := HLX.out; (try simp at h1); omega) HB1.out.size ?_; intro g2 n2 c2 w2 ho2 hb2 hn2
                  have HB2 : Hid (Below W0.heap.size W0 w2) := HB1.out.trans hb2
                  have HO2 : Hid (OwnS w2 W0.heap.size (some ⟨g2, 0, none⟩) n2 c2 ((R ++ [44, 10]) ++ X)) := ho2
                  clear tok2 ho2 hb2 hn2
                  have tok3 : True := trivial)
               | (have _t := tok3; refine app_str _ rfl _ _ rfl W0.heap.size (some ⟨g2, 0, none⟩) n2 c2 ((R ++ [44, 10]) ++ X) [32, 61, 32] byte_eq3 rfl HO2.out ⟨#[32, 61, 32]⟩ rfl rfl (by decide) (by have h1 := HO2.out.1; have h2 := HRL.out; have h3 := HXL.out; simp only [List.length_cons, List.length_nil, List.length_append] at h1 ⊢; omega) HB2.out.size ?_; intro g3 n3 c3 w3 ho3 hg3 hn3 ha3
                  have HB3 : Hid (Below W0.heap.size W0 w3) := own_below HB2.out HO2.out hg3
                  have HO3 : Hid (OwnS w3 W0.heap.size (some ⟨g3, 0, none⟩) n3 c3 (((R ++ [44, 10]) ++ X) ++ [32, 61, 32])) := ho3
                  have d4 := HDC.out w3 HB3.out
                  clear tok3 ho3 hg3 hn3 ha3
                  have tok4 : True := trivial))
                refine (HTX.out w3 HB3.out).mono ?_
                rintro e w4 ⟨rfl, hb4⟩
                have HB4 : Hid (Below W0.heap.size W0 w4) := HB3.out.trans (hb4.mono HB3.out.size)
                have HO4 : Hid (OwnS w4 W0.heap.size (some ⟨g3, 0, none⟩) n3 c3 (((R ++ [44, 10]) ++ X) ++ [32, 61, 32])) := HO3.out.below hb4
                clear hb4 HO3 HTX
                go_wp2_with (at_builtin; refine app_strE _ rfl _ _ rfl W0.heap.size (some ⟨g3, 0, none⟩) n3 c3 (((R ++ [44, 10]) ++ X) ++ [32, 61, 32]) Y HYB.out rfl HO4.out ys HYS.out rfl (by have h1 := HO4.out.1; have h2 := HRL.out; have h3 := HXL.out; have h4 := HYL.out; (try simp at h1); omega) HB4.out.size ?_; intro p5 n5 c5 w5 ho5 hg5)
                go_roundw
                case rel => exact ⟨k + 1, _, _, _, by omega, by go_num, rfl, HNEXT.out _ _ _ _ (by rw [HSEP.out]; simpa using ho5), own_below HB4.out HO4.out hg5, HALL⟩
                case measure => simp [intOf]; omega
        · obtain rfl : k = n := by omega
          have HFI : Hid (∀ p m c W, OwnS W W0.heap.size p m c (faA T N D) → Below W0.heap.size W0 W → FaO w T N D (.returned (.slice p m c)) W) := fun p m c W h8 h9 => by
            refine ⟨p, m, c, rfl, ?_, HW0.out.trans (h9.mono HW0.out.size)⟩
            rw [faR_yes ⟨H1.out, H2.out, by have h7 := HA.out; rw [EN.out, H2.out] at h7; exact h7⟩]
            exact h8.toT.mono HW0.out.size
          have HFA : Hid (faA T N D = if faI T N D k = [] then [116, 114, 117, 101] else faI T N D k) := by show _ = _; unfold faA; rw [← EN.out]
          obtain ⟨R, eR⟩ : ∃ R, R = faI T N D k := ⟨_, rfl⟩
          rw [← eR] at HO HFA
          clear eR
          by_cases hR : R = []
          · have hm0 : m = 0 := by have := HO.out.1; rw [hR] at this; exact this
            subst hm0 hR
            go_wp2_with (at_builtin; refine app_str _ rfl _ _ rfl W0.heap.size p 0 c [] [116, 114, 117, 101] byte_true rfl HO.out ⟨#[116, 114, 117, 101]⟩ rfl rfl (by decide) (by decide) HB.out.size ?_; intro g5 n5 c5 w5 ho5 hg5 hn5 ha5)
            go_ret
            exact HFI.out _ _ _ _ (by rw [HFA.out]; simpa using ho5) (own_below HB.out HO.out hg5)
          · have hm0 : 0 < m := by
              have := HO.out.1
              cases R with
              | nil => exact absurd rfl hR
              | cons _ _ => simp at this; omega
            have hmi : ¬ ((m : Int) = 0) := by omega
            have hmb : ((m : Int) == 0) = false := by simp; omega
            have HFA2 : Hid (faA T N D = R) := by rw [HFA.out, if_neg hR]; rfl
            clear HFA hR
            go_wp2_with fail
            go_ret
            exact HFI.out _ _ _ _ (by rw [HFA2.out]; exact HO.out) HB.out
    · have HNO : Hid (∀ W, Below w.heap.size w W → FaO w T N D (.returned (.slice none 0 0)) W) := fun W hW => fa_none (fun hg => h2 hg.2.1) hW
      obtain ⟨n, en⟩ : ∃ n, n = N.length := ⟨_, rfl⟩
      obtain ⟨d, ed⟩ : ∃ d, d = D.length := ⟨_, rfl⟩
      rw [← en, ← ed] at h2 ⊢
      have h2i : ¬ ((n : Int) = d) := by omega
      have h2b : ((n : Int) == d) = false := by simp; omega
      have h2c : ((n : Int) != d) = true := by simp; omega
      rw [← en] at hnl
      rw [← ed] at hdl
      clear hT hN hD hF hTl en ed h1
      go_enter Tryz.func23, Tryz.ntmps23
      go_wp2_with fail
      refine HV1.mono ?_
      rintro e w1 ⟨rfl, hb1⟩
      have HB1 : Hid (Below w.heap.size w w1) := hb1
      clear hb1 HV1
      go_wp2_with fail
      go_ret
      exact HNO.out _ HB1.out
  · have h1' : tabB T = false := by simpa using h1
    rw [h1'] at HV1
    have HNO : Hid (∀ W, Below w.heap.size w W → FaO w T N D (.returned (.slice none 0 0)) W) := fun W hW => fa_none (fun hg => h1 hg.1) hW
    have hnl : N.length ≤ 1048576 := by have := hF.nl; omega
    have hdl : D.length ≤ 1048576 := by have := hF.dl; omega
    clear hT hN hD hF hTl h1 h1'
    go_enter Tryz.func23, Tryz.ntmps23
    go_wp2_with fail
    refine HV1.mono ?_
    rintro e w1 ⟨rfl, hb1⟩
    have HB1 : Hid (Below w.heap.size w w1) := hb1
    clear hb1 HV1
    go_wp2_with fail
    go_ret
    exact HNO.out _ HB1.out
end Go.Proofs.YtelcfcgdnebdgaaGreatDoor
namespace Go.Proofs.YtelcfcgdnebdgaaGreatDoor
open Go Go.RowKit
set_option linter.unusedVariables false
set_option linter.unusedSimpArgs false
set_option maxRecDepth 100000 in
set_option maxHeartbeats 1000000 in
theorem equation_any {B : Bas} {wb : Nat} {K : WK} (hK : TabsK B wb) (nm : List Int) (hnb : Byte nm) (hnn : nm ≠ []) (vt : TypeId) (vx : Value) (Y : List Int) (ht : TermAt B wb K (.iface vt vx) 699 Y) (w : World) (R : List Int) (kg : Nat) (hR : Byte R) (hk0 : R = [] → kg = 0) (hl : (sepR R ++ nm ++ [32, 61, 32] ++ Y).length ≤ 10000000000) (hs : ∃ p n c, WS B w wb K p n c R kg) :
    Calls Tryz.prog 46 #[.pointer (some ⟨wb, 0, none⟩), .string (strOfNums nm), .iface vt vx] w fun e w' => e = .returned (.tuple #[]) ∧ ∃ k' p n c, WS B w' wb K p n c (sepR R ++ nm ++ [32, 61, 32] ++ Y) k' := by
  have HTM : Hid (TermAt B wb K (.iface vt vx) 699 Y) := ht
  have HK : Hid (TabsK B wb) := hK
  have HNB : Hid (Byte nm ∧ nm ≠ []) := ⟨hnb, hnn⟩
  obtain ⟨S, eS⟩ : ∃ S, S = sepR R := ⟨_, rfl⟩
  have hSb : Byte S := by rw [eS]; exact sep_byte hR
  have HL : Hid ((S ++ nm ++ [32, 61, 32] ++ Y).length ≤ 10000000000) := by rw [eS]; exact hl
  have HSB : Hid (Byte S) := hSb
  have e3 : strOfNums [32, 61, 32] = ⟨#[32, 61, 32]⟩ := rfl
  have H2 : Hid (∀ W, (∃ p n c, WS B W wb K p n c S 0) → Calls Tryz.prog 47 #[.pointer (some ⟨wb, 0, none⟩), .string (strOfNums nm)] W (PutOut B W wb K (S ++ nm) 0)) := fun W hW => by
    have := put_any B W wb K S nm 0 (HK.out.tab _ (WSx.gr hW)) HSB.out HNB.out.1 (by have := HL.out; simp at this; omega) hW
    rw [putR_zero, show putG 0 nm = 0 from by unfold putG; split <;> rfl] at this
    exact this
  have H3 : Hid (∀ W, (∃ p n c, WS B W wb K p n c (S ++ nm) 0) → Calls Tryz.prog 47 #[.pointer (some ⟨wb, 0, none⟩), .string ⟨#[32, 61, 32]⟩] W (PutOut B W wb K (S ++ nm ++ [32, 61, 32]) 0)) := fun W hW => by
    have := put_any B W wb K (S ++ nm) [32, 61, 32] 0 (HK.out.tab _ (WSx.gr hW)) (byte_app HSB.out HNB.out.1) byte_eq3 (by have := HL.out; simp at this ⊢; omega) hW
    rw [putR_zero, e3, show putG 0 [32, 61, 32] = 0 from rfl] at this
    exact this
  have H4 : Hid (∀ W, (∃ p n c, WS B W wb K p n c (S ++ nm ++ [32, 61, 32]) 0) → Calls Tryz.prog 40 #[.pointer (some ⟨wb, 0, none⟩), .iface vt vx, .int .i64 699] W fun e w' => e = .returned (.tuple #[]) ∧ ∃ k' p n c, WS B w' wb K p n c (S ++ nm ++ [32, 61, 32] ++ Y) k') := fun W hW => by
    have hst : startB (S ++ nm ++ [32, 61, 32]) 0 := by
      have e : S ++ nm ++ [32, 61, 32] = (S ++ nm ++ [32, 61]) ++ [32] := by simp
      rw [e]; exact start_behind rfl 0
    refine (HTM.out W (S ++ nm ++ [32, 61, 32]) 0 (byte_app (byte_app HSB.out HNB.out.1) byte_eq3) (by rw [putR_zero]; exact HL.out) hst (HK.out.tab _ (WSx.gr hW)) (HK.out.pow _ (WSx.gr hW)) hW).mono ?_
    rintro e w' ⟨he, ⟨k', _, p, n, c, hw⟩, _⟩
    rw [putR_zero] at hw
    exact ⟨he, k', p, n, c, hw⟩
  obtain ⟨sn, esn⟩ : ∃ sn, sn = strOfNums nm := ⟨_, rfl⟩
  rw [← esn] at H2 ⊢
  rw [← eS]
  obtain ⟨F, eF⟩ : ∃ F, F = S ++ nm ++ [32, 61, 32] ++ Y := ⟨_, rfl⟩
  rw [← eF] at H4 ⊢
  obtain ⟨p, n, c, hs⟩ := hs
  have c0 := hs.c0
  have hln := hs.own.1
  by_cases hRe : R = []
  · have hn0 : n = 0 := by rw [hln, hRe]; rfl
    have hk := hk0 hRe
    subst hn0 hk
    have HS1 : Hid (∃ p n c, WS B w wb K p n c S 0) := ⟨p, 0, c, by rw [eS, sepR, if_pos hRe, ← hRe]; exact hs⟩
    have H2' := H2.out w HS1.out
    clear hK ht hnb hnn hR hk0 hl hs hSb eS esn eF hln hRe e3 HL HNB HTM HSB HS1
    go_enter Tryz.func46, Tryz.ntmps46
    go_wp2_with fail
    refine H2'.mono ?_
    rintro e w2 ⟨rfl, hs2, _⟩
    have H3' := H3.out w2 hs2
    clear hs2 H2'
    go_wp2_with fail
    refine H3'.mono ?_
    rintro e w3 ⟨rfl, hs3, _⟩
    have H4' := H4.out w3 hs3
    clear hs3 H3'
    go_wp2_with fail
    refine H4'.mono ?_
    rintro e w4 ⟨rfl, h4⟩
    have H5 : Hid _ := h4
    clear h4 H4'
    go_wp2_with fail
    exact bodyPost_end (v := .tuple #[]) (by simp [results, Tryz.results46, go_sem]) rfl ⟨rfl, H5.out⟩
  · have hn0 : 0 < n := by
      rw [hln]
      cases R with
      | nil => exact absurd rfl hRe
      | cons _ _ => simp
    have hni : (0 : Int) < n := by omega
    have e2 : strOfNums [44, 10] = ⟨#[44, 10]⟩ := rfl
    have H1 := put_any B w wb K R [44, 10] kg (HK.out.tab _ hs.gr) hR byte_sep (by have h8 := HL.out; rw [eS, sepR, if_neg hRe] at h8; simp at h8 ⊢; omega) ⟨p, n, c, hs⟩
    rw [putR_close (.inr (.inr (.inl rfl))), e2, show putG kg [44, 10] = 0 from rfl] at H1
    have HES : Hid (R ++ [44, 10] = S) := by show _ = _; rw [eS, sepR, if_neg hRe]
    clear hK ht hnb hnn hR hk0 hl hs hSb eS esn eF hln hRe e3 e2 HL HNB HTM HSB
    go_enter Tryz.func46, Tryz.ntmps46
    go_wp2_with fail
    refine H1.mono ?_
    rintro e w1 ⟨rfl, hs1, _⟩
    rw [HES.out] at hs1
    have H2' := H2.out w1 hs1
    clear hs1 H1
    go_wp2_with fail
    refine H2'.mono ?_
    rintro e w2 ⟨rfl, hs2, _⟩
    have H3' := H3.out w2 hs2
    clear hs2 H2'
    go_wp2_with fail
    refine H3'.mono ?_
    rintro e w3 ⟨rfl, hs3, _⟩
    have H4' := H4.out w3 hs3
    clear hs3 H3'
    go_wp2_with fail
    refine H4'.mono ?_
    rintro e w4 ⟨rfl, h4⟩
    have H5 : Hid _ := h4
    clear h4 H4'
    go_wp2_with fail
    exact bodyPost_end (v := .tuple #[]) (by simp [results, Tryz.results46, go_sem]) rfl ⟨rfl, H5.out⟩
set_option maxRecDepth 100000 in
theorem noTerm_any (q : Option Addr) (cap : Nat) (xs : List Cel) (w : World) (hl : xs.length ≤ 1000000000) (hc : CIn w q xs) :
    Calls Tryz.prog 44 #[.slice q xs.length cap] w fun e w' => e = .returned (.bool (!validB xs)) ∧ Below w.heap.size w w' := by
  have HV := implValid_any q cap xs w hl hc
  clear hl hc
  generalize validB xs = b at HV ⊢
  generalize xs.length = n at HV ⊢
  go_enter Tryz.func44, Tryz.ntmps44
  go_wp2_with fail
  refine HV.mono ?_
  rintro e w1 ⟨rfl, hb⟩
  have HB : Hid (Below w.heap.size w w1) := hb
  clear hb HV
  go_wp2_with fail
  go_ret
  exact ⟨rfl, HB.out⟩
set_option maxRecDepth 100000 in
set_option maxHeartbeats 1000000 in
theorem indexNo_any (pd : Option Addr) (cd : Nat) (D : List (List Cel)) (w : World) (hD : TCC w pd D) (hdl : D.length ≤ 1048576) (hl : ∀ i, i < D.length → (D.getD i []).length ≤ 1048576) :
    Calls Tryz.prog 65 #[.slice pd D.length cd, .func (.func 44) #[] #[]] w fun e w' => ∃ r : Int, e = .returned (.int .i64 r) ∧ -1 ≤ r ∧ r ≤ 1048576 ∧ (r < 0 ↔ allV D D.length) ∧ Below w.heap.size w w' := by
  have HD : Hid (TCC w pd D) := hD
  have HLN : Hid (∀ i, i < D.length → (D.getD i []).length ≤ 1048576) := hl
  obtain ⟨n, en⟩ : ∃ n, n = D.length := ⟨_, rfl⟩
  have EN : Hid (n = D.length) := en
  rw [← en] at hdl ⊢
  clear hD hl en
  go_enter Tryz.func65, Tryz.ntmps65
  go_wp2_with fail
  go_loopw [8] (fun i wr => ∃ (j : Nat), j ≤ n ∧ i = .int .i64 j ∧ Hid (allV D j) ∧ Hid (Below w.heap.size w wr)) (fun i _ => n - (intOf i).toNat)
  case atStart => exact ⟨0, Nat.zero_le _, rfl, fun i hi => by omega, Below.refl _ _⟩
  case round =>
    obtain ⟨j, hj, rfl, HA, HB⟩ := hrel
    by_cases hlt : j < n
    · have hjD : j < D.length := by have := EN.out; omega
      obtain ⟨b, o, epd, hcd⟩ := HD.out (by omega)
      obtain ⟨q, d0, d1⟩ := hcd j hjD
      subst epd
      have h9 := HLN.out j hjD
      have HNT := noTerm_any q (D.getD j []).length (D.getD j []) wr (by omega) (d1.below HB.out)
      have c0 := (HB.out.cell (World.block_lt_of_cell? _ _ d0)).trans d0
      have HXS : Hid (validB (D.getD j []) = validB (D.getD j [])) := rfl
      obtain ⟨vb, evb⟩ : ∃ vb, vb = validB (D.getD j []) := ⟨_, rfl⟩
      have HVB : Hid (vb = validB (D.getD j [])) := evb
      rw [← evb] at HNT
      obtain ⟨l, el⟩ : ∃ l, l = (D.getD j []).length := ⟨_, rfl⟩
      rw [← el] at HNT c0
      clear d0 d1 hcd evb el h9 HXS
      cases vb with
      | true =>
        go_wp2_with fail
        refine HNT.mono ?_
        rintro e w1 ⟨rfl, hb⟩
        have HB1 : Hid (Below w.heap.size w w1) := Below.on HB.out hb
        clear hb HNT c0
        go_wp2_with fail
        go_roundw
        case rel => exact ⟨j + 1, by omega, by go_num, fun i hi => by
          rcases Nat.lt_or_ge i j with h | h
          · exact HA.out i h
          · have e : i = j := by omega
            rw [e]; exact HVB.out.symm, HB1⟩
        case measure => simp [intOf]; omega
      | false =>
        have HNO : Hid (¬ allV D D.length) := fun h => by have := h j hjD; rw [← HVB.out] at this; cases this
        go_wp2_with fail
        refine HNT.mono ?_
        rintro e w1 ⟨rfl, hb⟩
        have HB1 : Hid (Below w.heap.size w w1) := Below.on HB.out hb
        clear hb HNT c0
        go_wp2_with fail
        go_ret
        exact ⟨(j : Int), rfl, by omega, by omega, ⟨fun h => by omega, fun h => absurd (show allV D D.length by rw [← EN.out]; exact h) HNO.out⟩, HB1.out⟩
    · obtain rfl : j = n := by omega
      go_wp2_with fail
      go_ret
      exact ⟨-1, rfl, by omega, by omega, ⟨fun _ => HA.out, fun _ => by omega⟩, HB.out⟩
set_option maxRecDepth 100000 in
theorem contNo_any (pd : Option Addr) (cd : Nat) (D : List (List Cel)) (w : World) (hD : TCC w pd D) (hdl : D.length ≤ 1048576) (hl : ∀ i, i < D.length → (D.getD i []).length ≤ 1048576) :
    Calls Tryz.prog 45 #[.slice pd D.length cd, .func (.func 44) #[] #[]] w fun e w' => ∃ b : Bool, e = .returned (.bool b) ∧ (b = false ↔ allV D D.length) ∧ Below w.heap.size w w' := by
  have HI := indexNo_any pd cd D w hD hdl hl
  obtain ⟨P, eP⟩ : ∃ P : Prop, P = allV D D.length := ⟨_, rfl⟩
  rw [← eP] at HI ⊢
  clear hD hl eP
  generalize D.length = n at HI hdl ⊢
  go_enter Tryz.func45, Tryz.ntmps45
  go_wp2_with fail
  refine HI.mono ?_
  rintro e w1 ⟨r, rfl, h1, h2, h3, hb⟩
  have HB : Hid (Below w.heap.size w w1) := hb
  have HR : Hid (r < 0 ↔ P) := h3
  clear hb h3 HI
  by_cases hr : r < 0
  · have hd : decide ((0 : Int) ≤ r) = false := by simp; omega
    go_wp2_with fail
    go_ret
    refine ⟨false, ?_, ⟨fun _ => HR.out.1 hr, fun _ => rfl⟩, HB.out⟩
    simp [hd]
  · have hd : decide ((0 : Int) ≤ r) = true := by simp; omega
    go_wp2_with fail
    go_ret
    refine ⟨true, ?_, ⟨fun h => (by cases h), fun h => absurd (HR.out.2 h) (by omega)⟩, HB.out⟩
    simp [hd]
end Go.Proofs.YtelcfcgdnebdgaaGreatDoor
