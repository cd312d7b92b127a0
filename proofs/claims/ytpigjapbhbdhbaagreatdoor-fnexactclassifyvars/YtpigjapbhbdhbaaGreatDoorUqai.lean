/- Texts of Vars2, VarO, VarG, Vars3. Own work of the verifier. -/
import Derived.Test.YtpigjapbhbdhbaaGreatDoorUqah
namespace Go.Proofs.YtpigjapbhbdhbaaGreatDoor
open Go Go.RowKit Go.Maps
set_option linter.unusedVariables false
theorem VState.below {w w' : World} {B vb nb mb : Nat} {ks : List Int} {p : Option Addr} {n c : Nat} (h : VState w B vb nb mb ks p n c) (hb : Below w.heap.size w w') : VState w' B vb nb mb ks p n c :=
  ⟨(hb.cell (World.block_lt_of_cell? _ _ h.1)).trans h.1, (hb.frozen (World.block_lt_of_cell? _ _ h.1)).trans h.2, (hb.cell (World.block_lt_of_cell? _ _ h.3)).trans h.3, h.4, row_below h.5 hb, h.6.of_block (hb.block _ h.6.lt), h.7, h.8, h.9, h.10⟩
end Go.Proofs.YtpigjapbhbdhbaaGreatDoor

namespace Go.Proofs.YtpigjapbhbdhbaaGreatDoor
open Go Go.RowKit Go.Maps
set_option linter.unusedVariables false
end Go.Proofs.YtpigjapbhbdhbaaGreatDoor

namespace Go.Proofs.YtpigjapbhbdhbaaGreatDoor
open Go Go.RowKit Go.Maps
set_option linter.unusedVariables false
set_option maxRecDepth 100000 in
theorem l2vars_any (p : Option Addr) (n c : Nat) (cs : List Cel) (w : World) (hn : n = cs.length) (hl : n ≤ 100000) (hin : CIn w p cs) :
    Calls Tryz.prog 90 #[.slice p n c, .slice none 0 0] w fun e w' => ∃ q m c2, e = .returned (.slice q m c2) ∧ OwnI w' w.heap.size 3 q m c2 (visits [] cs) ∧ Below w.heap.size w w' := by
  have HI : Hid (CIn w p cs) := hin
  have HN : Hid (n = cs.length) := hn
  clear hin hn
  go_enter Tryz.func90, Tryz.ntmps90
  go_wp2_with fail
  go_loopw [1, 5] (fun s i wr => ∃ (j : Nat) (q : Option Addr) (m c2 : Nat), j ≤ n ∧ m ≤ j ∧ i = .int .i64 j ∧ s = .slice q m c2 ∧ Hid (OwnI wr w.heap.size 3 q m c2 (visits [] (cs.take j))) ∧ Hid (Below w.heap.size w wr)) (fun _ i _ => n - (intOf i).toNat)
  case atStart => exact ⟨0, none, 0, 0, Nat.zero_le _, Nat.le_refl _, rfl, rfl, OwnI.nil _ _ _, Below.refl _ _⟩
  case round =>
    obtain ⟨j, q, m, c2, hj, hm, rfl, rfl, HO, HB⟩ := hrel
    by_cases hlt : j < n
    · have hjl : j < cs.length := by rw [← HN.out]; exact hlt
      obtain ⟨b, o, rfl, hcs⟩ := HI.out (by omega)
      obtain ⟨p0, q0, d0, d1, _, _⟩ := (hcs j hjl).below HB.out
      have HV : Hid _ := visits_take cs j hjl []
      obtain ⟨c0, e0⟩ : ∃ x, x = (cs.getD j Cel.none).1 := ⟨_, rfl⟩
      obtain ⟨c1, e1⟩ : ∃ x, x = (cs.getD j Cel.none).2.1 := ⟨_, rfl⟩
      rw [← e0] at d0
      rw [← e1] at d1
      have HE : Hid (c0 = (cs.getD j Cel.none).1 ∧ c1 = (cs.getD j Cel.none).2.1) := ⟨e0, e1⟩
      clear hcs e0 e1
      by_cases h0 : c0 = 0
      · subst h0
        have HFD := l2find_any q m c2 _ c1 wr HO.out.1 (by omega) HO.out.iin
        by_cases hx : c1 ∈ visits [] (cs.take j)
        · have hf : ¬ findI (visits [] (cs.take j)) c1 < 0 := by rw [findI, if_pos hx]; omega
          have HX : Hid (visits [] (cs.take (j + 1)) = visits [] (cs.take j)) := by
            show _ = _
            rw [HV.out, visitL, if_pos HE.out.1.symm, putV, if_pos (by rw [← HE.out.2]; exact hx)]
          obtain ⟨fi, ef⟩ : ∃ fi, fi = findI (visits [] (cs.take j)) c1 := ⟨_, rfl⟩
          rw [← ef] at HFD hf
          clear ef hx
          go_wp2_with fail
          refine HFD.mono ?_
          rintro e w1 ⟨rfl, rfl⟩
          go_wp2_with fail
          go_roundw
          case rel => exact ⟨j + 1, q, m, c2, by omega, by omega, by go_num, rfl, by rw [HX.out]; exact HO, HB⟩
          case measure => simp [intOf]; omega
        · have hf : findI (visits [] (cs.take j)) c1 = -1 := by rw [findI, if_neg hx]
          have HX : Hid (visits [] (cs.take (j + 1)) = visits [] (cs.take j) ++ [c1]) := by
            show _ = _
            rw [HV.out, visitL, if_pos HE.out.1.symm, putV, if_neg (by rw [← HE.out.2]; exact hx), ← HE.out.2]
          rw [hf] at HFD
          clear hf hx
          go_wp2_with fail
          refine HFD.mono ?_
          rintro e w1 ⟨rfl, rfl⟩
          go_wp2_with (at_builtin; refine app_int _ rfl _ _ rfl w.heap.size q m c2 _ c1 rfl HO.out rfl (by omega) HB.out.size ?_; intro g n' cap' w5 hown5 hb5 hn5)
          have HB5 : Hid (Below w.heap.size w w5) := (HB.out.alloc HB.out.size _).trans hb5
          have HO5 : Hid (OwnI w5 w.heap.size 3 (some ⟨g, 0, none⟩) n' cap' (visits [] (cs.take (j + 1)))) := by rw [HX.out]; exact hown5
          clear hown5 hb5
          go_roundw
          case rel => exact ⟨j + 1, _, _, _, by omega, by have := hn5.out; omega, by go_num, rfl, HO5, HB5⟩
          case measure => simp [intOf]; omega
      · have h0' : (c0 == 0) = false := by simpa using h0
        have HX : Hid (visits [] (cs.take (j + 1)) = visits [] (cs.take j)) := by
          show _ = _
          rw [HV.out, visitL, if_neg (by rw [← HE.out.1]; exact h0)]
        clear h0
        go_wp2_with fail
        go_roundw
        case rel => exact ⟨j + 1, q, m, c2, by omega, by omega, by go_num, rfl, by rw [HX.out]; exact HO, HB⟩
        case measure => simp [intOf]; omega
    · obtain rfl : j = n := by omega
      go_wp2_with fail
      go_ret
      refine ⟨_, _, _, rfl, ?_, HB.out⟩
      have := HO.out
      rwa [List.take_of_length_le (by rw [← HN.out]; exact Nat.le_refl _)] at this
end Go.Proofs.YtpigjapbhbdhbaaGreatDoor

namespace Go.Proofs.YtpigjapbhbdhbaaGreatDoor
open Go Go.RowKit Go.Maps
set_option linter.unusedVariables false
end Go.Proofs.YtpigjapbhbdhbaaGreatDoor

