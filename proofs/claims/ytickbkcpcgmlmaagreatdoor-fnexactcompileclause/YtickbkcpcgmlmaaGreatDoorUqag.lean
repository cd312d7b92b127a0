/- Texts of VarF, VarG. Own work of the verifier. -/
import Derived.Test.YtickbkcpcgmlmaaGreatDoorUqad
import Derived.Test.YtickbkcpcgmlmaaGreatDoorUqae
namespace Go.Proofs.YtickbkcpcgmlmaaGreatDoor
open Go Go.RowKit Go.Maps
set_option linter.unusedVariables false
def visitL (ks : List Int) (c : Cel) : List Int := if c.1 = 0 then putV ks c.2.1 else ks
theorem noVar_num (w : World) (x : Value) : (Instr.typeAssert (.iface 149 x) 56 94 true).run Tryz.prog w = .ok (.tuple #[.int .i64 0, .bool false]) w := by kernel_rfl
theorem noVar_atom (w : World) (x : Value) : (Instr.typeAssert (.iface 143 x) 56 94 true).run Tryz.prog w = .ok (.tuple #[.int .i64 0, .bool false]) w := by kernel_rfl
theorem noVar_comp (w : World) (x : Value) : (Instr.typeAssert (.iface 156 x) 56 94 true).run Tryz.prog w = .ok (.tuple #[.int .i64 0, .bool false]) w := by kernel_rfl
theorem isVar (w : World) (x : Value) : (Instr.typeAssert (.iface 94 x) 56 94 true).run Tryz.prog w = .ok (.tuple #[x, .bool true]) w := by kernel_rfl
theorem noComp_var (w : World) (x : Value) : (Instr.typeAssert (.iface 94 x) 56 156 true).run Tryz.prog w = .ok (.tuple #[.pointer none, .bool false]) w := by kernel_rfl
theorem noComp_num (w : World) (x : Value) : (Instr.typeAssert (.iface 149 x) 56 156 true).run Tryz.prog w = .ok (.tuple #[.pointer none, .bool false]) w := by kernel_rfl
theorem noComp_atom (w : World) (x : Value) : (Instr.typeAssert (.iface 143 x) 56 156 true).run Tryz.prog w = .ok (.tuple #[.pointer none, .bool false]) w := by kernel_rfl
theorem isComp (w : World) (x : Value) : (Instr.typeAssert (.iface 156 x) 56 156 true).run Tryz.prog w = .ok (.tuple #[x, .bool true]) w := by kernel_rfl
theorem argsLeaf_any (t : TypeId) (x : Value) (w : World) (ht : t = 94 ∨ t = 149 ∨ t = 143) :
  Calls Tryz.prog 101 #[.iface t x] w fun e w' => e = .returned (.slice none 0 0) ∧ w' = w := by
 have n1 := noComp_var; have n2 := noComp_num; have n3 := noComp_atom
 rcases ht with rfl | rfl | rfl
 all_goals
  go_enter Tryz.func101, Tryz.ntmps101
  go_wp2_with fail; go_ret; exact ⟨rfl, rfl⟩
theorem argsComp_any (b g q : Nat) (w : World) (h : w.cell? ⟨b, 1, none⟩ = some (.slice (some ⟨g, 0, none⟩) q q)) :
  Calls Tryz.prog 101 #[.iface 156 (.pointer (some ⟨b, 0, none⟩))] w fun e w' => e = .returned (.slice (some ⟨g, 0, none⟩) q q) ∧ w' = w := by
 have n1 := isComp
 go_enter Tryz.func101, Tryz.ntmps101
 go_wp2_with fail; go_ret; exact ⟨rfl, rfl⟩
def visits (ks : List Int) (cs : List Cel) : List Int := cs.foldl visitL ks
theorem putV_len (ks : List Int) (x : Int) : (putV ks x).length ≤ ks.length + 1 := by unfold putV; split <;> simp
theorem visitL_len (ks : List Int) (c : Cel) : (visitL ks c).length ≤ ks.length + 1 := by unfold visitL; split; exact putV_len _ _; omega
theorem visits_len : ∀ (cs : List Cel) (ks : List Int), (visits ks cs).length ≤ ks.length + cs.length
 | [], ks => by simp [visits]
 | c :: r, ks => by have := visits_len r (visitL ks c); have := visitL_len ks c; simp only [visits, List.foldl_cons, List.length_cons] at *; omega
theorem visits_append (ks : List Int) (a b : List Cel) : visits ks (a ++ b) = visits (visits ks a) b := by simp [visits]
theorem visits_cons (ks : List Int) (c : Cel) (b : List Cel) : visits ks (c :: b) = visits (visitL ks c) b := rfl
def findI (ks : List Int) (x : Int) : Int := if x ∈ ks then (ks.idxOf x : Nat) else -1
theorem mem_getD {ks : List Int} {i : Nat} (h : i < ks.length) : ks.getD i 0 ∈ ks := by simp [List.getD, h]
theorem idxOf_le : ∀ (ks : List Int) (j : Nat) (x : Int), j < ks.length → ks.getD j 0 = x → ks.idxOf x ≤ j
 | [], j, x, h, _ => by simp at h
 | a :: r, 0, x, _, e => by
   have e : a = x := by simpa using e
   simp [e]
 | a :: r, j + 1, x, h, e => by
   have := idxOf_le r j x (by simpa using h) (by simpa using e); rw [List.idxOf_cons]
   cases a == x
   ·simp; omega
   ·simp
theorem find_at {ks : List Int} {x : Int} {j : Nat} (hj : j < ks.length) (h : ∀ i, i < j → ks.getD i 0 ≠ x) (e : ks.getD j 0 = x) : findI ks x = j := by
 have hm : x ∈ ks := e ▸ mem_getD hj; have hlt := List.idxOf_lt_length_of_mem hm
 have hat : ks.getD (ks.idxOf x) 0 = x := by simp [List.getD, hlt]
 rw [findI, if_pos hm]
 have h1 : ¬ ks.idxOf x < j := fun hl => h _ hl hat
 have h2 : ks.idxOf x ≤ j := idxOf_le ks j x hj e
 omega
theorem find_none {ks : List Int} {x : Int} (h : ∀ i, i < ks.length → ks.getD i 0 ≠ x) : findI ks x = -1 := by
 rw [findI, if_neg]
 intro hm
 have hlt := List.idxOf_lt_length_of_mem hm; exact h _ hlt (by simp [List.getD, hlt])
theorem l2find_any (p : Option Addr) (n c : Nat) (ks : List Int) (x : Int) (w : World) (hn : n = ks.length) (hl : n ≤ 1000000) (hin : IIn w p ks) :
  Calls Tryz.prog 183 #[.slice p n c, .int .i64 x] w fun e w' => e = .returned (.int .i64 (findI ks x)) ∧ w' = w := by
 have HI : Hid (IIn w p ks) := hin; have HN : Hid (n = ks.length) := hn; clear hin hn
 go_enter Tryz.func183, Tryz.ntmps183
 go_wp2_with fail
 go_loop [5] (fun i => ∃ j : Nat, j ≤ n ∧ i = .int .i64 j ∧ Hid (∀ i, i < j → ks.getD i 0 ≠ x)) (fun i => n - (intOf i).toNat)
 case atStart => exact ⟨0, Nat.zero_le _, rfl, fun _ h => absurd h (Nat.not_lt_zero _)⟩
 case round =>
  obtain ⟨j, hj, rfl, HF⟩ := hrel
  by_cases hlt : j < n
  ·have hjl : j < ks.length := by rw [← HN.out]; exact hlt
   obtain ⟨b, o, rfl, hc⟩ := HI.out (by omega); have hx := hc j hjl
   obtain ⟨y, ey⟩ : ∃ y, y = ks.getD j 0 := ⟨_, rfl⟩
   rw [← ey] at hx; have HY : Hid (y = ks.getD j 0) := ey; clear hc ey
   by_cases he : y = x
   ·have he' : (y == x) = true := by simpa using he
    have HE : Hid (y = x) := he; clear he; go_wp2_with fail; go_ret; exact ⟨ret_int (find_at hjl HF.out (by rw [← HY.out]; exact HE.out)).symm, rfl⟩
   ·have he' : (y == x) = false := by simpa using he
    have HE : Hid (y ≠ x) := he; clear he; go_wp2_with fail
    go_round
    case rel => exact ⟨j + 1, by omega, by go_num, fun i hi => by
     by_cases e : i = j
     ·subst e; rw [← HY.out]; exact HE.out
     ·exact HF.out i (by omega)⟩
    case measure => simp [intOf]; omega
  ·obtain rfl : j = n := by omega
   go_wp2_with fail; go_ret; exact ⟨ret_int (find_none (by rw [← HN.out]; exact HF.out)).symm, rfl⟩
theorem visits_take (cs : List Cel) (j : Nat) (h : j < cs.length) (ks : List Int) : visits ks (cs.take (j + 1)) = visitL (visits ks (cs.take j)) (cs.getD j Cel.none) := by
 rw [List.take_succ_eq_append_getElem h, visits_append, List.getD, List.getElem?_eq_getElem h]; rfl
set_option maxRecDepth 100000 in
theorem l2vars_any (p : Option Addr) (n c : Nat) (cs : List Cel) (w : World) (hn : n = cs.length) (hl : n ≤ 100000) (hin : CIn w p cs) :
  Calls Tryz.prog 118 #[.slice p n c, .slice none 0 0] w fun e w' => ∃ q m c2, e = .returned (.slice q m c2) ∧ OwnI w' w.heap.size 3 q m c2 (visits [] cs) ∧ Below w.heap.size w w' := by
 have HI : Hid (CIn w p cs) := hin; have HN : Hid (n = cs.length) := hn; clear hin hn
 go_enter Tryz.func118, Tryz.ntmps118
 go_wp2_with fail
 go_loopw [1, 5] (fun s i wr => ∃ (j : Nat) (q : Option Addr) (m c2 : Nat), j ≤ n ∧ m ≤ j ∧ i = .int .i64 j ∧ s = .slice q m c2 ∧ Hid (OwnI wr w.heap.size 3 q m c2 (visits [] (cs.take j))) ∧ Hid (Below w.heap.size w wr)) (fun _ i _ => n - (intOf i).toNat)
 case atStart => exact ⟨0, none, 0, 0, Nat.zero_le _, Nat.le_refl _, rfl, rfl, OwnI.nil _ _ _, Below.refl _ _⟩
 case round =>
  obtain ⟨j, q, m, c2, hj, hm, rfl, rfl, HO, HB⟩ := hrel
  by_cases hlt : j < n
  ·have hjl : j < cs.length := by rw [← HN.out]; exact hlt
   obtain ⟨b, o, rfl, hcs⟩ := HI.out (by omega); obtain ⟨p0, q0, d0, d1, _, _⟩ := (hcs j hjl).below HB.out; have HV : Hid _ := visits_take cs j hjl []
   obtain ⟨c0, e0⟩ : ∃ x, x = (cs.getD j Cel.none).1 := ⟨_, rfl⟩
   obtain ⟨c1, e1⟩ : ∃ x, x = (cs.getD j Cel.none).2.1 := ⟨_, rfl⟩
   rw [← e0] at d0; rw [← e1] at d1
   have HE : Hid (c0 = (cs.getD j Cel.none).1 ∧ c1 = (cs.getD j Cel.none).2.1) := ⟨e0, e1⟩
   clear hcs e0 e1
   by_cases h0 : c0 = 0
   ·subst h0
    have HFD := l2find_any q m c2 _ c1 wr HO.out.1 (by omega) HO.out.iin
    by_cases hx : c1 ∈ visits [] (cs.take j)
    ·have hf : ¬ findI (visits [] (cs.take j)) c1 < 0 := by rw [findI, if_pos hx]; omega
     have HX : Hid (visits [] (cs.take (j + 1)) = visits [] (cs.take j)) := by
      show _ = _
      rw [HV.out, visitL, if_pos HE.out.1.symm, putV, if_pos (by rw [← HE.out.2]; exact hx)]
     obtain ⟨fi, ef⟩ : ∃ fi, fi = findI (visits [] (cs.take j)) c1 := ⟨_, rfl⟩
     rw [← ef] at HFD hf; clear ef hx; go_wp2_with fail; refine HFD.mono ?_; rintro e w1 ⟨rfl, rfl⟩; go_wp2_with fail; go_roundw
     case rel => exact ⟨j + 1, q, m, c2, by omega, by omega, by go_num, rfl, by rw [HX.out]; exact HO, HB⟩
     case measure => simp [intOf]; omega
    ·have hf : findI (visits [] (cs.take j)) c1 = -1 := by rw [findI, if_neg hx]
     have HX : Hid (visits [] (cs.take (j + 1)) = visits [] (cs.take j) ++ [c1]) := by
      show _ = _
      rw [HV.out, visitL, if_pos HE.out.1.symm, putV, if_neg (by rw [← HE.out.2]; exact hx), ← HE.out.2]
     rw [hf] at HFD; clear hf hx; go_wp2_with fail; refine HFD.mono ?_; rintro e w1 ⟨rfl, rfl⟩; go_wp2_with (at_builtin; refine app_int _ rfl _ _ rfl w.heap.size q m c2 _ c1 rfl HO.out rfl (by omega) HB.out.size ?_; intro g n' cap' w5 hown5 hb5 hn5); have HB5 : Hid (Below w.heap.size w w5) := (HB.out.alloc HB.out.size _).trans hb5
     have HO5 : Hid (OwnI w5 w.heap.size 3 (some ⟨g, 0, none⟩) n' cap' (visits [] (cs.take (j + 1)))) := by rw [HX.out]; exact hown5
     clear hown5 hb5; go_roundw
     case rel => exact ⟨j + 1, _, _, _, by omega, by have := hn5.out; omega, by go_num, rfl, HO5, HB5⟩
     case measure => simp [intOf]; omega
   ·have h0' : (c0 == 0) = false := by simpa using h0
    have HX : Hid (visits [] (cs.take (j + 1)) = visits [] (cs.take j)) := by
     show _ = _
     rw [HV.out, visitL, if_neg (by rw [← HE.out.1]; exact h0)]
    clear h0; go_wp2_with fail; go_roundw
    case rel => exact ⟨j + 1, q, m, c2, by omega, by omega, by go_num, rfl, by rw [HX.out]; exact HO, HB⟩
    case measure => simp [intOf]; omega
  ·obtain rfl : j = n := by omega
   go_wp2_with fail; go_ret; refine ⟨_, _, _, rfl, ?_, HB.out⟩; have := HO.out
   rwa [List.take_of_length_le (by rw [← HN.out]; exact Nat.le_refl _)] at this
end Go.Proofs.YtickbkcpcgmlmaaGreatDoor
