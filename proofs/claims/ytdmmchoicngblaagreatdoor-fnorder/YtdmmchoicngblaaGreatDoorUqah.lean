/- Texts of Num, TermG, FunG, VarF, VarG, Ren1, Vars1, Vars2, VarO, Vars3, Vars4. Own work of the verifier. -/
import Derived.Test.YtdmmchoicngblaaGreatDoorUqab
import Derived.Test.YtdmmchoicngblaaGreatDoorUqac
namespace Go.Proofs.YtdmmchoicngblaaGreatDoor
set_option linter.unusedVariables false
set_option maxRecDepth 100000
section
open Go Go.RowKit Go.Maps
theorem lawVar : Keyed Tryz.prog 82 := int_keyed Tryz.underlying82
theorem zeroVar (w : World) : (zeroValue 82).run Tryz.prog w = .ok (.int .i64 0) w := by kernel_rfl
def putV (ks : List Int) (x : Int) : List Int := if x ∈ ks then ks else ks ++ [x]
def NumMap (w : World) (b : Nat) (ks : List Int) : Prop := ∃ D : DataW Unit, w.ownsMap Tryz.prog 82 (plainElem Tryz.prog 82) b ks.length D ∧ Maps.size D = ks.length ∧ (∀ x : Int, Maps.has D (.int .i64 x) = decide (x ∈ ks)) ∧
 (∀ x ∈ ks, D.atKey (.int .i64 x) (.lit (.int .i64 0)) = .lit (.int .i64 (ks.idxOf x)))
theorem NumMap.lt {w : World} {b : Nat} {ks : List Int} (h : NumMap w b ks) : b < w.heap.size := by obtain ⟨D, h, _⟩ := h; exact h.lt
theorem NumMap.of_block {w w' : World} {b : Nat} {ks : List Int} (h : NumMap w b ks) (hb : w'.heap[b]? = w.heap[b]?) : NumMap w' b ks := by
 obtain ⟨D, ⟨es, clock, h1, r⟩, h2⟩ := h; exact ⟨D, ⟨es, clock, hb.trans h1, r⟩, h2⟩
theorem NumMap.made (w : World) : NumMap (w.alloc (.map #[] 0)) w.heap.size [] := ⟨_, World.ownsMap_made _ _ _ _, rfl, fun x => rfl, fun x hx => by cases hx⟩
theorem of_any (b : Nat) (ks : List Int) (x : Int) (w : World) (h0 : 0 ≤ x) (h1 : x ≤ 1000000) (hl : ks.length ≤ 1000000) (hm : NumMap w b ks) :
  Calls Tryz.prog 146 #[.map (some b), .int .i64 x] w fun e w' => e = .returned (.int .i64 (ks.idxOf x)) ∧ NumMap w' b (putV ks x) ∧ w.grownBy w' (some b) := by
 obtain ⟨D, hown, hsz, hhas, hat⟩ := hm; have hk := keyOf_int_mk (P := Tryz.prog) Tryz.underlying82 (q := .i64) (a := x) (WalkArith.wf_i64 (by omega))
 by_cases hx : x ∈ ks
 ·have hh : Maps.has D (.int .i64 x) = true := by rw [hhas]; simpa using hx
  have hv := hat x hx
  have HO : Hid (NumMap w b (putV ks x)) := by rw [putV, if_pos hx]; exact ⟨D, hown, hsz, hhas, hat⟩
  clear hhas hat
  go_enter Tryz.func146, Tryz.ntmps146
  go_wp2_with (at_lookup; refine wpList_lookup_own_ok_int _ rfl _ _ 191 rfl 82 82 .i64 lawVar Tryz.underlying191 Tryz.underlying82 (zeroVar _) b ks.length D rfl hown _ _ rfl hk ?_; intro c hc hwc; rw [hh]; obtain rfl : c = ks.idxOf x := by (rw [hv] at hc; cases hc; rfl)); go_ret; exact ⟨rfl, HO.out, ⟨rfl, rfl, rfl, Nat.le_refl _, fun _ _ _ => rfl⟩⟩
 ·have hh : Maps.has D (.int .i64 x) = false := by rw [hhas]; simpa using hx
  have hi : ks.idxOf x = ks.length := List.idxOf_eq_length hx; have hkl : WideAt.IsKeyLit (.int .i64 x) := trivial
  have HF : Hid (∀ w', w'.ownsMap Tryz.prog 82 (plainElem Tryz.prog 82) b (ks.length + 1) (D.put (.int .i64 x) (.lit (.int .i64 ks.length))) → NumMap w' b (putV ks x)) := fun w' h => by
   have hm := hown.isMap; rw [putV, if_neg hx]; refine ⟨_, by simpa using h, ?_, fun y => ?_, fun y hy => ?_⟩
   ·rw [size_put (hown.tidy lawVar), hh, hsz]; simp
   ·by_cases e : y = x
    ·subst e; rw [has_put_same hm hkl]; simp
    ·rw [has_put_other (by simpa using e), hhas]; simp [e]
   ·by_cases e : y = x
    ·subst e
     rw [atKey_put_same hm hkl, List.idxOf_append, if_neg hx]
     simp
    ·have hy' : y ∈ ks := by simpa [e] using hy
     rw [atKey_put_other (by simpa using e), hat y hy', List.idxOf_append, if_pos hy']
  rw [hi]
  obtain ⟨l, el⟩ : ∃ l, l = ks.length := ⟨_, rfl⟩
  rw [← el] at hown hsz hl HF ⊢; clear hhas hat hi hx el
  go_enter Tryz.func146, Tryz.ntmps146
  go_wp2_with (first
   | (at_lookup; refine wpList_lookup_own_ok_int _ rfl _ _ 191 rfl 82 82 .i64 lawVar Tryz.underlying191 Tryz.underlying82 (zeroVar _) b l D rfl hown _ _ rfl hk ?_; intro c hc hwc; rw [hh])
   | (at_len; refine wpList_len_own _ rfl _ 191 rfl 82 82 Tryz.underlying191 _ b l D rfl hown ?_; rw [hsz])
   | (at_mapUpdate; refine wpList_mapUpdate_own _ rfl _ _ _ 191 rfl 82 82 lawVar Tryz.underlying191 _ b l D rfl hown (by unfold maxLen; omega) _ _ _ rfl rfl hk _ [] (plainElem_int Tryz.underlying82 (WalkArith.wf_i64 (by omega))) ?_; intro w1 hown1 hgrow1))
  go_ret; exact ⟨rfl, HF.out _ hown1, hgrow1⟩
end
section
open Go Go.RowKit
theorem tree_of {cs : List Cel} (hb : ∀ i, i < cs.length → Byte (cs.getD i Cel.none).2.2) (hv : validB cs = true) : ∃ c k, cs = c :: k.cells ∧ (Fo.node c k .nil).ok ∧ cs.length ≤ 2000 := by
 simp only [validB, Bool.and_eq_true, decide_eq_true_eq] at hv; obtain ⟨F, h1, h2, h3⟩ := forest_of cs 1 hb hv.2
 cases F with
 | nil => simp [Fo.count] at h1
 | node c k r =>
   cases r with
   | nil => exact ⟨c, k, by rw [← h2]; simp [Fo.cells], h3, hv.1⟩
   | node a b d => simp [Fo.count] at h1
theorem termOf_any (c : Cel) (k : Fo) (p : Option Addr) (n cap : Nat) (w : World) (hok : (Fo.node c k .nil).ok) (hn : n = k.cells.length + 1) (hc : n ≤ cap) (hm : cap ≤ 9223372036854775807) (hin : CIn w p (c :: k.cells)) :
  Calls Tryz.prog 24 #[.slice p n cap] w fun e w' => ∃ v, e = .returned v ∧ FoIn w' w.heap.size (.node c k .nil) [v] ∧ Below w.heap.size w w' := by
 have HF : Calls Tryz.prog 43 #[.slice p n cap] w (FirstOut w w c k [] cap) := firstTerm_any k.cells.length c k p n cap [] w w (Below.refl _ _) (Nat.le_refl _) hok (by rw [hn]; rfl) hc hm (by rw [List.append_nil]; exact hin); clear hok hin hn
 go_enter Tryz.func24, Tryz.ntmps24
 go_wp2_with fail; refine HF.mono ?_; rintro e w1 ⟨v, q, l, cp, rfl, _, _, _, hfo, hb⟩; obtain ⟨vt, vx, rfl⟩ := hfo.iface; have HFO : Hid (FoIn w1 w.heap.size (.node c k .nil) [.iface vt vx]) := hfo; have HB : Hid (Below w.heap.size w w1) := hb; clear hfo hb HF; go_wp2_with fail; go_ret; exact ⟨_, rfl, HFO.out, HB.out⟩
theorem noAtom_comp (w : World) (x : Value) : (Instr.typeAssert (.iface 139 x) 58 94 true).run Tryz.prog w = .ok (.tuple #[.string ⟨#[]⟩, .bool false]) w := by kernel_rfl
theorem isAtom (w : World) (x : Value) : (Instr.typeAssert (.iface 94 x) 58 94 true).run Tryz.prog w = .ok (.tuple #[x, .bool true]) w := by kernel_rfl
theorem functor_any (b g q : Nat) (str : ByteArray) (w : World) (h0 : w.cell? ⟨b, 0, none⟩ = some (.string str)) (h1 : w.cell? ⟨b, 1, none⟩ = some (.slice (some ⟨g, 0, none⟩) q q)) :
  Calls Tryz.prog 105 #[.pointer (some ⟨b, 0, none⟩)] w fun e w' => e = .returned (.agg #[.string str, .int .i64 q]) ∧ Below w.heap.size w w' := by
 have a0 : ∀ x, (w.alloc x).cell? ⟨b, 0, none⟩ = some (.string str) := fun x => Lib.cell?_alloc_marked x h0
 have a1 : ∀ x, (w.alloc x).cell? ⟨b, 1, none⟩ = some (.slice (some ⟨g, 0, none⟩) q q) := fun x => Lib.cell?_alloc_marked x h1
 go_enter Tryz.func105, Tryz.ntmps105
 go_wp2_with fail
 go_region
 all_goals go_wp2_with fail
 all_goals exact bodyPost_ret (v := .agg #[.string str, .int .i64 q]) (by simp [results, Tryz.results105, go_sem]) rfl ⟨rfl, ((Below.refl _ _).alloc (Nat.le_refl _) _).drew⟩
end
section
open Go Go.RowKit Go.Maps
theorem infoVar : (Tryz.prog.info? 82).map (fun i => (i.zero, i.size, i.bytes)) = some (some (.int .i64 0), 1, 8) := by kernel_rfl
def visitL (ks : List Int) (c : Cel) : List Int := if c.1 = 0 then putV ks c.2.1 else ks
theorem noVar_num (w : World) (x : Value) : (Instr.typeAssert (.iface 150 x) 58 82 true).run Tryz.prog w = .ok (.tuple #[.int .i64 0, .bool false]) w := by kernel_rfl
theorem noVar_atom (w : World) (x : Value) : (Instr.typeAssert (.iface 94 x) 58 82 true).run Tryz.prog w = .ok (.tuple #[.int .i64 0, .bool false]) w := by kernel_rfl
theorem noVar_comp (w : World) (x : Value) : (Instr.typeAssert (.iface 139 x) 58 82 true).run Tryz.prog w = .ok (.tuple #[.int .i64 0, .bool false]) w := by kernel_rfl
theorem isVar (w : World) (x : Value) : (Instr.typeAssert (.iface 82 x) 58 82 true).run Tryz.prog w = .ok (.tuple #[x, .bool true]) w := by kernel_rfl
theorem noComp_var (w : World) (x : Value) : (Instr.typeAssert (.iface 82 x) 58 139 true).run Tryz.prog w = .ok (.tuple #[.pointer none, .bool false]) w := by kernel_rfl
theorem noComp_num (w : World) (x : Value) : (Instr.typeAssert (.iface 150 x) 58 139 true).run Tryz.prog w = .ok (.tuple #[.pointer none, .bool false]) w := by kernel_rfl
theorem noComp_atom (w : World) (x : Value) : (Instr.typeAssert (.iface 94 x) 58 139 true).run Tryz.prog w = .ok (.tuple #[.pointer none, .bool false]) w := by kernel_rfl
theorem isComp (w : World) (x : Value) : (Instr.typeAssert (.iface 139 x) 58 139 true).run Tryz.prog w = .ok (.tuple #[x, .bool true]) w := by kernel_rfl
theorem blk_app {wc w2 : World} {X : Obj} {row : Option Nat} (h : (wc.alloc X).grownBy w2 row) {k : Nat} (h1 : k < wc.heap.size) (h2 : some k ≠ row) : w2.heap[k]? = wc.heap[k]? :=
 (h.block k (by simp; omega) h2).trans (Below.heap_alloc wc _ k h1)
theorem argsLeaf_any (t : TypeId) (x : Value) (w : World) (ht : t = 82 ∨ t = 150 ∨ t = 94) :
  Calls Tryz.prog 116 #[.iface t x] w fun e w' => e = .returned (.slice none 0 0) ∧ w' = w := by
 have n1 := noComp_var; have n2 := noComp_num; have n3 := noComp_atom
 rcases ht with rfl | rfl | rfl
 all_goals
  go_enter Tryz.func116, Tryz.ntmps116
  go_wp2_with fail; go_ret; exact ⟨rfl, rfl⟩
theorem argsComp_any (b g q : Nat) (w : World) (h : w.cell? ⟨b, 1, none⟩ = some (.slice (some ⟨g, 0, none⟩) q q)) :
  Calls Tryz.prog 116 #[.iface 139 (.pointer (some ⟨b, 0, none⟩))] w fun e w' => e = .returned (.slice (some ⟨g, 0, none⟩) q q) ∧ w' = w := by
 have n1 := isComp
 go_enter Tryz.func116, Tryz.ntmps116
 go_wp2_with fail; go_ret; exact ⟨rfl, rfl⟩
def visits (ks : List Int) (cs : List Cel) : List Int := cs.foldl visitL ks
theorem putV_len (ks : List Int) (x : Int) : (putV ks x).length ≤ ks.length + 1 := by unfold putV; split <;> simp
theorem visitL_len (ks : List Int) (c : Cel) : (visitL ks c).length ≤ ks.length + 1 := by unfold visitL; split; exact putV_len _ _; omega
theorem visits_len : ∀ (cs : List Cel) (ks : List Int), (visits ks cs).length ≤ ks.length + cs.length
 | [], ks => by simp [visits]
 | c :: r, ks => by have := visits_len r (visitL ks c); have := visitL_len ks c; simp only [visits, List.foldl_cons, List.length_cons] at *; omega
theorem visits_append (ks : List Int) (a b : List Cel) : visits ks (a ++ b) = visits (visits ks a) b := by simp [visits]
theorem visits_cons (ks : List Int) (c : Cel) (b : List Cel) : visits ks (c :: b) = visits (visitL ks c) b := rfl
def findI (ks : List Int) (x : Int) : Int := if x ∈ ks then (ks.idxOf x : Nat) else -1
theorem mem_getD {ks : List Int} {i : Nat} (h : i < ks.length) : ks.getD i 0 ∈ ks := by simp [List.getD, h]
theorem idxOf_le : ∀ (ks : List Int) (j : Nat) (x : Int), j < ks.length → ks.getD j 0 = x → ks.idxOf x ≤ j
 | [], j, x, h, _ => by simp at h
 | a :: r, 0, x, _, e => by
   have e : a = x := by simpa using e
   simp [e]
 | a :: r, j + 1, x, h, e => by
   have := idxOf_le r j x (by simpa using h) (by simpa using e); rw [List.idxOf_cons]
   cases a == x
   ·simp; omega
   ·simp
theorem find_at {ks : List Int} {x : Int} {j : Nat} (hj : j < ks.length) (h : ∀ i, i < j → ks.getD i 0 ≠ x) (e : ks.getD j 0 = x) : findI ks x = j := by
 have hm : x ∈ ks := e ▸ mem_getD hj; have hlt := List.idxOf_lt_length_of_mem hm
 have hat : ks.getD (ks.idxOf x) 0 = x := by simp [List.getD, hlt]
 rw [findI, if_pos hm]
 have h1 : ¬ ks.idxOf x < j := fun hl => h _ hl hat
 have h2 : ks.idxOf x ≤ j := idxOf_le ks j x hj e
 omega
theorem find_none {ks : List Int} {x : Int} (h : ∀ i, i < ks.length → ks.getD i 0 ≠ x) : findI ks x = -1 := by
 rw [findI, if_neg]
 intro hm
 have hlt := List.idxOf_lt_length_of_mem hm; exact h _ hlt (by simp [List.getD, hlt])
theorem l2find_any (p : Option Addr) (n c : Nat) (ks : List Int) (x : Int) (w : World) (hn : n = ks.length) (hl : n ≤ 1000000) (hin : IIn w p ks) :
  Calls Tryz.prog 49 #[.slice p n c, .int .i64 x] w fun e w' => e = .returned (.int .i64 (findI ks x)) ∧ w' = w := by
 have HI : Hid (IIn w p ks) := hin; have HN : Hid (n = ks.length) := hn; clear hin hn
 go_enter Tryz.func49, Tryz.ntmps49
 go_wp2_with fail
 go_loop [5] (fun i => ∃ j : Nat, j ≤ n ∧ i = .int .i64 j ∧ Hid (∀ i, i < j → ks.getD i 0 ≠ x)) (fun i => n - (intOf i).toNat)
 case atStart => exact ⟨0, Nat.zero_le _, rfl, fun _ h => absurd h (Nat.not_lt_zero _)⟩
 case round =>
  obtain ⟨j, hj, rfl, HF⟩ := hrel
  by_cases hlt : j < n
  ·have hjl : j < ks.length := by rw [← HN.out]; exact hlt
   obtain ⟨b, o, rfl, hc⟩ := HI.out (by omega); have hx := hc j hjl
   obtain ⟨y, ey⟩ : ∃ y, y = ks.getD j 0 := ⟨_, rfl⟩
   rw [← ey] at hx; have HY : Hid (y = ks.getD j 0) := ey; clear hc ey
   by_cases he : y = x
   ·have he' : (y == x) = true := by simpa using he
    have HE : Hid (y = x) := he; clear he; go_wp2_with fail; go_ret; exact ⟨ret_int (find_at hjl HF.out (by rw [← HY.out]; exact HE.out)).symm, rfl⟩
   ·have he' : (y == x) = false := by simpa using he
    have HE : Hid (y ≠ x) := he; clear he; go_wp2_with fail
    go_round
    case rel => exact ⟨j + 1, by omega, by go_num, fun i hi => by
     by_cases e : i = j
     ·subst e; rw [← HY.out]; exact HE.out
     ·exact HF.out i (by omega)⟩
    case measure => simp [intOf]; omega
  ·obtain rfl : j = n := by omega
   go_wp2_with fail; go_ret; exact ⟨ret_int (find_none (by rw [← HN.out]; exact HF.out)).symm, rfl⟩
theorem visits_take (cs : List Cel) (j : Nat) (h : j < cs.length) (ks : List Int) : visits ks (cs.take (j + 1)) = visitL (visits ks (cs.take j)) (cs.getD j Cel.none) := by
 rw [List.take_succ_eq_append_getElem h, visits_append, List.getD, List.getElem?_eq_getElem h]; rfl
theorem l2vars_any (p : Option Addr) (n c : Nat) (cs : List Cel) (w : World) (hn : n = cs.length) (hl : n ≤ 100000) (hin : CIn w p cs) :
  Calls Tryz.prog 28 #[.slice p n c, .slice none 0 0] w fun e w' => ∃ q m c2, e = .returned (.slice q m c2) ∧ OwnI w' w.heap.size 3 q m c2 (visits [] cs) ∧ Below w.heap.size w w' := by
 have HI : Hid (CIn w p cs) := hin; have HN : Hid (n = cs.length) := hn; clear hin hn
 go_enter Tryz.func28, Tryz.ntmps28
 go_wp2_with fail
 go_loopw [1, 5] (fun s i wr => ∃ (j : Nat) (q : Option Addr) (m c2 : Nat), j ≤ n ∧ m ≤ j ∧ i = .int .i64 j ∧ s = .slice q m c2 ∧ Hid (OwnI wr w.heap.size 3 q m c2 (visits [] (cs.take j))) ∧ Hid (Below w.heap.size w wr)) (fun _ i _ => n - (intOf i).toNat)
 case atStart => exact ⟨0, none, 0, 0, Nat.zero_le _, Nat.le_refl _, rfl, rfl, OwnI.nil _ _ _, Below.refl _ _⟩
 case round =>
  obtain ⟨j, q, m, c2, hj, hm, rfl, rfl, HO, HB⟩ := hrel
  by_cases hlt : j < n
  ·have hjl : j < cs.length := by rw [← HN.out]; exact hlt
   obtain ⟨b, o, rfl, hcs⟩ := HI.out (by omega); obtain ⟨p0, q0, d0, d1, _, _⟩ := (hcs j hjl).below HB.out; have HV : Hid _ := visits_take cs j hjl []
   obtain ⟨c0, e0⟩ : ∃ x, x = (cs.getD j Cel.none).1 := ⟨_, rfl⟩
   obtain ⟨c1, e1⟩ : ∃ x, x = (cs.getD j Cel.none).2.1 := ⟨_, rfl⟩
   rw [← e0] at d0; rw [← e1] at d1
   have HE : Hid (c0 = (cs.getD j Cel.none).1 ∧ c1 = (cs.getD j Cel.none).2.1) := ⟨e0, e1⟩
   clear hcs e0 e1
   by_cases h0 : c0 = 0
   ·subst h0
    have HFD := l2find_any q m c2 _ c1 wr HO.out.1 (by omega) HO.out.iin
    by_cases hx : c1 ∈ visits [] (cs.take j)
    ·have hf : ¬ findI (visits [] (cs.take j)) c1 < 0 := by rw [findI, if_pos hx]; omega
     have HX : Hid (visits [] (cs.take (j + 1)) = visits [] (cs.take j)) := by
      show _ = _
      rw [HV.out, visitL, if_pos HE.out.1.symm, putV, if_pos (by rw [← HE.out.2]; exact hx)]
     obtain ⟨fi, ef⟩ : ∃ fi, fi = findI (visits [] (cs.take j)) c1 := ⟨_, rfl⟩
     rw [← ef] at HFD hf; clear ef hx; go_wp2_with fail; refine HFD.mono ?_; rintro e w1 ⟨rfl, rfl⟩; go_wp2_with fail; go_roundw
     case rel => exact ⟨j + 1, q, m, c2, by omega, by omega, by go_num, rfl, by rw [HX.out]; exact HO, HB⟩
     case measure => simp [intOf]; omega
    ·have hf : findI (visits [] (cs.take j)) c1 = -1 := by rw [findI, if_neg hx]
     have HX : Hid (visits [] (cs.take (j + 1)) = visits [] (cs.take j) ++ [c1]) := by
      show _ = _
      rw [HV.out, visitL, if_pos HE.out.1.symm, putV, if_neg (by rw [← HE.out.2]; exact hx), ← HE.out.2]
     rw [hf] at HFD; clear hf hx; go_wp2_with fail; refine HFD.mono ?_; rintro e w1 ⟨rfl, rfl⟩; go_wp2_with (at_builtin; refine app_int _ rfl _ _ rfl w.heap.size q m c2 _ c1 rfl HO.out rfl (by omega) HB.out.size ?_; intro g n' cap' w5 hown5 hb5 hn5); have HB5 : Hid (Below w.heap.size w w5) := (HB.out.alloc HB.out.size _).trans hb5
     have HO5 : Hid (OwnI w5 w.heap.size 3 (some ⟨g, 0, none⟩) n' cap' (visits [] (cs.take (j + 1)))) := by rw [HX.out]; exact hown5
     clear hown5 hb5; go_roundw
     case rel => exact ⟨j + 1, _, _, _, by omega, by have := hn5.out; omega, by go_num, rfl, HO5, HB5⟩
     case measure => simp [intOf]; omega
   ·have h0' : (c0 == 0) = false := by simpa using h0
    have HX : Hid (visits [] (cs.take (j + 1)) = visits [] (cs.take j)) := by
     show _ = _
     rw [HV.out, visitL, if_neg (by rw [← HE.out.1]; exact h0)]
    clear h0; go_wp2_with fail; go_roundw
    case rel => exact ⟨j + 1, q, m, c2, by omega, by omega, by go_num, rfl, by rw [HX.out]; exact HO, HB⟩
    case measure => simp [intOf]; omega
  ·obtain rfl : j = n := by omega
   go_wp2_with fail; go_ret; refine ⟨_, _, _, rfl, ?_, HB.out⟩; have := HO.out
   rwa [List.take_of_length_le (by rw [← HN.out]; exact Nat.le_refl _)] at this
def Fo.map (f : Cel → Cel) : Fo → Fo
 | .nil => .nil
 | .node c k r => .node (f c) (k.map f) (r.map f)
theorem Fo.cells_map (f : Cel → Cel) : ∀ F : Fo, (F.map f).cells = F.cells.map f
 | .nil => rfl
 | .node c k r => by simp [Fo.map, Fo.cells, Fo.cells_map f k, Fo.cells_map f r]
theorem Fo.count_map (f : Cel → Cel) : ∀ F : Fo, (F.map f).count = F.count
 | .nil => rfl
 | .node c k r => by simp [Fo.map, Fo.count, Fo.count_map f r]
theorem Fo.map_cat (f : Cel → Cel) : ∀ a b : Fo, (a.cat b).map f = (a.map f).cat (b.map f)
 | .nil, b => rfl
 | .node c k r, b => by simp [Fo.cat, Fo.map, Fo.map_cat f r b]
def renI (L : List Int) (c : Cel) : Cel := if c.1 = 0 then (c.1, ((L.idxOf c.2.1 : Nat) : Int), c.2.2) else c
theorem renI_kind (L : List Int) (c : Cel) : (renI L c).1 = c.1 := by unfold renI; split <;> rfl
theorem renI_text (L : List Int) (c : Cel) : (renI L c).2.2 = c.2.2 := by unfold renI; split <;> rfl
theorem renI_ok {L : List Int} (hL : L.length ≤ 1000000) {c : Cel} (h : cellB c.1 c.2.1 c.2.2.length = true) : cellB (renI L c).1 (renI L c).2.1 (renI L c).2.2.length = true := by
 by_cases h0 : c.1 = 0
 ·have := List.idxOf_le_length (l := L) (a := c.2.1)
  have hl : c.2.2.length = 0 := by
   rw [h0] at h; simp only [cellB, decide_eq_true_eq] at h
   omega
  rw [renI, if_pos h0]; simp only [cellB, decide_eq_true_eq]; exact .inl ⟨h0, by omega, by omega, hl⟩
 ·rw [renI, if_neg h0]; exact h
theorem Fo.ok_ren {L : List Int} (hL : L.length ≤ 1000000) : ∀ F : Fo, F.ok → (F.map (renI L)).ok
 | .nil, _ => trivial
 | .node c k r, ⟨h1, h2, h3, h4, h5, h6⟩ => by
   refine ⟨renI_ok hL h1, by rw [renI_text]; exact h2, fun e => ?_, fun e => ?_, Fo.ok_ren hL k h5, Fo.ok_ren hL r h6⟩
   ·rw [renI_kind] at e
    rw [Fo.count_map, renI, if_neg (by rw [e]; decide)]; exact h3 e
   ·rw [renI_kind] at e
    rw [h4 e]; rfl
theorem idxOf_prefix {a b : List Int} (h : a <+: b) {x : Int} (hx : x ∈ a) : b.idxOf x = a.idxOf x := by
 obtain ⟨t, rfl⟩ := h; rw [List.idxOf_append, if_pos hx]
theorem putV_prefix (ks : List Int) (x : Int) : ks <+: putV ks x := by unfold putV; split; exact List.prefix_rfl; exact List.prefix_append _ _
theorem putV_mem (ks : List Int) (x : Int) : x ∈ putV ks x := by unfold putV; split; assumption; simp
theorem putV_idx (ks : List Int) (x : Int) : (putV ks x).idxOf x = ks.idxOf x := by
 unfold putV
 split
 ·rfl
 ·rename_i h
  rw [List.idxOf_append, if_neg h, List.idxOf_eq_length h]; simp
theorem visitL_prefix (ks : List Int) (c : Cel) : ks <+: visitL ks c := by unfold visitL; split; exact putV_prefix _ _; exact List.prefix_rfl
theorem visits_prefix : ∀ (cs : List Cel) (ks : List Int), ks <+: visits ks cs
 | [], ks => List.prefix_rfl
 | c :: r, ks => (visitL_prefix ks c).trans (visits_prefix r (visitL ks c))
structure RState (w : World) (nb mb : Nat) (ks : List Int) : Prop where
 ncell : w.cell? ⟨nb, 0, none⟩ = some (.map (some mb))
 map : NumMap w mb ks
theorem RState.ne {w : World} {nb mb : Nat} {ks : List Int} (h : RState w nb mb ks) : nb ≠ mb := fun e => by
 obtain ⟨D, ⟨es, clock, hb, _⟩, _⟩ := h.map; have := h.ncell; rw [e] at this
 simp [World.cell?, hb] at this
theorem RState.below {w w' : World} {nb mb : Nat} {ks : List Int} (h : RState w nb mb ks) (hb : Below w.heap.size w w') : RState w' nb mb ks :=
 ⟨(hb.cell (World.block_lt_of_cell? _ _ h.ncell)).trans h.ncell, h.map.of_block (hb.block _ h.map.lt)⟩
theorem FoIn.kept {w w' : World} {B mb : Nat} {F : Fo} {vs : List Value} (h : FoIn w B F vs) (hg : w.grownBy w' (some mb)) (hm : mb < B) : FoIn w' B F vs :=
 FoIn.imp (Nat.le_refl _) (fun b o hb hlt => World.cell?_of_block (w := w) (a := ⟨b, o, none⟩) (hg.block b hlt (fun e => by have := Option.some.inj e; omega))) hg.size F vs h
theorem grown_setR {w w' : World} {row : Option Nat} (h : w.grownBy w' row) {a : Addr} (ha : w.heap.size ≤ a.block) (u : Value) : w.grownBy (w'.setCell a u) row :=
 ⟨h.os, h.tape, h.output, by simpa using h.size, fun k hk hr => (Below.heap_setCell _ _ _ _ (by omega)).trans (h.block k hk hr)⟩
theorem grown_alloc {w w' : World} {row : Option Nat} (h : w.grownBy w' row) (o : Obj) : w.grownBy (w'.alloc o) row :=
 ⟨h.os, h.tape, h.output, by have := h.size; simp; omega, fun k hk hr => (Below.heap_alloc _ _ _ (by have := h.size; omega)).trans (h.block k hk hr)⟩
theorem grown_below {B : Nat} {w w' : World} {mb : Nat} (hg : w.grownBy w' (some mb)) (hB : B ≤ w.heap.size) (hm : B ≤ mb) : Below B w w' := (Below.refl _ _).grown hg hB (fun k e => by cases e; exact hm)
theorem with_any (x : Int) (nb mb : Nat) (ks : List Int) (w : World) (h0 : 0 ≤ x) (h1 : x ≤ 1000000) (hl : ks.length ≤ 100000) (hs : RState w nb mb ks) :
  Calls Tryz.prog 254 #[.int .i64 x, .pointer (some ⟨nb, 0, none⟩)] w fun e w' => e = .returned (.iface 82 (.int .i64 (ks.idxOf x))) ∧ RState w' nb mb (putV ks x) ∧ w.grownBy w' (some mb) := by
 have HOF := of_any mb ks x w h0 h1 (by omega) hs.map; have c1 := hs.ncell; have hne := hs.ne; have HNE : Hid (nb ≠ mb) := hne; have HC : Hid _ := c1; clear hs hne
 go_enter Tryz.func254, Tryz.ntmps254
 go_wp2_with fail; refine HOF.mono ?_; rintro e w1 ⟨rfl, hm, hg⟩; go_wp2_with fail; go_ret; exact ⟨rfl, ⟨(World.cell?_of_block (w := w) (a := ⟨nb, 0, none⟩) (hg.block nb (World.block_lt_of_cell? _ _ HC.out) (fun e => HNE.out (Option.some.inj e)))).trans HC.out, hm⟩, hg⟩
def ReplOut (w : World) (nb mb : Nat) (ks : List Int) (c : Cel) (k : Fo) (e : Ending) (w' : World) : Prop :=
 ∃ v, e = .returned v ∧ RState w' nb mb (visits ks (c :: k.cells)) ∧ w.grownBy w' (some mb) ∧ ∀ L, visits ks (c :: k.cells) <+: L → FoIn w' w.heap.size (.node (renI L c) (k.map (renI L)) .nil) [v]
set_option maxHeartbeats 1000000 in
theorem replace_any : ∀ (N : Nat) (c : Cel) (k : Fo) (v : Value) (Bt nb mb : Nat) (ks : List Int) (w0 w : World), k.cells.length ≤ N → (Fo.node c k .nil).ok → FoIn w0 Bt (.node c k .nil) [v] → Below w0.heap.size w0 w → w0.heap.size ≤ mb → RState w nb mb ks → ks.length + 1 + k.cells.length ≤ 100000 →
  Calls Tryz.prog 144 #[v, .func (.func 254) #[] #[.pointer (some ⟨nb, 0, none⟩)]] w (ReplOut w nb mb ks c k) := by
 intro N
 induction N using Nat.strongRecOn with
 | _ N ih =>
   intro c k v Bt nb mb ks w0 w hN hok hfo hw hmb hs hlen
   obtain ⟨v', vr, e, hnode, _⟩ := hfo; obtain ⟨rfl, rfl⟩ := List.cons.inj e
   rcases hnode with ⟨h0, rfl⟩ | ⟨h0, rfl⟩ | ⟨h0, rfl⟩ | ⟨h0, b, g, vs, rfl, hcomp⟩
   ·have hk : k = .nil := hok.2.2.2.1 (by rw [h0]; decide)
    subst hk
    have hx : 0 ≤ c.2.1 ∧ c.2.1 ≤ 1000000 := by have := hok.1; rw [h0] at this; simp [cellB] at this; omega
    have HW := with_any c.2.1 nb mb ks w hx.1 hx.2 (by omega) hs
    have HF : Hid (∀ w', RState w' nb mb (putV ks c.2.1) → w.grownBy w' (some mb) → ReplOut w nb mb ks c .nil (.returned (.iface 82 (.int .i64 (ks.idxOf c.2.1)))) w') := fun w' h1 h2 => by
     have e1 : visits ks (c :: Fo.nil.cells) = putV ks c.2.1 := by simp [visits, Fo.cells, visitL, h0]
     refine ⟨_, rfl, by rw [e1]; exact h1, h2, fun L hL => ⟨_, [], rfl, .inl ⟨by rw [renI_kind]; exact h0, ?_⟩, rfl⟩⟩; rw [e1] at hL; rw [renI, if_pos h0, idxOf_prefix hL (putV_mem _ _), putV_idx]
    obtain ⟨x, ex⟩ : ∃ x, x = c.2.1 := ⟨_, rfl⟩
    obtain ⟨ix, ei⟩ : ∃ ix, ix = ks.idxOf c.2.1 := ⟨_, rfl⟩
    rw [← ei] at HW HF; rw [← ex] at HW HF ⊢; have n1 := isVar; clear ih hok hw hs hx ex ei e hlen
    go_enter Tryz.func144, Tryz.ntmps144
    go_wp2_with fail; refine HW.mono ?_; rintro e w1 ⟨rfl, h1, h2⟩; go_wp2_with fail; go_ret; exact HF.out _ h1 h2
   ·have hk : k = .nil := hok.2.2.2.1 (by rw [h0]; decide)
    subst hk; have n1 := noVar_num; have n2 := noComp_num
    have hv : visits ks (c :: Fo.nil.cells) = ks := by simp [visits, Fo.cells, visitL, h0]
    have HF : Hid (ReplOut w nb mb ks c .nil (.returned (.iface 150 (.int .i64 c.2.1))) w) := ⟨_, rfl, by rw [hv]; exact hs, ⟨rfl, rfl, rfl, Nat.le_refl _, fun _ _ _ => rfl⟩, fun L _ => ⟨_, [], rfl, .inr (.inl ⟨by rw [renI_kind]; exact h0, by rw [renI, if_neg (by rw [h0]; decide)]⟩), rfl⟩⟩
    obtain ⟨x, ex⟩ : ∃ x, x = Value.int .i64 c.2.1 := ⟨_, rfl⟩
    rw [← ex] at HF ⊢; clear ih hok hw hs ex e hlen hv
    go_enter Tryz.func144, Tryz.ntmps144
    go_wp2_with fail; go_ret; exact HF.out
   ·have hk : k = .nil := hok.2.2.2.1 (by rw [h0]; decide)
    subst hk; have n1 := noVar_atom; have n2 := noComp_atom
    have hv : visits ks (c :: Fo.nil.cells) = ks := by simp [visits, Fo.cells, visitL, h0]
    have HF : Hid (ReplOut w nb mb ks c .nil (.returned (.iface 94 (.string (strOfNums c.2.2)))) w) := ⟨_, rfl, by rw [hv]; exact hs, ⟨rfl, rfl, rfl, Nat.le_refl _, fun _ _ _ => rfl⟩, fun L _ => ⟨_, [], rfl, .inr (.inr (.inl ⟨by rw [renI_kind]; exact h0, by rw [renI, if_neg (by rw [h0]; decide)]⟩)), rfl⟩⟩
    obtain ⟨x, ex⟩ : ∃ x, x = Value.string (strOfNums c.2.2) := ⟨_, rfl⟩
    rw [← ex] at HF ⊢; clear ih hok hw hs ex e hlen hv
    go_enter Tryz.func144, Tryz.ntmps144
    go_wp2_with fail; go_ret; exact HF.out
   ·have n1 := noVar_comp
    have n2 := isComp; have HC : Hid (CompAt w0 Bt c.2.2 k b g vs) := hcomp; have hvl2 : vs.length = k.count := FoIn.count _ _ hcomp.2.2.2.2.2.2
    obtain ⟨q, eq⟩ : ∃ q, q = vs.length := ⟨_, rfl⟩
    have HE : Hid (q = vs.length ∧ vs.length = k.count) := ⟨eq, hvl2⟩
    have hq : q ≤ 100000 := by have := Fo.count_le k; omega
    have HK : Hid k.ok := hok.2.2.2.2.1; have d0 := (hw.cell (World.block_lt_of_cell? _ _ hcomp.2.2.1)).trans hcomp.2.2.1; have d1 := (hw.cell (World.block_lt_of_cell? _ _ hcomp.2.2.2.1)).trans hcomp.2.2.2.1; rw [← eq] at d1; have HBB : Hid (b < w0.heap.size) := World.block_lt_of_cell? _ _ hcomp.2.2.1
    have hv0 : visitL ks c = ks := by rw [visitL, if_neg (by rw [h0]; decide)]
    have HV0 : Hid (∀ cs, visits ks (c :: cs) = visits ks cs) := fun cs => by rw [visits_cons, hv0]
    have HS : Hid (RState w nb mb ks) := hs; have HW : Hid (Below w0.heap.size w0 w) := hw; have HIH : Hid _ := ih; have hml := hs.map.lt; have hnl : nb < w.heap.size := World.block_lt_of_cell? _ _ hs.ncell
    have HREN : Hid (∀ L, renI L c = c) := fun L => by rw [renI, if_neg (by rw [h0]; decide)]
    have H0 : Hid (c.1 = 3) := h0
    obtain ⟨str, es⟩ : ∃ str, str = strOfNums c.2.2 := ⟨_, rfl⟩
    rw [← es] at d0; have HES : Hid (str = strOfNums c.2.2) := es; obtain ⟨i0, hi, hz0, hz1, hz2⟩ := info_parts infoTerm
    have hmx : q ≤ maxLen := by unfold maxLen; omega
    clear ih hok hw hs e hcomp eq hvl2 hv0 es h0
    go_enter Tryz.func144, Tryz.ntmps144
    go_wp2_with (at_make; refine wpList_make_full _ rfl _ _ 83 rfl w.heap.size 58 i0 .nilIface 1 Tryz.underlying83 hi hz0 hz1 _ _ _ _ q rfl rfl rfl rfl (by rw [hz2]; omega) hmx (Nat.le_refl _) ?_; intro w1 hown hgrow; have d0' := ((World.cell?_of_block (w := w) (a := ⟨b, 0, none⟩) (hgrow.block b (World.block_lt_of_cell? _ _ d0) (fun h => by cases h)))).trans d0; have d1' := ((World.cell?_of_block (w := w) (a := ⟨b, 1, none⟩) (hgrow.block b (World.block_lt_of_cell? _ _ d1) (fun h => by cases h)))).trans d1)
    have HO1 : Hid (w1.ownsRow w.heap.size 58 1 (.slice (some ⟨w.heap.size, 0, none⟩) q q) q ([] ++ List.replicate (q - 0) .nilIface)) := by
     have := hown
     simp [Value.cells, toList_madeCells_one] at this
     exact this
    have HG1 : Hid (w.grownBy w1 (some mb)) := ⟨hgrow.os, hgrow.tape, hgrow.output, hgrow.size, fun k hk _ => hgrow.block k hk (fun h => by cases h)⟩
    have HS1 : Hid (RState w1 nb mb ks) := HS.out.below ((Below.refl _ _).grown hgrow (Nat.le_refl _) (fun k h => by cases h))
    have hs1 : w.heap.size + 1 ≤ w1.heap.size := by have := (hown.lt w.heap.size rfl).2; omega
    clear hown hgrow hi hz0 hz1 hz2 d0 d1 d0' d1'
    go_loopw [31] (fun i wr => ∃ (D R : Fo) (us vs2 ns : List Value) (j : Nat), j ≤ q ∧ i = .int .i64 j ∧ Hid (k = D.cat R ∧ vs = us ++ vs2 ∧ us.length = j ∧ ns.length = j) ∧ Hid (FoIn w0 Bt R vs2) ∧ Hid (RState wr nb mb (visits ks D.cells)) ∧
     Hid (wr.ownsRow w.heap.size 58 1 (.slice (some ⟨w.heap.size, 0, none⟩) q q) q (ns ++ List.replicate (q - j) .nilIface)) ∧ Hid (∀ L, visits ks D.cells <+: L → FoIn wr (w.heap.size + 1) (D.map (renI L)) ns) ∧ Hid (w.grownBy wr (some mb)) ∧ w.heap.size + 1 ≤ wr.heap.size) (fun i _ => q - (intOf i).toNat)
    case atStart => exact ⟨.nil, k, [], vs, [], 0, Nat.zero_le _, rfl, ⟨rfl, rfl, rfl, rfl⟩, HC.out.2.2.2.2.2.2, HS1, HO1, fun L _ => rfl, HG1, hs1⟩
    case round =>
     obtain ⟨D, R, us, vs2, ns, j, hj, rfl, HF, HR, HST, HO, HFO, HG, hsz⟩ := hrel; have hwr : Below w0.heap.size w0 wr := HW.out.trans (grown_below HG.out HW.out.size hmb)
     by_cases hlt : j < q
     ·obtain ⟨c', k', r', rfl⟩ : ∃ c' k' r', R = .node c' k' r' := by
       cases R with
       | nil =>
         have h1 := HF.out; have h2 : vs2 = [] := HR.out; have h3 := HE.out.1; rw [h1.2.1, h2, List.append_nil] at h3
         omega
       | node c' k' r' => exact ⟨c', k', r', rfl⟩
      obtain ⟨v, vr, rfl, hnode, hrest⟩ := HR.out; have hok2 := (Fo.ok_cat D (.node c' k' r')).1 (HF.out.1 ▸ HK.out)
      have hl2 : D.cells.length + (k'.cells.length + r'.cells.length + 1) = k.cells.length := by
       rw [HF.out.1, Fo.cells_cat]; simp [Fo.cells]
      have hat : w0.cell? ⟨g, j, none⟩ = some v := by
       rw [HC.out.2.2.2.2.2.1 j (by rw [← HE.out.1]; exact hlt), HF.out.2.1]
       simp [List.getD, HF.out.2.2.1]
      have c5 : wr.cell? ⟨g, j, none⟩ = some v := (hwr.cell (World.block_lt_of_cell? _ _ hat)).trans hat; have HRC := HIH.out k'.cells.length (by omega) c' k' v Bt nb mb (visits ks D.cells) w0 wr (Nat.le_refl _) ⟨hok2.2.1, hok2.2.2.1, hok2.2.2.2.1, hok2.2.2.2.2.1, hok2.2.2.2.2.2.1, trivial⟩ ⟨v, [], rfl, hnode, rfl⟩ hwr hmb HST.out (by have := visits_len D.cells ks; omega); obtain ⟨vt, vx, rfl⟩ := hnode.iface; have HRR : Hid (FoIn w0 Bt r' vr) := hrest; clear hok2 hl2 hat hwr hnode hrest HIH; go_wp2_with fail; refine HRC.mono ?_; rintro e w3 ⟨v3, rfl, hst3, hg3, hfo3⟩; obtain ⟨nt, nx, rfl⟩ := (hfo3 _ List.prefix_rfl).iface; have hbG : w3.heap[w.heap.size]? = wr.heap[w.heap.size]? := hg3.block w.heap.size (by omega) (fun e => by have := Option.some.inj e; omega)
      have e0 : w3.cell? ⟨w.heap.size, j, none⟩ = some .nilIface := by
       rw [World.cell?_of_block (w := wr) (a := ⟨w.heap.size, j, none⟩) hbG, HO.out.cellAt j (by omega), List.getElem?_append_right (by have := HF.out.2.2.2; omega), List.getElem?_replicate, if_pos (by have := HF.out.2.2.2; omega)]
      have e1 : w3.frozen? ⟨w.heap.size, j, none⟩ = false := (World.frozen?_of_block (w := wr) (a := ⟨w.heap.size, j, none⟩) hbG).trans (HO.out.frozenAt j); have HO3 : Hid (w3.ownsRow w.heap.size 58 1 (.slice (some ⟨w.heap.size, 0, none⟩) q q) q (ns ++ List.replicate (q - j) .nilIface)) := HO.out.kept hg3 (.inr (fun e => by have := Option.some.inj e; simp at this; omega))
      have HN : Hid (k = (D.cat (.node c' k' .nil)).cat r' ∧ vs = (us ++ [Value.iface vt vx]) ++ vr ∧ (us ++ [Value.iface vt vx]).length = j + 1 ∧ (ns ++ [Value.iface nt nx]).length = j + 1) := ⟨by rw [Fo.cat_assoc]; exact HF.out.1, by rw [HF.out.2.1]; simp, by simp [HF.out.2.2.1], by simp [HF.out.2.2.2]⟩
      have hvis : visits ks (D.cat (.node c' k' .nil)).cells = visits (visits ks D.cells) (c' :: k'.cells) := by rw [Fo.cells_cat, visits_append]; simp [Fo.cells]
      have HV3 : Hid (RState (w3.setCell ⟨w.heap.size, j, none⟩ (.iface nt nx)) nb mb (visits ks (D.cat (.node c' k' .nil)).cells)) := by
       rw [hvis]; exact ⟨(World.cell?_setCell_other _ _ _ _ (fun e => by have := congrArg Addr.block e; simp at this; omega)).trans hst3.ncell, hst3.map.of_block (Below.heap_setCell _ _ _ _ (show mb ≠ w.heap.size by omega))⟩
      have HF3 : Hid (∀ L, visits ks (D.cat (.node c' k' .nil)).cells <+: L → FoIn (w3.setCell ⟨w.heap.size, j, none⟩ (.iface nt nx)) (w.heap.size + 1) ((D.cat (.node c' k' .nil)).map (renI L)) (ns ++ [Value.iface nt nx])) := fun L hL => by
       rw [hvis] at hL; rw [Fo.map_cat]; exact (FoIn.cat _ _ _ _ ((HFO.out L ((visits_prefix _ _).trans hL)).kept hg3 (by omega)) ((hfo3 L hL).mono hsz)).setCell (show w.heap.size < w.heap.size + 1 by omega) _
      have HG3 : Hid (w.grownBy (w3.setCell ⟨w.heap.size, j, none⟩ (.iface nt nx)) (some mb)) := grown_setR (HG.out.trans hg3) (Nat.le_refl _) _; have hsz3 : w.heap.size + 1 ≤ w3.heap.size := Nat.le_trans hsz hg3.size; clear hst3 hg3 hfo3 hvis HRC hbG; go_wp2_with fail; go_roundw
      case rel => exact ⟨D.cat (.node c' k' .nil), r', us ++ [Value.iface vt vx], vr, ns ++ [Value.iface nt nx], j + 1, by omega, by go_num, HN, HRR, HV3, row_next HO3.out HF.out.2.2.2 hlt _, HF3, HG3, by simpa using hsz3⟩
      case measure => simp [intOf]; omega
     ·obtain rfl : j = q := by omega
      obtain rfl : R = .nil := by
       have h1 := FoIn.count _ _ HR.out; have h2 := HE.out; rw [HF.out.2.1, List.length_append] at h2; have h3 := HF.out.2.2.1
       cases R with
       | nil => rfl
       | node a b d => simp [Fo.count] at h1; omega
      have hD : D = k := by have := HF.out.1; rw [Fo.cat_nil] at this; exact this.symm
      subst hD
      have x0 : wr.cell? ⟨b, 0, none⟩ = some (.string str) := by
       rw [HES.out]; exact (hwr.cell (World.block_lt_of_cell? _ _ HC.out.2.2.1)).trans HC.out.2.2.1
      have hns := HF.out.2.2.2; have HNS : Hid (ns.length = j) := hns
      have HFIN : Hid (ReplOut w nb mb ks c D (.returned (.iface 139 (.pointer (some ⟨wr.heap.size, 0, none⟩)))) (wr.alloc (Obj.cells #[Value.string str, Value.slice (some ⟨w.heap.size, 0, none⟩) j j] 141))) := by
       have hal : Below wr.heap.size wr (wr.alloc (Obj.cells #[Value.string str, Value.slice (some ⟨w.heap.size, 0, none⟩) j j] 141)) := (Below.refl _ _).alloc (Nat.le_refl _) _; refine ⟨_, rfl, by rw [HV0.out]; exact HST.out.below hal, grown_alloc HG.out _, fun L hL => ?_⟩; rw [HV0.out] at hL; have hnew := heap_alloc_new wr (Obj.cells #[Value.string str, Value.slice (some ⟨w.heap.size, 0, none⟩) j j] 141); refine ⟨_, [], rfl, .inr (.inr (.inr ⟨by rw [renI_kind]; exact H0.out, wr.heap.size, w.heap.size, ns, rfl, by omega, Nat.le_refl _, by rw [renI_text, ← HES.out]; exact cell_of_row _ _ 0 _ _ _ hnew, by rw [hns]; exact cell_of_row _ _ 1 _ _ _ hnew, by simp; omega, fun i hi => ?_, ?_⟩)), rfl⟩
       ·refine Lib.cell?_alloc_marked _ ?_
        rw [HO.out.cellAt i (by omega), List.getElem?_append_left (by omega)]
        simp [List.getD, hi]
       ·exact ((HFO.out L hL).below hal).mono (by omega)
      clear hns; go_wp2_with fail; go_ret; exact HFIN.out
structure VState (w : World) (B vb nb mb : Nat) (ks : List Int) (p : Option Addr) (n c : Nat) : Prop where
 vcell : w.cell? ⟨vb, 0, none⟩ = some (.slice p n c)
 vfree : w.frozen? ⟨vb, 0, none⟩ = false
 ncell : w.cell? ⟨nb, 0, none⟩ = some (.map (some mb))
 len : n = ks.length
 row : w.ownsRow B 82 1 (.slice p n c) n (ks.map (Value.int .i64))
 map : NumMap w mb ks
 bv : B ≤ vb
 bn : B ≤ nb
 bm : B ≤ mb
 away : ∀ g, p = some ⟨g, 0, none⟩ → g ≠ vb ∧ g ≠ nb
theorem VState.map_ne {w : World} {B vb nb mb : Nat} {ks : List Int} {p : Option Addr} {n c : Nat} (h : VState w B vb nb mb ks p n c) : mb ≠ vb ∧ mb ≠ nb ∧ ∀ g, p = some ⟨g, 0, none⟩ → g ≠ mb := by
 obtain ⟨D, ⟨es, clock, hb, _⟩, _⟩ := h.map; refine ⟨fun e => ?_, fun e => ?_, fun g e e' => ?_⟩
 ·have := h.vcell; rw [← e] at this; simp [World.cell?, hb] at this
 ·have := h.ncell; rw [← e] at this; simp [World.cell?, hb] at this
 ·rcases h.row.2 with ⟨hv, _⟩ | ⟨g', cap, cur, hv, _, hg, _⟩
  ·simp only [Value.slice.injEq] at hv; rw [e] at hv; cases hv.1
  ·simp only [Value.slice.injEq] at hv
   rw [e] at hv; have e2 : g = g' := congrArg Addr.block (Option.some.inj hv.1); rw [← e2, e', hb] at hg
   cases hg
theorem VState.vn {w : World} {B vb nb mb : Nat} {ks : List Int} {p : Option Addr} {n c : Nat} (h : VState w B vb nb mb ks p n c) : vb ≠ nb := fun e => by
 have h1 := h.vcell; rw [e, h.ncell] at h1
 cases h1
theorem VState.drew {w : World} {B vb nb mb : Nat} {ks : List Int} {p : Option Addr} {n c : Nat} (h : VState w B vb nb mb ks p n c) : VState w.drew B vb nb mb ks p n c := ⟨h.1, h.2, h.3, h.4, h.5, h.6, h.7, h.8, h.9, h.10⟩
theorem visitOther_any (t : TypeId) (x : Value) (vb nb : Nat) (w : World) (ht : t = 150 ∨ t = 94 ∨ t = 139) :
  Calls Tryz.prog 205 #[.iface t x, .pointer (some ⟨nb, 0, none⟩), .pointer (some ⟨vb, 0, none⟩)] w fun e w' => e = .returned (.tuple #[]) ∧ ∃ m, w' = w.drewN m := by
 have n1 := noVar_num; have n2 := noVar_atom; have n3 := noVar_comp
 rcases ht with rfl | rfl | rfl
 all_goals
  go_enter Tryz.func205, Tryz.ntmps205
  go_wp2_with fail
  go_region
  all_goals go_wp2_with fail
  all_goals go_end0
  all_goals exact ⟨rfl, 1, rfl⟩
theorem VState.after {w w1 : World} {B vb nb mb : Nat} {ks ks' : List Int} {p : Option Addr} {n c : Nat} (h : VState w B vb nb mb ks p n c) (hm : NumMap w1 mb ks') (hg : w.grownBy w1 (some mb)) :
  w1.cell? ⟨vb, 0, none⟩ = some (.slice p n c) ∧ w1.frozen? ⟨vb, 0, none⟩ = false ∧ w1.cell? ⟨nb, 0, none⟩ = some (.map (some mb)) ∧ w1.ownsRow B 82 1 (.slice p n c) n (ks.map (Value.int .i64)) ∧ Below B w w1 := by
 have hne := h.map_ne; have e1 := hg.block vb (World.block_lt_of_cell? _ _ h.vcell) (fun e => hne.1 (Option.some.inj e).symm); have e2 := hg.block nb (World.block_lt_of_cell? _ _ h.ncell) (fun e => hne.2.1 (Option.some.inj e).symm); refine ⟨(World.cell?_of_block (w := w) e1).trans h.vcell, (World.frozen?_of_block (w := w) e1).trans h.vfree, (World.cell?_of_block (w := w) e2).trans h.ncell, h.row.kept hg ?_, (Below.refl _ _).grown hg (by have := h.map.lt; have := h.bm; omega) (fun k e => by cases e; exact h.bm)⟩
 rcases h.row.2 with ⟨hv, _⟩ | ⟨g, cap, cur, hv, _⟩
 ·simp only [Value.slice.injEq] at hv; rw [hv.1]; exact .inl rfl
 ·simp only [Value.slice.injEq] at hv
  rw [hv.1]; exact .inr (fun e => hne.2.2 g hv.1 (Option.some.inj e))
set_option maxHeartbeats 2000000 in
theorem visitVar_any (x : Int) (B vb nb mb : Nat) (ks : List Int) (p : Option Addr) (n c : Nat) (w : World) (h0 : 0 ≤ x) (h1 : x ≤ 1000000) (hl : ks.length ≤ 100000) (hs : VState w B vb nb mb ks p n c) :
  Calls Tryz.prog 205 #[.iface 82 (.int .i64 x), .pointer (some ⟨nb, 0, none⟩), .pointer (some ⟨vb, 0, none⟩)] w fun e w' => e = .returned (.tuple #[]) ∧ (∃ p' n' c', VState w' B vb nb mb (putV ks x) p' n' c') ∧ Below B w w' := by
 have HOF : Hid (∀ k, Calls Tryz.prog 146 #[.map (some mb), .int .i64 x] (w.drewN k) fun e w' => e = .returned (.int .i64 (ks.idxOf x)) ∧ NumMap w' mb (putV ks x) ∧ (w.drewN k).grownBy w' (some mb)) := fun k => of_any mb ks x (w.drewN k) h0 h1 (by omega) (hs.map.of_block rfl)
 have n1 := isVar; have c1 := hs.ncell; have c2 := hs.vcell; have hnl := hs.len; have HS : Hid (VState w B vb nb mb ks p n c) := hs
 obtain ⟨ix, ei⟩ : ∃ ix : Nat, ix = ks.idxOf x := ⟨_, rfl⟩
 rw [← ei] at HOF
 obtain ⟨bb, eb⟩ : ∃ bb : Bool, bb = ((ix : Int) == (n : Int)) := ⟨_, rfl⟩
 have HIX : Hid (ix = ks.idxOf x) := ei
 have hnb : n ≤ 100000 := by omega
 have HNL : Hid (n = ks.length) := hnl; clear hs ei hnl
 go_enter Tryz.func205, Tryz.ntmps205
 go_upto_region 1 with fail
 go_cut [19] from 6 (fun b wc => b = .bool bb ∧ Hid (NumMap wc mb (putV ks x) ∧ w.grownBy wc (some mb)))
 case first =>
  go_region_with (go_at_call 146; refine (HOF.out 1).mono ?_; rintro e w1 ⟨rfl, hm1, hg1⟩; have d2 : w1.cell? ⟨vb, 0, none⟩ = some (.slice p n c) := (HS.out.drew.after hm1 hg1).1)
  all_goals go_wp2_with fail
  all_goals go_meet
  all_goals exact ⟨by rw [eb], hm1, ⟨hg1.os, hg1.tape, hg1.output, hg1.size, hg1.block⟩⟩
 case rest =>
  obtain ⟨rfl, HG⟩ := hcut; obtain ⟨a1, a2, a3, a4, a5⟩ := HS.out.after HG.out.1 HG.out.2
  by_cases hx : x ∈ ks
  ·have hbb : bb = false := by rw [eb]; have := List.idxOf_lt_length_of_mem hx; have := HIX.out; have := HNL.out; simp; omega
   subst hbb
   have hp : putV ks x = ks := by rw [putV, if_pos hx]
   have HF : Hid (∃ p' n' c', VState wc B vb nb mb (putV ks x) p' n' c') := ⟨p, n, c, by rw [hp]; exact ⟨a1, a2, a3, HNL.out, a4, by have := HG.out.1; rwa [hp] at this, HS.out.bv, HS.out.bn, HS.out.bm, HS.out.away⟩⟩
   have HB : Hid _ := a5; clear eb hx hp a1 a2 a3 a4 a5; go_wp2_with fail
   go_end0
   exact ⟨rfl, HF.out, HB.out⟩
  ·have hbb : bb = true := by rw [eb]; have := List.idxOf_eq_length hx; have := HIX.out; have := HNL.out; simp; omega
   subst hbb
   have hp : putV ks x = ks ++ [x] := by rw [putV, if_neg hx]
   have HP : Hid _ := hp; obtain ⟨i0, hi, hz0, hz1, hz2⟩ := info_parts infoVar; have HR : Hid ((wc.alloc (.cells #[.int .i64 x] 82)).ownsRow B 82 1 (.slice p n c) n (ks.map (Value.int .i64))) := a4.alloc _; have HB : Hid (Below B w wc) := a5
   have hBc : B ≤ wc.heap.size := by have := HS.out.bm; have := HS.out.map.lt; have := HG.out.2.size; omega
   have HL : Hid (∀ k, Value.ownBlock (.slice p n c) = some k → B ≤ k ∧ k ≠ vb ∧ k ≠ nb ∧ k ≠ mb ∧ k < wc.heap.size) := fun k hk => by
    have h1 := a4.lt k hk
    rcases a4.2 with ⟨hv, _⟩ | ⟨g, cap, cur, hv, _⟩
    ·simp only [Value.slice.injEq] at hv; rw [hv.1] at hk; cases hk
    ·simp only [Value.slice.injEq] at hv
     rw [hv.1] at hk; have e : k = g := (Option.some.inj hk).symm; subst e; exact ⟨h1.1, (HS.out.away k hv.1).1, (HS.out.away k hv.1).2, HS.out.map_ne.2.2 k hv.1, h1.2⟩
   have hlv := World.block_lt_of_cell? _ _ a1; have hln := World.block_lt_of_cell? _ _ a3
   have HA : Hid ((wc.cell? ⟨vb, 0, none⟩ = some (.slice p n c) ∧ wc.frozen? ⟨vb, 0, none⟩ = false ∧ wc.cell? ⟨nb, 0, none⟩ = some (.map (some mb)))) := ⟨a1, a2, a3⟩
   clear eb hx hp a2 a3 a4 a5; go_wp2_with (at_builtin; refine wpList_append_lies _ rfl _ _ 179 rfl B 82 i0 (.int .i64 0) 1 8 Tryz.underlying179 hi hz0 hz1 hz2 rfl (by decide) (.slice p n c) n (ks.map (Value.int .i64)) rfl HR.out ⟨wc.heap.size, 0, none⟩ 1 1 [.int .i64 x] rfl rfl (cell_one_new _ _ _) (ints_oneCell .i64 [x]) (by decide) (by unfold maxLen; omega) (by omega) (by simp; omega) _ rfl ?_; intro g cap w2 hown2 hgrow2 hat2 hlt2; have bv := blk_app hgrow2 hlv (fun e => (HL.out vb e.symm).2.1 rfl); have e1 := (World.cell?_of_block (w := wc) (a := ⟨vb, 0, none⟩) bv).trans HA.out.1; have e2 := (World.frozen?_of_block (w := wc) (a := ⟨vb, 0, none⟩) bv).trans HA.out.2.1)
   go_end0
   have bn := blk_app hgrow2 hln (fun e => (HL.out nb e.symm).2.2.1 rfl); have bm := blk_app hgrow2 HG.out.1.lt (fun e => (HL.out mb e.symm).2.2.2.1 rfl)
   have hgn : g ≠ vb ∧ g ≠ nb ∧ g ≠ mb := by
    rcases hat2 with h | h
    ·have := HL.out g h; exact ⟨this.2.1, this.2.2.1, this.2.2.2.1⟩
    ·have := HG.out.1.lt
     simp at h hlv hln; omega
   have hvn := HS.out.vn; have hmv := HS.out.map_ne.1; refine ⟨rfl, ⟨some ⟨g, 0, none⟩, n + 1, cap, ?_⟩, ?_⟩
   ·rw [HP.out]
    refine ⟨World.cell?_setCell_same _ _ _ e1, by rw [World.frozen?_setCell]; exact e2, (World.cell?_setCell_other _ _ _ _ (fun e => hvn (congrArg Addr.block e))).trans ((World.cell?_of_block (w := wc) (a := ⟨nb, 0, none⟩) bn).trans HA.out.2.2), by simp; exact HNL.out, ?_, ?_, HS.out.bv, HS.out.bn, HS.out.bm, fun k e => ?_⟩
    ·rw [List.map_append]
     exact ownsRow_setCell_other hown2 (by simp [Value.ownBlock]; exact hgn.1) _
    ·have := HG.out.1
     rw [HP.out] at this; exact (this.of_block bm).of_block (Below.heap_setCell _ _ _ _ hmv)
    ·have : g = k := congrArg Addr.block (Option.some.inj e)
     rw [← this]; exact ⟨hgn.1, hgn.2.1⟩
   ·exact (HB.out.trans (((Below.refl _ _).alloc hBc _).grown hgrow2 (by simp; omega) (fun k e => (HL.out k e).1))).setCell (p := ⟨vb, 0, none⟩) HS.out.bv _
theorem VState.below {w w' : World} {B vb nb mb : Nat} {ks : List Int} {p : Option Addr} {n c : Nat} (h : VState w B vb nb mb ks p n c) (hb : Below w.heap.size w w') : VState w' B vb nb mb ks p n c :=
 ⟨(hb.cell (World.block_lt_of_cell? _ _ h.1)).trans h.1, (hb.frozen (World.block_lt_of_cell? _ _ h.1)).trans h.2, (hb.cell (World.block_lt_of_cell? _ _ h.3)).trans h.3, h.4, row_below h.5 hb, h.6.of_block (hb.block _ h.6.lt), h.7, h.8, h.9, h.10⟩
def WalkOut (w : World) (B vb nb mb : Nat) (ks : List Int) (e : Ending) (w' : World) : Prop := e = .returned (.tuple #[]) ∧ (∃ p n c, VState w' B vb nb mb ks p n c) ∧ Below B w w'
theorem specVars_any (cs : List Cel) (p : Option Addr) (n cap : Nat) (w : World) (hn : n = cs.length) (hl : n ≤ 10000000) (hin : CIn w p cs) :
  Calls Tryz.prog 11 #[.slice p n cap] w fun e w' => ∃ q m c2, e = .returned (.slice q m c2) ∧ OwnI w' w.heap.size 3 q m c2 (if validB cs = true then visits [] cs else []) ∧ Below w.heap.size w w' := by
 subst hn; have HV := specValid_any p cap cs w (by omega) hin; have HI : Hid (CIn w p cs) := hin; clear hin
 by_cases hv : validB cs = true
 ·have hlen : cs.length ≤ 2000 := by simp only [validB, Bool.and_eq_true, decide_eq_true_eq] at hv; exact hv.1
  rw [if_pos hv]; rw [hv] at HV; clear hv
  go_enter Tryz.func11, Tryz.ntmps11
  go_wp2_with fail; refine HV.mono ?_; rintro e w1 ⟨rfl, hb1⟩; have HB1 : Hid (Below w.heap.size w w1) := hb1; have HT := l2vars_any p cs.length cap cs w1 rfl (by omega) (HI.out.below hb1); clear hb1 HV; go_wp2_with fail; refine HT.mono ?_; rintro e w2 ⟨q, m, c2, rfl, ho, hb2⟩; go_wp2_with fail; go_ret; exact ⟨_, _, _, rfl, ho.mono HB1.out.size, Below.on HB1.out hb2⟩
 ·have hv' : validB cs = false := by simpa using hv
  rw [if_neg hv]; rw [hv'] at HV; clear hv hv'
  go_enter Tryz.func11, Tryz.ntmps11
  go_wp2_with (go_at_call 6; refine HV.mono ?_; rintro e w1 ⟨rfl, hb1⟩); go_ret; exact ⟨_, _, _, rfl, OwnI.nil _ _ _, hb1⟩
end
end Go.Proofs.YtdmmchoicngblaaGreatDoor
