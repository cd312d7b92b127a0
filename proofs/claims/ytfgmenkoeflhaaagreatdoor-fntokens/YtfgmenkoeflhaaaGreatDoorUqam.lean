/- Texts of Dt2, PrP, Ops1, Ops2. Own work of the verifier. -/
import Derived.Test.YtfgmenkoeflhaaaGreatDoorUqal
namespace Go.Proofs.YtfgmenkoeflhaaaGreatDoor
open Go Go.RowKit
set_option linter.unusedVariables false
theorem RdIn.grow {w w' : World} {R : Nat} {p : Option Addr} {c : Nat} {xs : List Int} {i : Nat} (h : RdIn w R p c xs i) (k : Below w.heap.size w w') : RdIn w' R p c xs i := h.below k h.lt
theorem left_any (R c i : Nat) (p : Option Addr) (xs : List Int) (w : World) (h : RdIn w R p c xs i) :
 Calls Tryz.prog 47 #[.pointer (some ⟨R, 0, none⟩)] w fun e w' => e = .returned (.int .i64 ((xs.length - i : Nat) : Int)) ∧ Below w.heap.size w w' := by
 have h0 := h.at0; have h1 := h.at1; have hs := h.small; have hi := h.le
 obtain ⟨n, en⟩ : ∃ n, n = xs.length := ⟨_, rfl⟩
 rw [← en] at h0 hs hi ⊢; have HE : Hid (n = xs.length) := en
 have hsub : ((n - i : Nat) : Int) = (n : Int) - i := by omega
 rw [hsub]; have hd : Below w.heap.size w w.drew := below_drewN (Below.refl _ _) 1; clear h en hsub
 go_enter Tryz.func47, Tryz.ntmps47
 go_wp2
 go_region
 all_goals go_wp2
 all_goals go_ret
 all_goals exact ⟨rfl, hd⟩
def oddV : List Value := oddI.map (fun n => .int .i64 n)
theorem odd_at : ∀ (j : Nat) (h : j < 8), (#[.int .i64 0, .int .i64 1, .int .i64 (-1), .int .i64 42, .int .i64 1000000000000000, .int .i64 (-1000000000000000), .int .i64 255, .int .i64 1000000] : Array Value)[j]'h = .int .i64 (oddI.getD j 0)
 | 0, _ => rfl
 | 1, _ => rfl
 | 2, _ => rfl
 | 3, _ => rfl
 | 4, _ => rfl
 | 5, _ => rfl
 | 6, _ => rfl
 | 7, _ => rfl
set_option maxRecDepth 100000 in
set_option maxHeartbeats 1000000 in
theorem l4int_any (R c i : Nat) (p : Option Addr) (xs : List Int) (w : World) (h : RdIn w R p c xs i) :
 Calls Tryz.prog 49 #[.pointer (some ⟨R, 0, none⟩)] w fun e w' => e = .returned (.int .i64 (intD (rdI xs i).toNat)) ∧ Keep R (R + 1) w w' ∧ RdIn w' R p c xs (rdN xs i) := by
 have HH : Hid (RdIn w R p c xs i) := h; have hr := rdI_rng h.bytes i; clear h
 go_enter Tryz.func49, Tryz.ntmps49
 go_wp2_with fail; refine (next_any R c i p xs w HH.out).mono ?_; rintro e w2 ⟨rfl, hk2, hs2, hR2⟩; have HR2 : Hid (RdIn w2 R p c xs (rdN xs i)) := hR2
 obtain ⟨x, ex⟩ : ∃ x : Nat, rdI xs i = x := ⟨(rdI xs i).toNat, by omega⟩
 rw [ex] at hr ⊢
 obtain ⟨wA, eA⟩ : ∃ wA, wA = w2.alloc (.cells oddV.toArray 3) := ⟨_, rfl⟩
 have hBA : Below w2.heap.size w2 wA := by rw [eA]; exact (Below.refl _ _).alloc (Nat.le_refl _) _
 have FIN : Hid (Keep R (R + 1) w wA ∧ RdIn wA R p c xs (rdN xs i)) := ⟨hk2.trans (Keep.of_below hBA), hR2.grow hBA⟩
 have HX : Hid ((rdI xs i).toNat = x) := by show _ = _; rw [ex]; exact Int.toNat_natCast x
 have eA' : wA = w2.alloc (Obj.cells #[.int .i64 0, .int .i64 1, .int .i64 (-1), .int .i64 42, .int .i64 1000000000000000, .int .i64 (-1000000000000000), .int .i64 255, .int .i64 1000000] 3) := by rw [eA]; rfl
 by_cases hlt : x < 40
 ·obtain ⟨j, ej⟩ : ∃ j, j = x % 8 := ⟨_, rfl⟩
  have hj : j < 8 := by omega
  have HV : Hid (intD x = oddI.getD j 0) := by show _ = _; rw [ej, intD, if_pos hlt]
  have hmod : (x : Int).tmod 8 = (j : Int) := by rw [ej, Int.tmod_eq_emod_of_nonneg (by omega)]; rfl
  clear ej hBA hk2 hR2 ex hs2; go_wp2_with fail; rw [← eA'] at *; clear eA eA'; go_wp2_with fail; go_ret; refine ⟨?_, FIN.out⟩; rw [HX.out, HV.out]; exact congrArg Ending.returned (odd_at j hj)
 ·have hmod : (x : Int).tmod 12 = ((x % 12 : Nat) : Int) := by rw [Int.tmod_eq_emod_of_nonneg (by omega)]; rfl
  obtain ⟨j, ej⟩ : ∃ j, j = x % 12 := ⟨_, rfl⟩
  have hj : j < 12 := by omega
  have HV : Hid (intD x = (j : Int) - 2) := by show _ = _; rw [ej, intD, if_neg hlt]
  rw [← ej] at hmod; clear ej hBA hk2 hR2 ex hs2; go_wp2_with fail; rw [← eA'] at *; clear eA eA'; go_wp2_with fail; go_ret; refine ⟨?_, FIN.out⟩; rw [HX.out, HV.out]
  rfl
theorem own_leaf (w : World) (k n : Int) : OwnC (w.alloc (Obj.cells #[Value.int IntKind.i64 k, Value.int IntKind.i64 n, Value.slice none 0 0] 78)) w.heap.size (some ⟨w.heap.size, 0, none⟩) 1 1 [(k, n, [])] :=
 own_one (heap_alloc_new w _) (Nat.le_refl _) ⟨rfl, fun h => absurd h (by decide)⟩ (fun a h => by cases h)
theorem l2numO_any (n : Int) (w : World) : Calls Tryz.prog 48 #[.int .i64 n] w fun e w' => e = .returned (.slice (some ⟨w.heap.size, 0, none⟩) 1 1) ∧ OwnC w' w.heap.size (some ⟨w.heap.size, 0, none⟩) 1 1 [(1, n, [])] ∧ Below w.heap.size w w' := by
 have HX : Hid _ := own_leaf w 1 n
 go_enter Tryz.func48, Tryz.ntmps48
 go_wp2_with fail; go_ret; exact ⟨rfl, HX.out, (Below.refl _ _).alloc (Nat.le_refl _) _⟩
theorem l2varO_any (n : Int) (w : World) : Calls Tryz.prog 50 #[.int .i64 n] w fun e w' => e = .returned (.slice (some ⟨w.heap.size, 0, none⟩) 1 1) ∧ OwnC w' w.heap.size (some ⟨w.heap.size, 0, none⟩) 1 1 [(0, n, [])] ∧ Below w.heap.size w w' := by
 have HX : Hid _ := own_leaf w 0 n
 go_enter Tryz.func50, Tryz.ntmps50
 go_wp2_with fail; go_ret; exact ⟨rfl, HX.out, (Below.refl _ _).alloc (Nat.le_refl _) _⟩
abbrev Tr := Cel × Fo
abbrev TT := Tr × Tr
def Tr.fo (t : Tr) : Fo := .node t.1 t.2 .nil
def trs : Fo → List Tr
 | .nil => []
 | .node c k r => (c, k) :: trs r
theorem trs_len : ∀ F : Fo, (trs F).length = F.count
 | .nil => rfl
 | .node c k r => by simp [trs, Fo.count, trs_len r]
def Tr.ok (t : Tr) : Prop := t.fo.ok
theorem ok_count {x : TT} (h1 : x.1.ok) (h2 : x.2.ok) (h : x.1.1 = x.2.1) : x.1.2.count = x.2.2.count := by
 obtain ⟨⟨c, k⟩, ⟨c', k'⟩⟩ := x; simp only at h; subst h
 by_cases h3 : c.1 = 3
 ·have e1 := h1.2.2.1 h3
  have e2 := h2.2.2.1 h3; simp only at e1 e2 ⊢
  omega
 ·have e1 : k = .nil := h1.2.2.2.1 h3
  have e2 : k' = .nil := h2.2.2.2.1 h3; rw [e1, e2]
theorem Fo.cells_inj : ∀ (a b : Fo) (x y : List Cel), a.ok → b.ok → a.count = b.count → a.cells ++ x = b.cells ++ y → a = b ∧ x = y
 | .nil, .nil, x, y, _, _, _, h => ⟨rfl, by simpa [Fo.cells] using h⟩
 | .nil, .node _ _ _, _, _, _, _, h, _ => by simp [Fo.count] at h
 | .node _ _ _, .nil, _, _, _, _, h, _ => by simp [Fo.count] at h
 | .node c k r, .node c' k' r', x, y, h1, h2, hc, h => by
   simp only [Fo.cells, List.cons_append, List.cons.injEq, List.append_assoc] at h; obtain ⟨rfl, h⟩ := h; have hk : k.count = k'.count := ok_count (x := ((c, k), (c, k'))) ⟨h1.1, h1.2.1, h1.2.2.1, h1.2.2.2.1, h1.2.2.2.2.1, trivial⟩ ⟨h2.1, h2.2.1, h2.2.2.1, h2.2.2.2.1, h2.2.2.2.2.1, trivial⟩ rfl; obtain ⟨rfl, h'⟩ := Fo.cells_inj k k' _ _ h1.2.2.2.2.1 h2.2.2.2.2.1 hk h; obtain ⟨rfl, rfl⟩ := Fo.cells_inj r r' x y h1.2.2.2.2.2 h2.2.2.2.2.2 (by simpa [Fo.count] using hc) h'; exact ⟨rfl, rfl⟩
def OAt (w : World) (b o : Nat) (c : Cel) : Prop :=
 ∃ p cap, w.cell? ⟨b, o + 1, none⟩ = some (.int .i64 c.1) ∧ w.cell? ⟨b, o + 2, none⟩ = some (.int .i64 c.2.1) ∧ w.cell? ⟨b, o, none⟩ = some (.slice p c.2.2.length cap) ∧ BIn w p c.2.2
def OIn (w : World) (p : Option Addr) (cs : List Cel) : Prop :=
 0 < cs.length → ∃ b o, p = some ⟨b, o, none⟩ ∧ ∀ i, i < cs.length → OAt w b (o + i * 3) (cs.getD i Cel.none)
theorem OAt.below {W W' : World} {b o : Nat} {c : Cel} (h : OAt W b o c) (hb : Below W.heap.size W W') : OAt W' b o c := by
 obtain ⟨p, cap, h0, h1, h2, h3⟩ := h; exact ⟨p, cap, (hb.cell (World.block_lt_of_cell? _ _ h0)).trans h0, (hb.cell (World.block_lt_of_cell? _ _ h1)).trans h1, (hb.cell (World.block_lt_of_cell? _ _ h2)).trans h2, h3.below hb⟩
theorem OIn.below {W W' : World} {p : Option Addr} {cs : List Cel} (h : OIn W p cs) (hb : Below W.heap.size W W') : OIn W' p cs := fun hn => by
 obtain ⟨b, o, rfl, hc⟩ := h hn; exact ⟨b, o, rfl, fun i hi => (hc i hi).below hb⟩
theorem OIn.drewN {W : World} {p : Option Addr} {cs : List Cel} (h : OIn W p cs) (m : Nat) : OIn (W.drewN m) p cs := h
theorem infoOp : (Tryz.prog.info? 94).map (fun i => (i.zero, i.size, i.bytes)) = some (some (.agg #[.slice none 0 0, .int .i64 0, .int .i64 0]), 3, 40) := by kernel_rfl
def roV (r : RC) : List Value := [.slice r.2.2.1 r.2.2.2.1 r.2.2.2.2, .int .i64 r.1, .int .i64 r.2.1]
def flatO (rs : List RC) : List Value := rs.flatMap roV
theorem flatO_cons (r : RC) (rs : List RC) : flatO (r :: rs) = .slice r.2.2.1 r.2.2.2.1 r.2.2.2.2 :: .int .i64 r.1 :: .int .i64 r.2.1 :: flatO rs := rfl
theorem flatO_append (a b : List RC) : flatO (a ++ b) = flatO a ++ flatO b := List.flatMap_append
theorem flatO_at : ∀ (rs : List RC) (i : Nat), i < rs.length → (flatO rs)[i * 3 + 1]? = some (.int .i64 (rs.getD i RC.zero).1) ∧ (flatO rs)[i * 3 + 2]? = some (.int .i64 (rs.getD i RC.zero).2.1) ∧
 (flatO rs)[i * 3]? = some (.slice (rs.getD i RC.zero).2.2.1 (rs.getD i RC.zero).2.2.2.1 (rs.getD i RC.zero).2.2.2.2)
 | [], i, h => by simp at h
 | r :: rs, 0, _ => by simp [flatO_cons]
 | r :: rs, i + 1, h => by
   have := flatO_at rs i (by simpa using h); rw [flatO_cons, show (i + 1) * 3 = (i * 3) + 1 + 1 + 1 by omega, show (i * 3) + 1 + 1 + 1 + 1 = (i * 3 + 1) + 1 + 1 + 1 by omega, show (i * 3) + 1 + 1 + 1 + 2 = (i * 3 + 2) + 1 + 1 + 1 by omega]
   simpa using this
def OwnO (w : World) (B : Nat) (p : Option Addr) (n c : Nat) (cs : List Cel) : Prop :=
 n = cs.length ∧ ∃ rs : List RC, rs.length = cs.length ∧ w.ownsRow B 94 3 (.slice p n c) n (flatO rs) ∧ (∀ i, i < cs.length → Fits w B (rs.getD i RC.zero) (cs.getD i Cel.none)) ∧ ApartC p rs
theorem OwnO.nil (w : World) (B : Nat) : OwnO w B none 0 0 [] := ⟨rfl, [], rfl, World.ownsRow_nil _ _ _ _, fun i h => by simp at h, fun i h => by simp at h, fun i j h => by simp at h⟩
theorem OwnO.oin {w : World} {B : Nat} {p : Option Addr} {n c : Nat} {cs : List Cel} (h : OwnO w B p n c cs) : OIn w p cs := fun hn => by
 obtain ⟨rfl, rs, hl, hr, hf, _⟩ := h; obtain ⟨g, cap, hv, hb, hg⟩ := hr.form hn; simp only [Value.slice.injEq, true_and] at hv; obtain ⟨rfl, rfl⟩ := hv; refine ⟨g, 0, rfl, fun i hi => ?_⟩; obtain ⟨f0, f1, f2⟩ := hf i hi; obtain ⟨a0, a1, a2⟩ := flatO_at rs i (by omega); rw [Nat.zero_add]; refine ⟨(rs.getD i RC.zero).2.2.1, (rs.getD i RC.zero).2.2.2.2, ?_, ?_, ?_, f2.bin⟩
 ·rw [hr.cellAt _ (by omega), a0, f0]
 ·rw [hr.cellAt _ (by omega), a1, f1]
 ·rw [hr.cellAt _ (by omega), a2, f2.len]
theorem OwnO.below {w w' : World} {B : Nat} {p : Option Addr} {n c : Nat} {cs : List Cel} (h : OwnO w B p n c cs) (hb : Below w.heap.size w w') : OwnO w' B p n c cs := by
 obtain ⟨rfl, rs, hl, hr, hf, ha⟩ := h; refine ⟨rfl, rs, hl, ⟨hr.1, ?_⟩, fun i hi => ⟨(hf i hi).1, (hf i hi).2.1, (hf i hi).2.2.below hb⟩, ha⟩
 rcases hr.2 with h' | ⟨g, cap, cur, hv, hB, hg, r⟩
 ·exact .inl h'
 ·exact .inr ⟨g, cap, cur, hv, hB, (hb.block g (Array.getElem?_eq_some_iff.1 hg).1).trans hg, r⟩
theorem OwnO.mono {w : World} {B B' : Nat} {p : Option Addr} {n c : Nat} {cs : List Cel} (h : OwnO w B p n c cs) (hB : B' ≤ B) : OwnO w B' p n c cs := by
 obtain ⟨hn, rs, hl, hr, hf, ha⟩ := h; exact ⟨hn, rs, hl, ownsRow_down hr hB, fun i hi => ⟨(hf i hi).1, (hf i hi).2.1, (hf i hi).2.2.mono hB⟩, ha⟩
end Go.Proofs.YtfgmenkoeflhaaaGreatDoor
