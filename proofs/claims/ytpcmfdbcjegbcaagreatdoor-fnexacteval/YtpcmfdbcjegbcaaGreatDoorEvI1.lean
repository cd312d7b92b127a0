/- Error terms of the program. Own work of the verifier. Made by program. -/
import Derived.Test.YtpcmfdbcjegbcaaGreatDoorEvP
import Derived.Test.YtpcmfdbcjegbcaaGreatDoorTermG
import Derived.Test.YtpcmfdbcjegbcaaGreatDoorLay3
import Derived.Laws.CopyOwn
namespace Go.Proofs.YtpcmfdbcjegbcaaGreatDoor
open Go Go.RowKit
set_option linter.unusedVariables false

theorem comp_in {w : World} {B b g : Nat} {nm : List Int} {n : Int} {k : Fo} {vs : List Value} (hb : B ≤ b) (hg : B ≤ g) (h0 : w.cell? ⟨b, 0, none⟩ = some (.string (strOfNums nm))) (h1 : w.cell? ⟨b, 1, none⟩ = some (.slice (some ⟨g, 0, none⟩) vs.length vs.length))
    (hgl : g < w.heap.size) (hr : ∀ i, i < vs.length → w.cell? ⟨g, i, none⟩ = some (vs.getD i .nilIface)) (hk : FoIn w B k vs) : FoIn w B (.node (3, n, nm) k .nil) [.iface 107 (.pointer (some ⟨b, 0, none⟩))] :=
  ⟨_, [], rfl, .inr (.inr (.inr ⟨rfl, b, g, vs, rfl, hb, hg, h0, h1, hgl, hr, hk⟩)), rfl⟩
theorem atom_in {w : World} {B : Nat} {s : List Int} {n : Int} {r : Fo} {vs : List Value} (h : FoIn w B r vs) : FoIn w B (.node (2, n, s) .nil r) (.iface 104 (.string (strOfNums s)) :: vs) := ⟨_, vs, rfl, .inr (.inr (.inl ⟨rfl, rfl⟩)), h⟩
theorem num_in {w : World} {B : Nat} {n : Int} {r : Fo} {vs : List Value} (h : FoIn w B r vs) : FoIn w B (.node (1, n, []) .nil r) (.iface 41 (.int .i64 n) :: vs) := ⟨_, vs, rfl, .inr (.inl ⟨rfl, rfl⟩), h⟩
/-- An error made of a tree. -/
def ErrOut (w : World) (B : Nat) (t : Tr) (e : Ending) (w' : World) : Prop := ∃ tv, e = .returned (.agg #[tv]) ∧ FoIn w' B t.fo [tv] ∧ Below w.heap.size w w'

set_option maxRecDepth 100000 in
theorem evaluationError_any (s : List Int) (w : World) : Calls Tryz.prog 93 #[.string (strOfNums s)] w (ErrOut w w.heap.size (evalT s)) := by
  go_enter Tryz.func93, Tryz.ntmps93
  go_wp2_with fail
  obtain ⟨hlow, h0, h1, h2⟩ := lay3 w (.cells #[.iface 107 (.pointer (some ⟨w.heap.size + 1 + 1, 0, none⟩))] 50) (.cells #[.iface 104 (.string (strOfNums s))] 47) (.cells #[.string ⟨#[101, 118, 97, 108, 117, 97, 116, 105, 111, 110, 95, 101, 114, 114, 111, 114]⟩, .slice (some ⟨w.heap.size + 1, 0, none⟩) 1 1] 113) _ rfl
  have r0 := cell_of_row _ _ 0 _ _ _ h0
  refine bodyPost_ret (v := .agg #[.iface 107 (.pointer (some ⟨w.heap.size + 1 + 1, 0, none⟩))]) (by simp [results, Tryz.results93, go_sem, r0]) rfl ⟨_, rfl, ?_, hlow⟩
  refine comp_in (g := w.heap.size + 1) (vs := [.iface 104 (.string (strOfNums s))]) (by omega) (by omega) (cell_of_row _ _ 0 _ _ _ h2) (cell_of_row _ _ 1 _ _ _ h2) (by simp) (fun i hi => ?_) (atom_in rfl)
  obtain rfl : i = 0 := by simp at hi; omega
  exact cell_of_row _ _ 0 _ _ _ h1
set_option maxRecDepth 100000 in
theorem typeError_any (s : List Int) (t : Tr) (v : Value) (B : Nat) (w : World) (hB : B ≤ w.heap.size) (ht : FoIn w B t.fo [v]) : Calls Tryz.prog 94 #[.string (strOfNums s), v] w (ErrOut w B (typeT s t)) := by
  obtain ⟨vt, vx, rfl⟩ := FoIn.iface (c := t.1) (k := t.2) (r := .nil) ht
  go_enter Tryz.func94, Tryz.ntmps94
  go_wp2_with fail
  obtain ⟨hlow, h0, h1, h2⟩ := lay3 w (.cells #[.iface 107 (.pointer (some ⟨w.heap.size + 1 + 1, 0, none⟩))] 50) (.cells #[.iface 104 (.string (strOfNums s)), .iface vt vx] 47) (.cells #[.string ⟨#[116, 121, 112, 101, 95, 101, 114, 114, 111, 114]⟩, .slice (some ⟨w.heap.size + 1, 0, none⟩) 2 2] 113) _ rfl
  have r0 := cell_of_row _ _ 0 _ _ _ h0
  refine bodyPost_ret (v := .agg #[.iface 107 (.pointer (some ⟨w.heap.size + 1 + 1, 0, none⟩))]) (by simp [results, Tryz.results94, go_sem, r0]) rfl ⟨_, rfl, ?_, hlow⟩
  refine comp_in (g := w.heap.size + 1) (vs := [.iface 104 (.string (strOfNums s)), .iface vt vx]) (by omega) (by omega) (cell_of_row _ _ 0 _ _ _ h2) (cell_of_row _ _ 1 _ _ _ h2) (by simp) (fun i hi => ?_) (atom_in (ht.below hlow))
  rcases (by simp at hi; omega : i = 0 ∨ i = 1) with rfl | rfl
  · exact cell_of_row _ _ 0 _ _ _ h1
  · exact cell_of_row _ _ 1 _ _ _ h1
set_option maxRecDepth 100000 in
theorem instError_any (w : World) : Calls Tryz.prog 83 #[] w (ErrOut w w.heap.size instT) := by
  go_enter Tryz.func83, Tryz.ntmps83
  go_wp2_with fail
  have h0 := heap_alloc_new w (Obj.cells #[Value.iface 104 (Value.string ⟨#[105, 110, 115, 116, 97, 110, 116, 105, 97, 116, 105, 111, 110, 95, 101, 114, 114, 111, 114]⟩)] 50)
  have r0 := cell_of_row _ _ 0 _ _ _ h0
  exact bodyPost_ret (v := .agg #[.iface 104 (.string ⟨#[105, 110, 115, 116, 97, 110, 116, 105, 97, 116, 105, 111, 110, 95, 101, 114, 114, 111, 114]⟩)]) (by simp [results, Tryz.results83, go_sem, r0]) rfl ⟨_, rfl, atom_in (n := 0) (s := sInst) rfl, (Below.refl _ _).alloc (Nat.le_refl _) _⟩
theorem cell_new (w : World) (v : Value) (t : TypeId) : (w.alloc (.cells #[v] t)).cell? ⟨w.heap.size, 0, none⟩ = some v ∧ (w.alloc (.cells #[v] t)).frozen? ⟨w.heap.size, 0, none⟩ = false := by
  have h := heap_alloc_new w (.cells #[v] t)
  exact ⟨cell_of_row _ _ 0 _ _ _ h, frozen_of_row _ _ _ _ _ h⟩
/-- The result's cell, behind a call that made the error. -/
theorem err_back {w w1 : World} {t : Tr} {tv : Value} {B : Nat} {ty : TypeId} (hfo : FoIn w1 B t.fo [tv]) (hB : w.heap.size < B) (hb : Below (w.alloc (.cells #[.nilIface] ty)).heap.size (w.alloc (.cells #[.nilIface] ty)) w1) :
    w1.cell? ⟨w.heap.size, 0, none⟩ = some .nilIface ∧ w1.frozen? ⟨w.heap.size, 0, none⟩ = false ∧ (w1.setCell ⟨w.heap.size, 0, none⟩ tv).cell? ⟨w.heap.size, 0, none⟩ = some tv ∧ FoIn (w1.setCell ⟨w.heap.size, 0, none⟩ tv) w.heap.size t.fo [tv] ∧ Below w.heap.size w (w1.setCell ⟨w.heap.size, 0, none⟩ tv) := by
  obtain ⟨c0, f0⟩ := cell_new w .nilIface ty
  have k0 := (hb.cell (p := ⟨w.heap.size, 0, none⟩) (by simp)).trans c0
  have k1 := (hb.frozen (p := ⟨w.heap.size, 0, none⟩) (by simp)).trans f0
  refine ⟨k0, k1, World.cell?_setCell_same' _ _ _ (by rw [k0]; rfl), (hfo.setCell (a := ⟨w.heap.size, 0, none⟩) hB _).mono (by omega), ?_⟩
  have h1 : Below w.heap.size w w1 := Below.on ((Below.refl _ _).alloc (Nat.le_refl _) _) hb
  exact ⟨h1.os, h1.tape, h1.output, by have := h1.size; simp; omega, fun k hk => (heap_setCell_other _ ⟨w.heap.size, 0, none⟩ k _ (fun e => by simp at e; omega)).trans (h1.block k hk)⟩
set_option maxRecDepth 100000 in
theorem intOverflow_any (w : World) : Calls Tryz.prog 91 #[] w (ErrOut w w.heap.size ovfT) := by
  have HE := evaluationError_any sOvf (w.alloc (.cells #[.nilIface] 50))
  go_enter Tryz.func91, Tryz.ntmps91
  go_wp2_with fail
  refine HE.mono ?_
  rintro e w1 ⟨tv, rfl, hfo, hb⟩
  obtain ⟨c0, f0, c1, hf, hl⟩ := err_back hfo (by simp) hb
  obtain ⟨vt, vx, rfl⟩ := FoIn.iface (c := ovfT.1) (k := ovfT.2) (r := .nil) hfo
  have HF : Hid _ := hf
  have HL : Hid _ := hl
  clear hfo hb HE hf hl
  go_wp2_with fail
  exact bodyPost_ret (v := .agg #[.iface vt vx]) (by simp [results, Tryz.results91, go_sem, c1]) rfl ⟨_, rfl, HF.out, HL.out⟩
set_option maxRecDepth 100000 in
theorem indicator_any (s : List Int) (n : Int) (w : World) : Calls Tryz.prog 95 #[.agg #[.string (strOfNums s), .int .i64 n]] w fun e w' => ∃ tv, e = .returned tv ∧ FoIn w' w.heap.size (indT s n).fo [tv] ∧ Below w.heap.size w w' := by
  go_enter Tryz.func95, Tryz.ntmps95
  go_wp2_with fail
  obtain ⟨hlow, h0, h1, h2⟩ := lay3 w (.cells #[.string (strOfNums s), .int .i64 n] 93) (.cells #[.iface 104 (.string (strOfNums s)), .iface 41 (.int .i64 n)] 47) (.cells #[.string ⟨#[47]⟩, .slice (some ⟨w.heap.size + 1, 0, none⟩) 2 2] 113) _ rfl
  have HF : Hid _ := comp_in (w := ((w.alloc (.cells #[.string (strOfNums s), .int .i64 n] 93)).alloc (.cells #[.iface 104 (.string (strOfNums s)), .iface 41 (.int .i64 n)] 47)).alloc (.cells #[.string ⟨#[47]⟩, .slice (some ⟨w.heap.size + 1, 0, none⟩) 2 2] 113)) (B := w.heap.size) (b := w.heap.size + 1 + 1) (g := w.heap.size + 1) (nm := [47]) (n := 2) (k := .node (2, 0, s) .nil (.node (1, n, []) .nil .nil)) (vs := [.iface 104 (.string (strOfNums s)), .iface 41 (.int .i64 n)]) (by omega) (by omega) (cell_of_row _ _ 0 _ _ _ h2) (cell_of_row _ _ 1 _ _ _ h2) (by simp) (fun i hi => by
    rcases (by simp at hi; omega : i = 0 ∨ i = 1) with rfl | rfl
    · exact cell_of_row _ _ 0 _ _ _ h1
    · exact cell_of_row _ _ 1 _ _ _ h1) (atom_in (num_in rfl))
  have HL : Hid _ := hlow
  clear h0 h1 h2 hlow
  go_ret
  exact ⟨_, rfl, HF.out, HL.out⟩
set_option maxRecDepth 100000 in
theorem notEvaluable_any (s : List Int) (n : Int) (w : World) : Calls Tryz.prog 80 #[.agg #[.string (strOfNums s), .int .i64 n]] w (ErrOut w w.heap.size (evbT s n)) := by
  obtain ⟨w0, ew0⟩ : ∃ w0, w0 = w.alloc (.cells #[.string (strOfNums s), .int .i64 n] 93) := ⟨_, rfl⟩
  have hb0 : Below w.heap.size w w0 := by rw [ew0]; exact (Below.refl _ _).alloc (Nat.le_refl _) _
  have hs0 : w0.heap.size = w.heap.size + 1 := by rw [ew0]; simp
  have HI := indicator_any s n (w0.alloc (.cells #[.nilIface] 50))
  have HB0 : Hid _ := hb0
  have HS0 : Hid (w0.heap.size = w.heap.size + 1) := hs0
  rw [ew0] at HI
  go_enter Tryz.func80, Tryz.ntmps80
  clear hb0 hs0
  go_wp2_with fail
  refine HI.mono ?_
  rw [← ew0]
  rintro e w1 ⟨tv, rfl, hfo, hb⟩
  obtain ⟨vt, vx, rfl⟩ := FoIn.iface (c := (indT s n).1) (k := (indT s n).2) (r := .nil) hfo
  have HB1 : Hid _ := hb
  have HT := typeError_any sEvb (indT s n) (.iface vt vx) (w0.alloc (.cells #[.nilIface] 50)).heap.size w1 hb.size hfo
  clear hfo hb HI
  go_wp2_with fail
  refine HT.mono ?_
  rintro e w2 ⟨tv, rfl, hfo, hb⟩
  obtain ⟨c0, f0, c1, hf, hl⟩ := err_back (w := w0) hfo (by simp) (HB1.out.trans (hb.mono HB1.out.size))
  obtain ⟨ut, ux, rfl⟩ := FoIn.iface (c := (evbT s n).1) (k := (evbT s n).2) (r := .nil) hfo
  rw [HS0.out] at c0 f0 c1 hf hl
  have HF : Hid _ := hf.mono (by omega : w.heap.size ≤ w.heap.size + 1)
  have HL : Hid (Below w.heap.size w _) := HB0.out.trans (hl.mono (by omega))
  clear hfo hb HT hf hl
  go_wp2_with fail
  exact bodyPost_ret (v := .agg #[.iface ut ux]) (by simp [results, Tryz.results80, go_sem, c1]) rfl ⟨_, rfl, HF.out, HL.out⟩

end Go.Proofs.YtpcmfdbcjegbcaaGreatDoor
