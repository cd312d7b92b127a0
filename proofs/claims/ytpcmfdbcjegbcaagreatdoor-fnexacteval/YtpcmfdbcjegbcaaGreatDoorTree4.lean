/- appendCells of leaves. Own work of the verifier. -/
import Derived.Test.YtpcmfdbcjegbcaaGreatDoorTree3
namespace Go.Proofs.YtpcmfdbcjegbcaaGreatDoor
open Go Go.RowKit
set_option linter.unusedVariables false

/-- What appendCells answers: the cells behind those that were there. -/
def AppOut (w : World) (B : Nat) (cs ds : List Cel) (e : Ending) (w' : World) : Prop :=
  ∃ p n c, e = .returned (.slice p n c) ∧ OwnC w' B p n c (cs ++ ds) ∧ Below B w w'

theorem news_rc {w : World} {d : Nat} {r : RC} (h : Box3 w d (.int .i64 r.1) (.int .i64 r.2.1) (.slice r.2.2.1 r.2.2.2.1 r.2.2.2.2)) : ∀ j u, (rcV r)[j]? = some u → w.cell? ((⟨d, 0, none⟩ : Addr).add j) = some u := fun j u hu => by
  have e : (⟨d, 0, none⟩ : Addr).add j = ⟨d, j, none⟩ := by unfold Addr.add; split <;> simp_all
  rw [e]
  rcases j with _ | _ | _ | j
  · simp only [rcV, List.getElem?_cons_zero, Option.some.injEq] at hu; rw [← hu]; exact h.1
  · simp only [rcV, List.getElem?_cons_succ, List.getElem?_cons_zero, Option.some.injEq] at hu; rw [← hu]; exact h.2.1
  · simp only [rcV, List.getElem?_cons_succ, List.getElem?_cons_zero, Option.some.injEq] at hu; rw [← hu]; exact h.2.2.1
  · simp [rcV] at hu

theorem appVar_any (x : Int) (p : Option Addr) (n c : Nat) (cs : List Cel) (B : Nat) (w : World) (hB : B ≤ w.heap.size) (hn : n ≤ 100000000) (ho : OwnC w B p n c cs) :
    Calls Tryz.prog 122 #[.int .i64 x, .slice p n c] w (AppOut w B cs [(0, x, [])]) := by
  have HO : Hid (OwnC w B p n c cs) := ho
  have hb : Below w.heap.size w (w.alloc (Obj.cells #[Value.int IntKind.i64 0, Value.int IntKind.i64 x, Value.slice none 0 0] 39)) := (Below.refl _ _).alloc (Nat.le_refl _) _
  have HB : Hid _ := hb
  have HX : Hid (Box3 (w.alloc (Obj.cells #[Value.int IntKind.i64 0, Value.int IntKind.i64 x, Value.slice none 0 0] 39)) w.heap.size (.int .i64 0) (.int .i64 x) (.slice none 0 0)) := Box3.of_block (t := 39) (heap_alloc_new _ _)
  clear ho hb
  go_enter Tryz.func122, Tryz.ntmps122
  go_wp2_with (at_builtin; refine app_cell w _ rfl _ _ rfl B p n c cs rfl HO.out HB.out hB ⟨w.heap.size, 0, none⟩ 1 rfl 0 x none 0 0 [] ⟨rfl, fun h => absurd h (Nat.lt_irrefl 0)⟩ (news_rc HX.out) (by omega) ?_; intro g n' cap w1 hown1 hb1 hn1)
  go_ret
  exact ⟨_, _, _, rfl, hown1, ((Below.refl _ _).alloc hB _).trans hb1⟩

theorem appNum_any (x : Int) (p : Option Addr) (n c : Nat) (cs : List Cel) (B : Nat) (w : World) (hB : B ≤ w.heap.size) (hn : n ≤ 100000000) (ho : OwnC w B p n c cs) :
    Calls Tryz.prog 115 #[.int .i64 x, .slice p n c] w (AppOut w B cs [(1, x, [])]) := by
  have HO : Hid (OwnC w B p n c cs) := ho
  have hb : Below w.heap.size w (w.alloc (Obj.cells #[Value.int IntKind.i64 1, Value.int IntKind.i64 x, Value.slice none 0 0] 39)) := (Below.refl _ _).alloc (Nat.le_refl _) _
  have HB : Hid _ := hb
  have HX : Hid (Box3 (w.alloc (Obj.cells #[Value.int IntKind.i64 1, Value.int IntKind.i64 x, Value.slice none 0 0] 39)) w.heap.size (.int .i64 1) (.int .i64 x) (.slice none 0 0)) := Box3.of_block (t := 39) (heap_alloc_new _ _)
  clear ho hb
  go_enter Tryz.func115, Tryz.ntmps115
  go_wp2_with (at_builtin; refine app_cell w _ rfl _ _ rfl B p n c cs rfl HO.out HB.out hB ⟨w.heap.size, 0, none⟩ 1 rfl 1 x none 0 0 [] ⟨rfl, fun h => absurd h (Nat.lt_irrefl 0)⟩ (news_rc HX.out) (by omega) ?_; intro g n' cap w1 hown1 hb1 hn1)
  go_ret
  exact ⟨_, _, _, rfl, hown1, ((Below.refl _ _).alloc hB _).trans hb1⟩

theorem appAtom_any (xs : List Int) (hx : Byte xs) (p : Option Addr) (n c : Nat) (cs : List Cel) (B : Nat) (w : World) (hB : B ≤ w.heap.size) (hn : n ≤ 100000000) (ho : OwnC w B p n c cs) :
    Calls Tryz.prog 120 #[.string (strOfNums xs), .slice p n c] w (AppOut w B cs [(2, 0, xs)]) := by
  have HO : Hid (OwnC w B p n c cs) := ho
  obtain ⟨w1, cap1, hcv, hb1, ht⟩ := conv_bytes w xs hx 104 Tryz.underlying104
  obtain ⟨m, em⟩ : ∃ m, m = xs.length := ⟨_, rfl⟩
  obtain ⟨str, es⟩ : ∃ str, str = strOfNums xs := ⟨_, rfl⟩
  rw [← em] at hcv ht
  rw [← es] at hcv ⊢
  have hs1 := hb1.size
  have hb : Below w1.heap.size w1 (w1.alloc (Obj.cells #[Value.int IntKind.i64 2, Value.int IntKind.i64 0, Value.slice (some ⟨w.heap.size, 0, none⟩) m cap1] 39)) := (Below.refl _ _).alloc (Nat.le_refl _) _
  have HB : Hid (Below w.heap.size w (w1.alloc (Obj.cells #[Value.int IntKind.i64 2, Value.int IntKind.i64 0, Value.slice (some ⟨w.heap.size, 0, none⟩) m cap1] 39))) := Below.on hb1 hb
  have HT : Hid (OwnT (w1.alloc (Obj.cells #[Value.int IntKind.i64 2, Value.int IntKind.i64 0, Value.slice (some ⟨w.heap.size, 0, none⟩) m cap1] 39)) w.heap.size (some ⟨w.heap.size, 0, none⟩) m cap1 xs) := ht.below hb
  have HX : Hid (Box3 (w1.alloc (Obj.cells #[Value.int IntKind.i64 2, Value.int IntKind.i64 0, Value.slice (some ⟨w.heap.size, 0, none⟩) m cap1] 39)) w1.heap.size (.int .i64 2) (.int .i64 0) (.slice (some ⟨w.heap.size, 0, none⟩) m cap1)) := Box3.of_block (t := 39) (heap_alloc_new _ _)
  have HS : Hid (Below B w (w1.alloc (Obj.cells #[Value.int IntKind.i64 2, Value.int IntKind.i64 0, Value.slice (some ⟨w.heap.size, 0, none⟩) m cap1] 39))) := HB.out.mono hB
  clear ho hb hb1 ht em es hx
  go_enter Tryz.func120, Tryz.ntmps120
  go_wp2_with (at_builtin; refine app_cell w _ rfl _ _ rfl B p n c cs rfl HO.out HB.out hB ⟨w1.heap.size, 0, none⟩ 1 rfl 2 0 (some ⟨w.heap.size, 0, none⟩) m cap1 xs HT.out (news_rc HX.out) (by omega) ?_; intro g n' cap w2 hown1 hb2 hn1)
  go_ret
  exact ⟨_, _, _, rfl, hown1, HS.out.trans hb2⟩

end Go.Proofs.YtpcmfdbcjegbcaaGreatDoor
