/- The scanner: faults, and a token taken. Own work of the verifier. -/
import Derived.Test.YtfhelmhcmfpedaaDoorScan1
import Derived.Test.YtfhelmhcmfpedaaDoorMark
namespace Go.Proofs.YtfhelmhcmfpedaaDoor
open Go Go.RowKit
set_option linter.unusedVariables false

/-- The scanner's block S: only its place has turned; all other old blocks lie as they lay. -/
structure Moved (w w' : World) (S : Nat) (pos : Nat) : Prop where
  grown : w.grownBy w' (some S)
  at1 : w'.cell? ⟨S, 1, none⟩ = some (.int .i64 pos)
  other : ∀ j, j ≠ 1 → w'.cell? ⟨S, j, none⟩ = w.cell? ⟨S, j, none⟩
  frozen : ∀ j, w'.frozen? ⟨S, j, none⟩ = w.frozen? ⟨S, j, none⟩
theorem grown_of_below {w w' : World} (h : Below w.heap.size w w') (row : Option Nat) : w.grownBy w' row := ⟨h.os, h.tape, h.output, h.size, fun k hk _ => h.block k hk⟩
theorem Moved.of_below {w w' : World} {S pos : Nat} (h : Below w.heap.size w w') (hS : S < w.heap.size) (h1 : w.cell? ⟨S, 1, none⟩ = some (.int .i64 pos)) : Moved w w' S pos :=
  ⟨grown_of_below h _, (h.cell (p := ⟨S, 1, none⟩) hS).trans h1, fun j _ => h.cell (p := ⟨S, j, none⟩) hS, fun j => h.frozen (p := ⟨S, j, none⟩) hS⟩
theorem Moved.trans {a b c : World} {S p q : Nat} (h : Moved a b S p) (k : Moved b c S q) : Moved a c S q :=
  ⟨h.grown.trans k.grown, k.at1, fun j hj => (k.other j hj).trans (h.other j hj), fun j => (k.frozen j).trans (h.frozen j)⟩
theorem Moved.set {w : World} {S : Nat} (q pos : Nat) (h1 : w.cell? ⟨S, 1, none⟩ = some (.int .i64 q)) : Moved w (w.setCell ⟨S, 1, none⟩ (.int .i64 pos)) S pos :=
  ⟨⟨rfl, rfl, rfl, by simp, fun k _ hk => heap_setCell_other w ⟨S, 1, none⟩ k _ (fun e => hk (by simp [e]))⟩, World.cell?_setCell_same' _ _ _ (by rw [h1]; rfl), fun j hj => World.cell?_setCell_other _ _ _ _ (by intro e; simp only [Addr.mk.injEq] at e; omega), fun j => World.frozen?_setCell _ _ _ _⟩

/-- A move within memory that was made since, and memory made since written. -/
theorem Moved.onto {w W w1 w2 : World} {S p : Nat} (h : Below w.heap.size w W) (M : Moved W w1 S p) (k : Below w.heap.size w1 w2) (hS : S < w.heap.size) : Moved w w2 S p :=
  ⟨⟨k.os.trans (M.grown.os.trans h.os), k.tape.trans (M.grown.tape.trans h.tape), k.output.trans (M.grown.output.trans h.output), Nat.le_trans h.size (Nat.le_trans M.grown.size k.size), fun j hj hne => (k.block j hj).trans ((M.grown.block j (Nat.lt_of_lt_of_le hj h.size) hne).trans (h.block j hj))⟩,
   (k.cell (p := ⟨S, 1, none⟩) hS).trans M.at1, fun j hj => (k.cell (p := ⟨S, j, none⟩) hS).trans ((M.other j hj).trans (h.cell (p := ⟨S, j, none⟩) hS)), fun j => (k.frozen (p := ⟨S, j, none⟩) hS).trans ((M.frozen j).trans (h.frozen (p := ⟨S, j, none⟩) hS))⟩
theorem grown_setCell (w : World) (a : Addr) (v : Value) : w.grownBy (w.setCell a v) (some a.block) := ⟨rfl, rfl, rfl, by simp, fun k _ hk => heap_setCell_other w a k v (fun e => hk (by rw [e]))⟩
theorem grown_set5 (w : World) (g : Nat) (v0 v1 v2 v3 v4 : Value) : w.grownBy (w.setCells g 0 [v0, v1, v2, v3, v4]) (some g) :=
  ((((grown_setCell w ⟨g, 0, none⟩ v0).trans (grown_setCell _ ⟨g, 1, none⟩ v1)).trans (grown_setCell _ ⟨g, 2, none⟩ v2)).trans (grown_setCell _ ⟨g, 3, none⟩ v3)).trans (grown_setCell _ ⟨g, 4, none⟩ v4)

theorem fault_any (S pos : Nat) (code : Int) (w : World) (h1 : w.cell? ⟨S, 1, none⟩ = some (.int .i64 pos)) (hS : S < w.heap.size) :
    Calls Tryd.prog 62 #[.pointer (some ⟨S, 0, none⟩), .int .i64 code] w fun e w' => e = .returned (.agg #[.int .i64 code, .int .i64 pos]) ∧ Below w.heap.size w w' := by
  have h2 : ∀ o, (w.alloc o).cell? ⟨S, 1, none⟩ = some (.int .i64 pos) := fun o => Lib.cell?_alloc_marked o h1
  clear h1
  go_enter Tryd.func62, Tryd.ntmps62
  go_wp2
  exact bodyPost_ret (v := .agg #[.int .i64 code, .int .i64 pos]) (by simp [results, Tryd.results62, go_sem]) rfl ⟨rfl, (Below.refl _ _).alloc (Nat.le_refl _) _⟩

/-- A fault, as the scanner panics with it. -/
def Faults (code : Int) (pos : Nat) (e : Ending) : Prop := e = .panicked [{ v := .iface 43 (.agg #[.int .i64 code, .int .i64 pos]), recovered := false }]

theorem take_long (S pos : Nat) (kind : Int) (end_ : Nat) (p : Option Addr) (n c : Nat) (w : World) (h1 : w.cell? ⟨S, 1, none⟩ = some (.int .i64 pos)) (hS : S < w.heap.size) (hn : 100 < n) (hm : n ≤ 1000000) :
    Calls Tryd.prog 58 #[.pointer (some ⟨S, 0, none⟩), .int .i64 kind, .int .i64 end_, .slice p n c] w fun e w' => Faults 3 pos e ∧ Below w.heap.size w w' := by
  have H2 : Hid (∀ o, (w.alloc o).cell? ⟨S, 1, none⟩ = some (.int .i64 pos)) := fun o => Lib.cell?_alloc_marked o h1
  clear h1
  go_enter Tryd.func58, Tryd.ntmps58
  go_wp2_with (go_at_call 62; refine (fault_any S pos 3 _ (H2.out _) (by simp; omega)).mono ?_; rintro e w1 ⟨rfl, hb1⟩)
  exact ⟨rfl, rfl, ((Below.refl _ _).alloc (Nat.le_refl _) _).trans (hb1.mono (by simp))⟩

theorem take_fits (S pos : Nat) (kind : Int) (end_ : Nat) (p : Option Addr) (n c : Nat) (w : World) (h1 : w.cell? ⟨S, 1, none⟩ = some (.int .i64 pos)) (hf : w.frozen? ⟨S, 1, none⟩ = false) (hS : S < w.heap.size) (hn : n ≤ 100) (hp : pos ≤ end_) (he : end_ ≤ 1000000) :
    Calls Tryd.prog 58 #[.pointer (some ⟨S, 0, none⟩), .int .i64 kind, .int .i64 end_, .slice p n c] w fun e w' => e = .returned (.agg #[.int .i64 kind, .int .i64 pos, .int .i64 (end_ - pos), .slice p n c, .int .i64 0]) ∧ Moved w w' S end_ := by
  have h2 : ∀ o, (w.alloc o).cell? ⟨S, 1, none⟩ = some (.int .i64 pos) := fun o => Lib.cell?_alloc_marked o h1
  have hwr : IntKind.i64.wrap ((end_ : Int) - pos) = (end_ : Int) - pos := by rw [IntKind.wrap_i64]; omega
  go_enter Tryd.func58, Tryd.ntmps58
  go_wp2
  go_region_held3 (fun w' => w'.cell? ⟨S, 1, none⟩ = some (.int .i64 pos)) (go_keep) (fail)
  all_goals go_wp2
  have M := (Moved.set pos end_ h1).trans (Moved.of_below (w' := ((((w.setCell ⟨S, 1, none⟩ (.int .i64 end_)).alloc (.cells #[.int .i64 kind, .int .i64 pos, .int .i64 (end_ - pos), .slice p n c, .int .i64 0] 39)).alloc (.cells #[.int .i64 kind, .int .i64 pos, .int .i64 (end_ - pos), .slice p n c, .int .i64 0] 39)).drew))
    ((((Below.refl _ _).alloc (Nat.le_refl _) _).alloc (by simp) _).drew) (by simpa using hS) (Moved.set pos end_ h1).at1)
  exact bodyPost_ret (v := .agg #[.int .i64 kind, .int .i64 pos, .int .i64 (end_ - pos), .slice p n c, .int .i64 0]) (by simp [results, Tryd.results58, go_sem]) rfl ⟨rfl, M⟩

end Go.Proofs.YtfhelmhcmfpedaaDoor
