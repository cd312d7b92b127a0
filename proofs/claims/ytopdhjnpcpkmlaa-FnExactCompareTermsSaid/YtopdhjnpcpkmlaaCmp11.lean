/- slices.SortFunc at names. Own work of the verifier. -/
import Derived.Test.YtopdhjnpcpkmlaaCmpL
namespace Go.Proofs.Ytopdhjnpcpkmlaa
open Go Go.RowKit Go.Maps Go.Sort Go.Shelf
set_option linter.unusedVariables false

/-- A name's two cells. -/
def encF (x : Fun) : List Value := [.string x.1, .int .i64 x.2]
theorem isAggFun (w : World) : (isAgg 105).run Try.prog w = .ok true w := by kernel_rfl
theorem sizeOfFun (w : World) : (Go.sizeOf 105).run Try.prog w = .ok 2 w := by kernel_rfl
theorem cmpLaysFun (blk off size : Nat) (w : World) : CmpLays Try.prog 77 #[] encF 2 funCmp blk off size w := fun _ _ _ _ x y => compareFunctors_any x y _
theorem sortFunc_any (blk cap : Nat) (d : Array Fun) (w : World) (hH : HoldsK encF 2 w blk 0 d) (hblk : blk < w.heap.size) (hsz : d.size < 4611686018427387904) :
    Calls Try.prog 76 #[.slice (some ⟨blk, 0, none⟩) d.size cap, .func (.func 77) #[] #[]] w fun e w' => e = .returned (.tuple #[]) ∧ ∃ d' n os, PermIn 0 d.size d d' ∧ SortedIn (ltOf funCmp) 0 d.size d' ∧ w' = sortWorldK encF 2 w blk 0 n d' os := by
  have eg : ∀ args w, (callFunc 77 args).run Try.prog w = .ok (.enter 77 args) w := enters_of Try.func77 (by kernel_rfl) rfl
  have hcon := AnyQ.slices_SortFunc Try.sortFunL 2 isAggFun sizeOfFun encF (fun _ => rfl) (fun x v hv => by simp [encF] at hv; rcases hv with rfl | rfl <;> rfl) funCmp fl_swo 77 #[] blk 0 cap d w eg (cmpLaysFun blk 0 d.size w) hH hblk hsz
  exact hcon

end Go.Proofs.Ytopdhjnpcpkmlaa
