/- Closed facts of the row of FnOrder. Own work of the verifier. Made by wip/draft/qt.py. -/
import Derived.Test.YtdmmchoicngblaaGreatDoorFwFh
import Derived.Test.YtdmmchoicngblaaGreatDoorFwFj
namespace Go.Proofs.YtdmmchoicngblaaGreatDoor
open Go Go.ChangeShapes Go.WideShapes Go.WideMaps Go.WideElems Go.RowKit
set_option maxRecDepth 100000
theorem noGoAt (g : Nat) : (Tryz.prog.funcs[g]?).any Func.goes = false := by
 cases h : Tryz.prog.funcs[g]? with
 | none => rfl
 | some fn =>
   have hm : fn ∈ Tryz.prog.funcs := Array.mem_of_getElem? h; have h9 := noGo; rw [Array.any_eq_false'] at h9
   simpa using h9 fn hm
theorem cf4 : false = Rows.fnOrderRow.goesBy Tryz.prog := by
 have e : (fun g => (Tryz.prog.funcs[g]?).any Func.goes) = fun _ => false := funext noGoAt
 have h1 : Tryz.prog.goes 3 = false := by
  unfold Program.goes
  rw [e, noGo]
  simp
 show false = Tryz.prog.goesAt Rows.fnOrderRow.start "loop.example/s00095/laws.FnOrder"
 unfold Program.goesAt Program.goesFrom
 rw [cf5]; simp only [Option.any_some, h1, Bool.false_or]
 rfl
end Go.Proofs.YtdmmchoicngblaaGreatDoor
