/- Closed facts of the row of FnParts. Own work of the verifier. Made by wip/draft/qt.py. -/
import Derived.Test.YtnfnddnffoigfaaGreatDoorFzFh
import Derived.Test.YtnfnddnffoigfaaGreatDoorFzFj
namespace Go.Proofs.YtnfnddnffoigfaaGreatDoor
set_option maxHeartbeats 2000000
open Go Go.ChangeShapes Go.WideShapes Go.WideMaps Go.WideElems Go.RowKit
set_option maxRecDepth 100000
theorem noGoAt (g:Nat):(Tryz.prog.funcs[g]?).any Func.goes=false:=by
 cases h:Tryz.prog.funcs[g]? with
 | none=>rfl
 | some a=>
   have c:a ∈ Tryz.prog.funcs:=Array.mem_of_getElem? h;have b:=noGo;rw[Array.any_eq_false'] at b
   simpa using b a c
theorem cf4:false=Rows.fnPartsRow.goesBy Tryz.prog:=by
 have e:(fun g=>(Tryz.prog.funcs[g]?).any Func.goes)=fun _=>false:=funext noGoAt
 have a:Tryz.prog.goes 3=false:=by
  unfold Program.goes
  rw[e,noGo]
  simp
 show false=Tryz.prog.goesAt Rows.fnPartsRow.start "loop.example/s00095/laws.FnParts"
 unfold Program.goesAt Program.goesFrom
 rw[cf5];simp only[Option.any_some,a,Bool.false_or]
 rfl
end Go.Proofs.YtnfnddnffoigfaaGreatDoor
