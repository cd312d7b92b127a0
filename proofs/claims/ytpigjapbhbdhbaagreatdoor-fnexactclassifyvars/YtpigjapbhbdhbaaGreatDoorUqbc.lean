/- Texts of ClFe, ClFf, ClFg, ClFh. Own work of the verifier. -/
import Derived.Test.YtpigjapbhbdhbaaGreatDoorRows
import Derived.JoinedOf
import Derived.SevenTiedAt
import Derived.ProofKit
import Derived.OpenShut
namespace Go.Proofs.YtpigjapbhbdhbaaGreatDoor
open Go Go.ChangeShapes Go.WideShapes Go.WideMaps Go.WideElems Go.RowKit
set_option maxRecDepth 100000
theorem jf0 : (Rows.fnExactClassifyVarsRow.wf (OpenSpec.ofChange Rows.fnExactClassifyVarsSpec)) = true := by kernel_rfl
theorem jf1 : (laidOutB Tryz.prog) = true := by kernel_rfl
theorem jf2 : (mapsRowed Tryz.prog) = true := by kernel_rfl
theorem jf3 : (Tryz.f3.params.all (Tryz.prog.readableRec ·)) = true := by kernel_rfl
theorem jf4 : (namedTie Tryz.prog Rows.fnExactClassifyVarsRow.named Rows.fnExactClassifyVarsSpec.vars) = true := by kernel_rfl
theorem jf5 : ((Rows.fnExactClassifyVarsRow.stops == [])) = true := by kernel_rfl
theorem jf6 : ((Tryz.prog.stops == [])) = true := by kernel_rfl
theorem jf7 : ((Rows.fnExactClassifyVarsRow.knobs == [])) = true := by kernel_rfl
theorem jf8 : ((Tryz.prog.stopKnobs == [])) = true := by kernel_rfl
theorem jf13 : ((Rows.fnExactClassifyVarsRow.maps == (Tryz.f3.params.toList ++ Rows.fnExactClassifyVarsSpec.plain.varTypes Tryz.prog).any (Tryz.prog.mapsRec ·))) = true := by kernel_rfl
theorem jf14 : ((Rows.fnExactClassifyVarsRow.ifaces == (Tryz.f3.params.toList ++ Rows.fnExactClassifyVarsSpec.plain.varTypes Tryz.prog).any (Tryz.prog.ifacesRec ·))) = true := by kernel_rfl
theorem jf15 : ((Rows.fnExactClassifyVarsRow.mapsOut == Tryz.prog.mapsAmong Tryz.f3.resultTypes.toList)) = true := by kernel_rfl
theorem jf16 : ((Rows.fnExactClassifyVarsRow.loops == (Tryz.f3.params.toList ++ Rows.fnExactClassifyVarsSpec.plain.varTypes Tryz.prog).any (Tryz.prog.loopsFrom ·))) = true := by kernel_rfl
theorem jf17 : ((Rows.fnExactClassifyVarsRow.wideKeys == (Tryz.f3.params.toList ++ Rows.fnExactClassifyVarsSpec.plain.varTypes Tryz.prog ++ Tryz.f3.resultTypes.toList).any (Tryz.prog.wideKeysFrom ·))) = true := by kernel_rfl
theorem jf18 : (Rows.fnExactClassifyVarsSpec.vars.all (Tryz.prog.varReadable ·)) = true := by kernel_rfl
theorem jf19 : (Tryz.f3.resultTypes.all (fun t => Tryz.prog.readableRec t && decide (t < Tryz.prog.types.size))) = true := by kernel_rfl
theorem jf20 : ((Rows.fnExactClassifyVarsRow.ifacesOut == Tryz.f3.resultTypes.toList.any (Tryz.prog.ifacesRec ·))) = true := by kernel_rfl
theorem jf21 : ((Rows.fnExactClassifyVarsRow.loopsOut == Tryz.f3.resultTypes.toList.any (Tryz.prog.loopsFrom ·))) = true := by kernel_rfl
theorem jf22 : ((Rows.fnExactClassifyVarsRow.plainKeys == Tryz.prog.plainKeys)) = true := by kernel_rfl
theorem jf23 : (Rows.fnExactClassifyVarsRow.shortTexts.isNone) = true := by kernel_rfl
theorem jf24 : (Tryz.prog.stopsHeard) = true := by kernel_rfl
theorem jf25 : (Tryz.prog.mayEnter) = true := by kernel_rfl
theorem jf26 : ((Rows.fnExactClassifyVarsRow.lifted == Tryz.prog.liftsFinal)) = true := by kernel_rfl
theorem jf27 : ((Tryz.prog.make == some Rows.fnExactClassifyVarsRow.make)) = true := by kernel_rfl
theorem jf28 : ((Rows.fnExactClassifyVarsRow.kinds == (if Rows.fnExactClassifyVarsRow.domain.isEmpty then [] else Tryz.f3.params.toList.map fun t => match Tryz.prog.underlying t with | some (.int k) => some k | _ => none))) = true := by kernel_rfl
theorem jf29 : ((Rows.fnExactClassifyVarsRow.pinned == Rows.fnExactClassifyVarsRow.pinnedBy)) = true := by kernel_rfl
theorem jf30 : ((Rows.fnExactClassifyVarsRow.veiled == (Tryz.f3.params.toList ++ Rows.fnExactClassifyVarsSpec.plain.varTypes Tryz.prog ++ Tryz.f3.resultTypes.toList).any (Tryz.prog.veiledRec ·))) = true := by kernel_rfl
theorem jf31 : (Rows.fnExactClassifyVarsRow.veiledFits Tryz.prog Tryz.f3.params.toList (Tryz.f3.params.toList ++ Rows.fnExactClassifyVarsSpec.plain.varTypes Tryz.prog ++ Tryz.f3.resultTypes.toList)) = true := by kernel_rfl
end Go.Proofs.YtpigjapbhbdhbaaGreatDoor

namespace Go.Proofs.YtpigjapbhbdhbaaGreatDoor
open Go Go.ChangeShapes Go.WideShapes Go.WideMaps Go.WideElems Go.RowKit
set_option maxRecDepth 100000
theorem cf1 : Rows.fnExactClassifyVarsRow.wfByText (OpenSpec.ofChange Rows.fnExactClassifyVarsSpec) = true := by kernel_rfl
end Go.Proofs.YtpigjapbhbdhbaaGreatDoor

namespace Go.Proofs.YtpigjapbhbdhbaaGreatDoor
open Go Go.ChangeShapes Go.WideShapes Go.WideMaps Go.WideElems Go.RowKit
set_option maxRecDepth 100000
theorem cf3 : true = Tryz.prog.looks [] := by kernel_rfl
end Go.Proofs.YtpigjapbhbdhbaaGreatDoor

namespace Go.Proofs.YtpigjapbhbdhbaaGreatDoor
open Go Go.ChangeShapes Go.WideShapes Go.WideMaps Go.WideElems Go.RowKit
set_option maxRecDepth 100000
theorem cf4 : false = Rows.fnExactClassifyVarsRow.goesBy Tryz.prog := by kernel_rfl
theorem cf5 : Tryz.prog.funcNamed "loop.example/s00095/laws.FnExactClassifyVars" = some 3 := by kernel_rfl
end Go.Proofs.YtpigjapbhbdhbaaGreatDoor

