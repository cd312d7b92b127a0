/- Names with their arities as keys. Own work of the verifier. -/
import Derived.Maps.OwnSet
import Derived.Maps.OwnOps
import Derived.DeepKeys4
import Derived.Test.YtgedoflkkkpdeaaGreatDoorKeyP
namespace Go.Proofs.YtgedoflkkkpdeaaGreatDoor
open Go Go.RowKit Go.Maps
set_option linter.unusedVariables false

/-- A name and how many arguments. -/
abbrev Fun := ByteArray × Int
theorem laidFun : laidOutB Tryz.prog = true := by kernel_rfl
theorem rowFun : (37 : TypeId) < Tryz.prog.types.size := of_decide_eq_true (by kernel_rfl)
theorem wideFun : (match Tryz.prog.underlying 37 with | some (.array _ _) | some (.struct _) => true | _ => false) = true := by kernel_rfl
theorem keyAtFun : Tryz.prog.keyTypeAt 3 37 = true := by kernel_rfl
set_option maxRecDepth 100000 in
theorem lawFunK : WideMaps.KeyLaw Tryz.prog 37 := deep_law_laid laidFun (m := 3) (by decide) rowFun keyAtFun (by kernel_rfl)
theorem lawFun : Keyed Tryz.prog 37 := Keyed.of_law lawFunK
theorem typFun : Tryz.prog.keyType 37 = true := by kernel_rfl
theorem cellsFun : Tryz.prog.cellsOf 37 = 2 := by kernel_rfl
theorem cellsStr : Tryz.prog.cellsOf 9 = 1 := by kernel_rfl
theorem cellsIn : Tryz.prog.cellsOf 3 = 1 := by kernel_rfl

/-- A name's key. -/
def fk (f : Fun) : Lit := .string (keyBytes [.string f.1.data.toList, .int .i64 f.2])
theorem nTypes : ∃ n, Tryz.prog.types.size = n + 1 := by
  have h : 37 < Tryz.prog.types.size := rowFun
  generalize Tryz.prog.types.size = m at h
  exact ⟨m - 1, by omega⟩
theorem keyFun (f : Fun) (hs : f.1.size ≤ 1000000) (h0 : 0 ≤ f.2) (h1 : f.2 ≤ 1000000) : keyOf Tryz.prog 37 (.agg #[.string f.1, .int .i64 f.2]) = some (fk f) := by
  obtain ⟨n, hn⟩ := nTypes
  have hx : f.1.size ≤ maxLen := by unfold maxLen; omega
  have hw : (Lit.int .i64 f.2).wf = true := WalkArith.wf_i64 (by omega)
  exact keyPair Tryz.prog 37 9 3 _ _ _ rfl Tryz.underlying37 rfl rfl rfl rfl (by decide) (by decide) Tryz.underlying9 Tryz.underlying3 cellsFun cellsStr cellsIn typFun n hn f.1 f.2 hx hw
theorem fk_inj {f g : Fun} (hf : f.1.size ≤ 1000000 ∧ 0 ≤ f.2 ∧ f.2 ≤ 1000000) (hg : g.1.size ≤ 1000000 ∧ 0 ≤ g.2 ∧ g.2 ≤ 1000000) (h : fk f = fk g) : f = g := by
  have h1 := keyFun f hf.1 hf.2.1 hf.2.2
  have h2 := keyFun g hg.1 hg.2.1 hg.2.2
  rw [← h] at h2
  have := lawFun.inj h1 h2
  obtain ⟨f1, f2⟩ := f
  obtain ⟨g1, g2⟩ := g
  simpa using this

end Go.Proofs.YtgedoflkkkpdeaaGreatDoor
