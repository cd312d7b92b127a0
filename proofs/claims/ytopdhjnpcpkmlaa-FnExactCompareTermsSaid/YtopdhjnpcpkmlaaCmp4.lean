/- The map of names with their ranks. Own work of the verifier. -/
import Derived.Maps.OwnSet
import Derived.Maps.OwnOps
import Derived.DeepKeys4
import Derived.Test.YtopdhjnpcpkmlaaCmp3
import Derived.Test.YtopdhjnpcpkmlaaNum
namespace Go.Proofs.Ytopdhjnpcpkmlaa
open Go Go.RowKit Go.Maps
set_option linter.unusedVariables false

/-- The key of a struct of a string and a number. -/
theorem keyPair (P : Program) (k s i : TypeId) (F : Array Field) (f0 f1 : Field) (hF : F = #[f0, f1]) (hu : P.underlying k = some (.struct F)) (t0 : f0.type = s) (o0 : f0.offset = 0) (t1 : f1.type = i) (o1 : f1.offset = 1) (n0 : (f0.name != "_") = true) (n1 : (f1.name != "_") = true)
    (hs : P.underlying s = some .string) (hi : P.underlying i = some (.int .i64)) (ck : P.cellsOf k = 2) (cs : P.cellsOf s = 1) (ci : P.cellsOf i = 1) (ht : P.keyType k = true) (n : Nat) (hn : P.types.size = n + 1) (x : ByteArray) (y : Int) (hx : x.size ≤ maxLen) (hw : (Lit.int .i64 y).wf = true) :
    keyOf P k (.agg #[.string x, .int .i64 y]) = some (.string (keyBytes [.string x.data.toList, .int .i64 y])) := by
  subst hF
  have e0 : P.keyLits (n + 1) s [.string x] = some [.string x.data.toList] := by unfold Program.keyLits; rw [hs]; simp [hx]
  have e1 : P.keyLits (n + 1) i [.int .i64 y] = some [.int .i64 y] := by unfold Program.keyLits; rw [hi]; simp [hw]
  have e2 : P.keyLits (P.types.size + 1) k [.string x, .int .i64 y] = some [.string x.data.toList, .int .i64 y] := by
    rw [hn]
    unfold Program.keyLits
    rw [hu]
    simp [ck, n0, n1, t0, t1, o0, o1, cs, ci, e0, e1]
  have e3 : (Value.agg #[.string x, .int .i64 y]).formed P k = true := by simp [Value.formed, hu, ck]
  unfold keyOf
  rw [hu]
  simp only [ht, e3, Bool.and_self, if_true]
  have e4 : (Value.agg #[.string x, .int .i64 y]).cells.toList = [.string x, .int .i64 y] := by simp [Value.cells]
  rw [e4, e2]
  rfl

theorem laidFun : laidOutB Try.prog = true := by kernel_rfl
theorem rowFun : (105 : TypeId) < Try.prog.types.size := of_decide_eq_true (by kernel_rfl)
theorem wideFun : (match Try.prog.underlying 105 with | some (.array _ _) | some (.struct _) => true | _ => false) = true := by kernel_rfl
theorem keyAtFun : Try.prog.keyTypeAt 3 105 = true := by kernel_rfl
set_option maxRecDepth 100000 in
theorem lawFunK : WideMaps.KeyLaw Try.prog 105 := deep_law_laid laidFun (m := 3) (by decide) rowFun keyAtFun (by kernel_rfl)
theorem lawFun : Keyed Try.prog 105 := Keyed.of_law lawFunK
theorem typFun : Try.prog.keyType 105 = true := by kernel_rfl
theorem cellsFun : Try.prog.cellsOf 105 = 2 := by kernel_rfl
theorem cellsStr : Try.prog.cellsOf 9 = 1 := by kernel_rfl
theorem cellsIn : Try.prog.cellsOf 3 = 1 := by kernel_rfl

/-- A name's key. -/
def fk (f : Fun) : Lit := .string (keyBytes [.string f.1.data.toList, .int .i64 f.2])
theorem nTypes : ∃ n, Try.prog.types.size = n + 1 := by
  have h : 105 < Try.prog.types.size := rowFun
  generalize Try.prog.types.size = m at h
  exact ⟨m - 1, by omega⟩
theorem keyFun (f : Fun) (hs : f.1.size ≤ 1000000) (h0 : 0 ≤ f.2) (h1 : f.2 ≤ 1000000) : keyOf Try.prog 105 (.agg #[.string f.1, .int .i64 f.2]) = some (fk f) := by
  obtain ⟨n, hn⟩ := nTypes
  have hx : f.1.size ≤ maxLen := by unfold maxLen; omega
  have hw : (Lit.int .i64 f.2).wf = true := WalkArith.wf_i64 (by omega)
  exact keyPair Try.prog 105 9 3 _ _ _ rfl Try.underlying105 rfl rfl rfl rfl (by decide) (by decide) Try.underlying9 Try.underlying3 cellsFun cellsStr cellsIn typFun n hn f.1 f.2 hx hw
theorem fk_inj {f g : Fun} (hf : f.1.size ≤ 1000000 ∧ 0 ≤ f.2 ∧ f.2 ≤ 1000000) (hg : g.1.size ≤ 1000000 ∧ 0 ≤ g.2 ∧ g.2 ≤ 1000000) (h : fk f = fk g) : f = g := by
  have h1 := keyFun f hf.1 hf.2.1 hf.2.2
  have h2 := keyFun g hg.1 hg.2.1 hg.2.2
  rw [← h] at h2
  have := lawFun.inj h1 h2
  obtain ⟨f1, f2⟩ := f
  obtain ⟨g1, g2⟩ := g
  simpa using this

end Go.Proofs.Ytopdhjnpcpkmlaa
