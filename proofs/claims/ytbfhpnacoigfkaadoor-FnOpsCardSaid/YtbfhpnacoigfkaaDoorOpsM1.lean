/- The map of operators: its keys and its elements. Own work of the verifier. -/
import Derived.Test.YtbfhpnacoigfkaaDoorKeyP
import Derived.Test.YtbfhpnacoigfkaaDoorOpsP
namespace Go.Proofs.YtbfhpnacoigfkaaDoor
open Go Go.RowKit Go.Maps
set_option linter.unusedVariables false

/-- A name and a sort. -/
abbrev OKey := ByteArray × Int
theorem laidOk : laidOutB Tryd.prog = true := by kernel_rfl
theorem rowOk : (69 : TypeId) < Tryd.prog.types.size := of_decide_eq_true (by kernel_rfl)
theorem wideOk : (match Tryd.prog.underlying 69 with | some (.array _ _) | some (.struct _) => true | _ => false) = true := by kernel_rfl
theorem keyAtOk : Tryd.prog.keyTypeAt 3 69 = true := by kernel_rfl
set_option maxRecDepth 100000 in
theorem lawOkK : WideMaps.KeyLaw Tryd.prog 69 := deep_law_laid laidOk (m := 3) (by decide) rowOk keyAtOk (by kernel_rfl)
theorem lawOk : Keyed Tryd.prog 69 := Keyed.of_law lawOkK
theorem typOk : Tryd.prog.keyType 69 = true := by kernel_rfl
theorem cellsOk : Tryd.prog.cellsOf 69 = 2 := by kernel_rfl
theorem cellsStrO : Tryd.prog.cellsOf 9 = 1 := by kernel_rfl
theorem cellsSrt : Tryd.prog.cellsOf 67 = 1 := by kernel_rfl

/-- A name's key. -/
def okk (f : OKey) : Lit := .string (keyBytes [.string f.1.data.toList, .int .i64 f.2])
theorem nTypesO : ∃ n, Tryd.prog.types.size = n + 1 := by
  have h : 69 < Tryd.prog.types.size := rowOk
  generalize Tryd.prog.types.size = m at h
  exact ⟨m - 1, by omega⟩
theorem keyOk (f : OKey) (hs : f.1.size ≤ 1000000) (h0 : 0 ≤ f.2) (h1 : f.2 ≤ 1000000) : keyOf Tryd.prog 69 (.agg #[.string f.1, .int .i64 f.2]) = some (okk f) := by
  obtain ⟨n, hn⟩ := nTypesO
  have hx : f.1.size ≤ maxLen := by unfold maxLen; omega
  have hw : (Lit.int .i64 f.2).wf = true := WalkArith.wf_i64 (by omega)
  exact keyPair Tryd.prog 69 9 67 _ _ _ rfl Tryd.underlying69 rfl rfl rfl rfl (by decide) (by decide) Tryd.underlying9 Tryd.underlying67 cellsOk cellsStrO cellsSrt typOk n hn f.1 f.2 hx hw
theorem ok_inj {f g : OKey} (hf : f.1.size ≤ 1000000 ∧ 0 ≤ f.2 ∧ f.2 ≤ 1000000) (hg : g.1.size ≤ 1000000 ∧ 0 ≤ g.2 ∧ g.2 ≤ 1000000) (h : okk f = okk g) : f = g := by
  have h1 := keyOk f hf.1 hf.2.1 hf.2.2
  have h2 := keyOk g hg.1 hg.2.1 hg.2.2
  rw [← h] at h2
  have := lawOk.inj h1 h2
  obtain ⟨f1, f2⟩ := f
  obtain ⟨g1, g2⟩ := g
  simpa using this
theorem keyOk_inv (key : Value) (kl : Lit) (h : keyOf Tryd.prog 69 key = some kl) : ∃ x : OKey, key = .agg #[.string x.1, .int .i64 x.2] := by
  obtain ⟨n, hn⟩ := nTypesO
  obtain ⟨x, y, h⟩ := keyPair_inv Tryd.prog 69 9 67 _ _ _ rfl Tryd.underlying69 rfl rfl rfl rfl (by decide) (by decide) Tryd.underlying9 Tryd.underlying67 cellsOk cellsStrO cellsSrt n hn h
  exact ⟨(x, y), h⟩

end Go.Proofs.YtbfhpnacoigfkaaDoor
