/- The names of the map, collected. Own work of the verifier. -/
import Derived.Maps.RangeWalk
import Derived.Test.YtopdhjnpcpkmlaaCmp12
namespace Go.Proofs.Ytopdhjnpcpkmlaa
open Go Go.RowKit Go.Maps
set_option linter.unusedVariables false

theorem keyStr_inv {P : Program} {s : TypeId} (hs : P.underlying s = some .string) {n : Nat} {cs : List Value} {L : List Lit} (h : P.keyLits (n + 1) s cs = some L) : ∃ x, cs = [.string x] := by
  unfold Program.keyLits at h
  rw [hs] at h
  match cs, h with
  | [.string x], _ => exact ⟨x, rfl⟩
theorem keyInt_inv {P : Program} {s : TypeId} (hs : P.underlying s = some (.int .i64)) {n : Nat} {cs : List Value} {L : List Lit} (h : P.keyLits (n + 1) s cs = some L) : ∃ x, cs = [.int .i64 x] := by
  unfold Program.keyLits at h
  rw [hs] at h
  match cs, h with
  | [.int q x], h =>
    simp only at h
    split at h
    · rename_i hq; exact ⟨x, by rw [hq.1]⟩
    · cases h
theorem keyPair_inv (P : Program) (k s i : TypeId) (F : Array Field) (f0 f1 : Field) (hF : F = #[f0, f1]) (hu : P.underlying k = some (.struct F)) (t0 : f0.type = s) (o0 : f0.offset = 0) (t1 : f1.type = i) (o1 : f1.offset = 1) (n0 : (f0.name != "_") = true) (n1 : (f1.name != "_") = true)
    (hs : P.underlying s = some .string) (hi : P.underlying i = some (.int .i64)) (ck : P.cellsOf k = 2) (cs : P.cellsOf s = 1) (ci : P.cellsOf i = 1) (n : Nat) (hn : P.types.size = n + 1) {v : Value} {l : Lit} (h : keyOf P k v = some l) :
    ∃ (x : ByteArray) (y : Int), v = .agg #[.string x, .int .i64 y] := by
  subst hF
  have hwide : (match P.underlying k with | some (.array _ _) | some (.struct _) => true | _ => false) = true := by rw [hu]
  obtain ⟨xs, L, rfl, h1, _⟩ := keyOf_top hwide h
  obtain ⟨xl⟩ := xs
  rw [hn] at h1
  unfold Program.keyLits at h1
  rw [hu] at h1
  simp only [ck] at h1
  split at h1
  · rename_i hl
    obtain ⟨a, b, rfl⟩ : ∃ a b, xl = [a, b] := by
      match xl, hl.1 with
      | [a, b], _ => exact ⟨a, b, rfl⟩
    simp only [t0, t1, o0, o1, cs, ci, List.drop_zero, List.take_succ_cons, List.take_zero, List.drop_succ_cons, List.mapM_cons, List.mapM_nil, Option.pure_def, Option.bind_eq_bind] at h1
    cases e0 : P.keyLits (n + 1) s [a] with
    | none => simp [e0] at h1
    | some L0 =>
      cases e1 : P.keyLits (n + 1) i [b] with
      | none => simp [e0, e1] at h1
      | some L1 =>
        obtain ⟨x, hx⟩ := keyStr_inv hs e0
        obtain ⟨y, hy⟩ := keyInt_inv hi e1
        simp only [List.cons.injEq, and_true] at hx hy
        exact ⟨x, y, by rw [hx, hy]⟩
  · cases h1
theorem keyFun_inv (key : Value) (kl : Lit) (h : keyOf Try.prog 105 key = some kl) : ∃ x : Fun, key = .agg #[.string x.1, .int .i64 x.2] := by
  obtain ⟨n, hn⟩ := nTypes
  obtain ⟨x, y, h⟩ := keyPair_inv Try.prog 105 9 3 _ _ _ rfl Try.underlying105 rfl rfl rfl rfl (by decide) (by decide) Try.underlying9 Try.underlying3 cellsFun cellsStr cellsIn n hn h
  exact ⟨(x, y), h⟩

end Go.Proofs.Ytopdhjnpcpkmlaa
