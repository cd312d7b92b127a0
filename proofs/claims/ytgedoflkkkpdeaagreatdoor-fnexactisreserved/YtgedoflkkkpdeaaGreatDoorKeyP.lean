/- Keys that are structs of a string and a number. Own work of the verifier. -/
import Derived.Maps.OwnSet
import Derived.Maps.OwnOps
import Derived.Maps.RangeWalk
import Derived.DeepKeys4
import Derived.Test.YtgedoflkkkpdeaaGreatDoorPre
namespace Go.Proofs.YtgedoflkkkpdeaaGreatDoor
open Go Go.RowKit Go.Maps
set_option linter.unusedVariables false

/-- The key of a struct of a string and a number. -/
theorem keyPair (P : Program) (k s i : TypeId) (F : Array Field) (f0 f1 : Field) (hF : F = #[f0, f1]) (hu : P.underlying k = some (.struct F)) (t0 : f0.type = s) (o0 : f0.offset = 0) (t1 : f1.type = i) (o1 : f1.offset = 1) (n0 : (f0.name != "_") = true) (n1 : (f1.name != "_") = true)
    (hs : P.underlying s = some .string) (hi : P.underlying i = some (.int .i64)) (ck : P.cellsOf k = 2) (cs : P.cellsOf s = 1) (ci : P.cellsOf i = 1) (ht : P.keyType k = true) (n : Nat) (hn : P.types.size = n + 1) (x : ByteArray) (y : Int) (hx : x.size ≤ maxLen) (hw : (Lit.int .i64 y).wf = true) :
    keyOf P k (.agg #[.string x, .int .i64 y]) = some (.string (keyBytes [.string x.data.toList, .int .i64 y])) := by
  subst hF
  have e0 : P.keyLits (n + 1) s [.string x] = some [.string x.data.toList] := by unfold Program.keyLits; rw [hs]; simp [hx]
  have e1 : P.keyLits (n + 1) i [.int .i64 y] = some [.int .i64 y] := by unfold Program.keyLits; rw [hi]; simp [hw]
  have e2 : P.keyLits (P.types.size + 1) k [.string x, .int .i64 y] = some [.string x.data.toList, .int .i64 y] := by
    rw [hn]
    unfold Program.keyLits
    rw [hu]
    simp [ck, n0, n1, t0, t1, o0, o1, cs, ci, e0, e1]
  have e3 : (Value.agg #[.string x, .int .i64 y]).formed P k = true := by simp [Value.formed, hu, ck]
  unfold keyOf
  rw [hu]
  simp only [ht, e3, Bool.and_self, if_true]
  have e4 : (Value.agg #[.string x, .int .i64 y]).cells.toList = [.string x, .int .i64 y] := by simp [Value.cells]
  rw [e4, e2]
  rfl

theorem keyStr_inv {P : Program} {s : TypeId} (hs : P.underlying s = some .string) {n : Nat} {cs : List Value} {L : List Lit} (h : P.keyLits (n + 1) s cs = some L) : ∃ x, cs = [.string x] := by
  unfold Program.keyLits at h
  rw [hs] at h
  match cs, h with
  | [.string x], _ => exact ⟨x, rfl⟩
theorem keyInt_inv {P : Program} {s : TypeId} (hs : P.underlying s = some (.int .i64)) {n : Nat} {cs : List Value} {L : List Lit} (h : P.keyLits (n + 1) s cs = some L) : ∃ x, cs = [.int .i64 x] := by
  unfold Program.keyLits at h
  rw [hs] at h
  match cs, h with
  | [.int q x], h =>
    simp only at h
    split at h
    · rename_i hq; exact ⟨x, by rw [hq.1]⟩
    · cases h
theorem keyPair_inv (P : Program) (k s i : TypeId) (F : Array Field) (f0 f1 : Field) (hF : F = #[f0, f1]) (hu : P.underlying k = some (.struct F)) (t0 : f0.type = s) (o0 : f0.offset = 0) (t1 : f1.type = i) (o1 : f1.offset = 1) (n0 : (f0.name != "_") = true) (n1 : (f1.name != "_") = true)
    (hs : P.underlying s = some .string) (hi : P.underlying i = some (.int .i64)) (ck : P.cellsOf k = 2) (cs : P.cellsOf s = 1) (ci : P.cellsOf i = 1) (n : Nat) (hn : P.types.size = n + 1) {v : Value} {l : Lit} (h : keyOf P k v = some l) :
    ∃ (x : ByteArray) (y : Int), v = .agg #[.string x, .int .i64 y] := by
  subst hF
  have hwide : (match P.underlying k with | some (.array _ _) | some (.struct _) => true | _ => false) = true := by rw [hu]
  obtain ⟨xs, L, rfl, h1, _⟩ := keyOf_top hwide h
  obtain ⟨xl⟩ := xs
  rw [hn] at h1
  unfold Program.keyLits at h1
  rw [hu] at h1
  simp only [ck] at h1
  split at h1
  · rename_i hl
    obtain ⟨a, b, rfl⟩ : ∃ a b, xl = [a, b] := by
      match xl, hl.1 with
      | [a, b], _ => exact ⟨a, b, rfl⟩
    simp only [t0, t1, o0, o1, cs, ci, List.drop_zero, List.take_succ_cons, List.take_zero, List.drop_succ_cons, List.mapM_cons, List.mapM_nil, Option.pure_def, Option.bind_eq_bind] at h1
    cases e0 : P.keyLits (n + 1) s [a] with
    | none => simp [e0] at h1
    | some L0 =>
      cases e1 : P.keyLits (n + 1) i [b] with
      | none => simp [e0, e1] at h1
      | some L1 =>
        obtain ⟨x, hx⟩ := keyStr_inv hs e0
        obtain ⟨y, hy⟩ := keyInt_inv hi e1
        simp only [List.cons.injEq, and_true] at hx hy
        exact ⟨x, y, by rw [hx, hy]⟩
  · cases h1

end Go.Proofs.YtgedoflkkkpdeaaGreatDoor
