/- Texts of WtQ. Own work of the verifier. -/
import Derived.Test.YtfgmenkoeflhaaaGreatDoorUqau
namespace Go.Proofs.YtfgmenkoeflhaaaGreatDoor
open Go Go.RowKit
set_option linter.unusedVariables false
theorem rowW_at {w : World} {B m mc : Nat} {q : Option Addr} {rs : List (Option Addr × Nat × Nat)} {ts : List Tr} {w0 : World} (hr : w.ownsRow B 46 1 (.slice q m mc) m (rs.map slV)) (hm : m = ts.length) (ha : ArgRowU w0 rs ts) : ArgsW w0 w q m ts := by
 refine ⟨hm, fun h0 => ?_⟩; obtain ⟨g, cap, hv, hB, _⟩ := hr.form h0
 cases hv
 refine ⟨g, rfl, fun i t hi => ?_⟩
 have hlt : i < m := by rw [hm]; exact (List.getElem?_eq_some_iff.1 hi).1
 have hc := hr.cellAt i (by omega)
 have key : ∀ (rs : List (Option Addr × Nat × Nat)) (ts : List Tr) (i : Nat), ArgRowU w0 rs ts → ts[i]? = some t → ∃ r, rs[i]? = some r ∧ r.2.1 = 1 + t.2.cells.length ∧ r.2.1 ≤ r.2.2 ∧ r.2.2 ≤ 9223372036854775807 ∧ CIn w0 r.1 (t.1 :: t.2.cells) := by
  intro rs
  induction rs with
  | nil =>
    intro ts i ha hi
    cases ts with
    | nil => cases hi
    | cons t ts => exact ha.elim
  | cons r rs ih =>
    intro ts i ha hi
    cases ts with
    | nil => cases hi
    | cons t' ts =>
      cases i with
      | zero =>
        simp only [List.getElem?_cons_zero, Option.some.injEq] at hi; subst hi; exact ⟨r, rfl, ha.1, ha.2.1, ha.2.2.1, ha.2.2.2.1⟩
      | succ i => exact ih ts i ha.2.2.2.2 (by simpa using hi)
 obtain ⟨⟨pq, nq, cq⟩, h1, h2, h3, h4, h5⟩ := key rs ts i ha hi; refine ⟨pq, nq, cq, ?_, by simp only [itC, List.length_cons]; simp only at h2; omega, h3, h4, h5⟩; rw [hc, List.getElem?_map, h1]; rfl
theorem argsW_any (W0 w : World) (hW : Below W0.heap.size W0 w) (t : Tr) (q : Option Addr) (n c : Nat) (h3 : t.1.1 = 3) (ht : t.fo.ok) (hl : (itC t).length ≤ 2000) (hin : TW W0 q n c t) :
 Calls Tryz.prog 97 #[.slice q n c] w fun e w' => ∃ p m mc, e = .returned (.slice p m mc) ∧ ArgsW W0 w' p m (trs t.2) ∧ Below w.heap.size w w' := by
 obtain ⟨cl, k⟩ := t; refine (l2argsU_any cl k q n c W0 w hW h3 ht hin.1 (by rw [hin.1]; exact hl) hin.2.1 hin.2.2.1 hin.2.2.2).mono ?_; rintro e w' ⟨p, m, mc, rs, rfl, hm, hrow, harg, hb⟩; exact ⟨p, m, mc, rfl, rowW_at hrow (by rw [hm, trs_len]) harg, hb⟩
end Go.Proofs.YtfgmenkoeflhaaaGreatDoor
