/- Places that are all distinct, told by one pass. Own work of the verifier. -/
import Derived.Test.YtdmmchoicngblaaGreatDoorRows
import Derived.LaidByTextLater
namespace Go.Proofs.YtdmmchoicngblaaGreatDoor
open Go
set_option linter.unusedVariables false
def okFrom (seen : List Nat) (b o : Nat) : List MemPlace → Bool
 | [] => true
 | .cell b' o' :: r => bif Nat.beq b' b then Nat.blt o o' && okFrom seen b o' r else (seen.all fun x => !Nat.beq b' x) && okFrom (b' :: seen) b' o' r
 | .map _ :: _ => false
def okAll : List MemPlace → Bool
 | [] => true
 | .cell b o :: r => okFrom [b] b o r
 | .map _ :: _ => false
theorem okFrom_spec : ∀ (ps : List MemPlace) (seen : List Nat) (b o : Nat), okFrom seen b o ps = true → b ∈ seen → ps.Nodup ∧ ∀ x ∈ ps, ∃ b' o', x = .cell b' o' ∧ ((b' = b ∧ o < o') ∨ b' ∉ seen)
 | [], seen, b, o, _, _ => ⟨List.nodup_nil, fun x hx => by cases hx⟩
 | .map _ :: r, seen, b, o, h, _ => by simp [okFrom] at h
 | .cell b' o' :: r, seen, b, o, h, hb => by
   unfold okFrom at h
   cases hq : Nat.beq b' b with
   | true =>
     rw [hq] at h; simp only [cond_true, Bool.and_eq_true] at h; obtain ⟨h1, h2⟩ := h; have e : b' = b := Nat.eq_of_beq_eq_true hq; subst e
     have hlt : o < o' := by simpa [Nat.blt_eq] using h1
     obtain ⟨n, hx⟩ := okFrom_spec r seen b' o' h2 hb; refine ⟨List.nodup_cons.2 ⟨fun hm => ?_, n⟩, fun x hm => ?_⟩
     ·obtain ⟨b2, o2, e, hh⟩ := hx _ hm
      simp only [MemPlace.cell.injEq] at e; obtain ⟨rfl, rfl⟩ := e
      rcases hh with ⟨_, hh⟩ | hh
      ·omega
      ·exact hh hb
     ·rcases List.mem_cons.1 hm with rfl | hm
      ·exact ⟨b', o', rfl, .inl ⟨rfl, hlt⟩⟩
      ·obtain ⟨b2, o2, e, hh⟩ := hx _ hm
       refine ⟨b2, o2, e, ?_⟩
       rcases hh with ⟨e2, hh⟩ | hh
       ·exact .inl ⟨e2, by omega⟩
       ·exact .inr hh
   | false =>
     rw [hq] at h; simp only [cond_false, Bool.and_eq_true, List.all_eq_true, Bool.not_eq_true'] at h; obtain ⟨h1, h2⟩ := h
     have hns : b' ∉ seen := fun hm => by
      have := h1 b' hm; rw [Nat.beq_refl] at this
      cases this
     obtain ⟨n, hx⟩ := okFrom_spec r (b' :: seen) b' o' h2 (List.mem_cons_self ..); refine ⟨List.nodup_cons.2 ⟨fun hm => ?_, n⟩, fun x hm => ?_⟩
     ·obtain ⟨b2, o2, e, hh⟩ := hx _ hm
      simp only [MemPlace.cell.injEq] at e; obtain ⟨rfl, rfl⟩ := e
      rcases hh with ⟨_, hh⟩ | hh
      ·omega
      ·exact hh (List.mem_cons_self ..)
     ·rcases List.mem_cons.1 hm with rfl | hm
      ·exact ⟨b', o', rfl, .inr hns⟩
      ·obtain ⟨b2, o2, e, hh⟩ := hx _ hm
       refine ⟨b2, o2, e, .inr ?_⟩
       rcases hh with ⟨e2, _⟩ | hh
       ·rw [e2]; exact hns
       ·exact fun hm => hh (List.mem_cons_of_mem _ hm)
theorem okAll_nodup {ps : List MemPlace} (h : okAll ps = true) : ps.Nodup := by
 match ps, h with
 | [], _ => exact List.nodup_nil
 | .map _ :: _, h => simp [okAll] at h
 | .cell b o :: r, h =>
   obtain ⟨n, hx⟩ := okFrom_spec r [b] b o h (List.mem_singleton.2 rfl); refine List.nodup_cons.2 ⟨fun hm => ?_, n⟩; obtain ⟨b2, o2, e, hh⟩ := hx _ hm; simp only [MemPlace.cell.injEq] at e; obtain ⟨rfl, rfl⟩ := e
   rcases hh with ⟨_, hh⟩ | hh
   ·omega
   ·exact hh (List.mem_singleton.2 rfl)
theorem nodup_quick {α : Type} {R : Option (α × List MemPlace)} {f : List MemPlace → Bool} (h : R.map (fun x => okAll x.2 && f x.2) = some true) : R.map (fun x => decide x.2.Nodup && f x.2) = some true := by
 cases R with
 | none => cases h
 | some x =>
   simp only [Option.map_some, Option.some.injEq, Bool.and_eq_true] at h ⊢; exact ⟨decide_eq_true (okAll_nodup h.1), h.2⟩
end Go.Proofs.YtdmmchoicngblaaGreatDoor
