/- Texts of Sz, Cell1, Cell2, Cell3. Own work of the verifier. -/
import Derived.Test.YtfgmenkoeflhaaaGreatDoorUqae
import Derived.Deep.RegionWith
namespace Go.Proofs.YtfgmenkoeflhaaaGreatDoor
open Go Go.RowKit
set_option linter.unusedVariables false
def CAt (w : World) (b o : Nat) (c : Cel) : Prop :=
 ∃ p cap, w.cell? ⟨b, o, none⟩ = some (.int .i64 c.1) ∧ w.cell? ⟨b, o + 1, none⟩ = some (.int .i64 c.2.1) ∧ w.cell? ⟨b, o + 2, none⟩ = some (.slice p c.2.2.length cap) ∧ BIn w p c.2.2
def CIn (w : World) (p : Option Addr) (cs : List Cel) : Prop :=
 0 < cs.length → ∃ b o, p = some ⟨b, o, none⟩ ∧ ∀ i, i < cs.length → CAt w b (o + i * 3) (cs.getD i Cel.none)
theorem CAt.below {W W' : World} {b o : Nat} {c : Cel} (h : CAt W b o c) (hb : Below W.heap.size W W') : CAt W' b o c := by
 obtain ⟨p, cap, h0, h1, h2, h3⟩ := h; exact ⟨p, cap, (hb.cell (World.block_lt_of_cell? _ _ h0)).trans h0, (hb.cell (World.block_lt_of_cell? _ _ h1)).trans h1, (hb.cell (World.block_lt_of_cell? _ _ h2)).trans h2, h3.below hb⟩
theorem CIn.below {W W' : World} {p : Option Addr} {cs : List Cel} (h : CIn W p cs) (hb : Below W.heap.size W W') : CIn W' p cs := fun hn => by
 obtain ⟨b, o, rfl, hc⟩ := h hn; exact ⟨b, o, rfl, fun i hi => (hc i hi).below hb⟩
theorem CIn.drewN {W : World} {p : Option Addr} {cs : List Cel} (h : CIn W p cs) (m : Nat) : CIn (W.drewN m) p cs := h
theorem infoCell : (Tryz.prog.info? 78).map (fun i => (i.zero, i.size, i.bytes)) = some (some (.agg #[.int .i64 0, .int .i64 0, .slice none 0 0]), 3, 40) := by kernel_rfl
def rcV (r : RC) : List Value := [.int .i64 r.1, .int .i64 r.2.1, .slice r.2.2.1 r.2.2.2.1 r.2.2.2.2]
def flat (rs : List RC) : List Value := rs.flatMap rcV
theorem flat_cons (r : RC) (rs : List RC) : flat (r :: rs) = .int .i64 r.1 :: .int .i64 r.2.1 :: .slice r.2.2.1 r.2.2.2.1 r.2.2.2.2 :: flat rs := rfl
theorem flat_append (a b : List RC) : flat (a ++ b) = flat a ++ flat b := List.flatMap_append
theorem flat_len : ∀ rs : List RC, (flat rs).length = rs.length * 3
 | [] => rfl
 | r :: rs => by simp only [flat_cons, List.length_cons, flat_len rs]; omega
theorem flat_at : ∀ (rs : List RC) (i : Nat), i < rs.length → (flat rs)[i * 3]? = some (.int .i64 (rs.getD i RC.zero).1) ∧ (flat rs)[i * 3 + 1]? = some (.int .i64 (rs.getD i RC.zero).2.1) ∧
 (flat rs)[i * 3 + 2]? = some (.slice (rs.getD i RC.zero).2.2.1 (rs.getD i RC.zero).2.2.2.1 (rs.getD i RC.zero).2.2.2.2)
 | [], i, h => by simp at h
 | r :: rs, 0, _ => by simp [flat_cons]
 | r :: rs, i + 1, h => by
   have := flat_at rs i (by simpa using h); rw [flat_cons, show (i + 1) * 3 = (i * 3) + 1 + 1 + 1 by omega, show (i * 3) + 1 + 1 + 1 + 1 = (i * 3 + 1) + 1 + 1 + 1 by omega, show (i * 3) + 1 + 1 + 1 + 2 = (i * 3 + 2) + 1 + 1 + 1 by omega]
   simpa using this
theorem flat_set : ∀ (rs : List RC) (i : Nat) (r : RC), i < rs.length → (((flat rs).set (i * 3) (.int .i64 r.1)).set (i * 3 + 1) (.int .i64 r.2.1)).set (i * 3 + 2) (.slice r.2.2.1 r.2.2.2.1 r.2.2.2.2) = flat (rs.set i r)
 | [], i, r, h => by simp at h
 | a :: rs, 0, r, _ => by simp [flat_cons]
 | a :: rs, i + 1, r, h => by
   have := flat_set rs i r (by simpa using h); rw [flat_cons, show (i + 1) * 3 = (i * 3) + 1 + 1 + 1 by omega, show (i * 3) + 1 + 1 + 1 + 1 = (i * 3 + 1) + 1 + 1 + 1 by omega, show (i * 3) + 1 + 1 + 1 + 2 = (i * 3 + 2) + 1 + 1 + 1 by omega]; simp only [List.set_cons_succ, this]
   rfl
def OwnC (w : World) (B : Nat) (p : Option Addr) (n c : Nat) (cs : List Cel) : Prop :=
 n = cs.length ∧ ∃ rs : List RC, rs.length = cs.length ∧ w.ownsRow B 78 3 (.slice p n c) n (flat rs) ∧ (∀ i, i < cs.length → Fits w B (rs.getD i RC.zero) (cs.getD i Cel.none)) ∧ ApartC p rs
theorem OwnC.nil (w : World) (B : Nat) : OwnC w B none 0 0 [] := ⟨rfl, [], rfl, World.ownsRow_nil _ _ _ _, fun i h => by simp at h, fun i h => by simp at h, fun i j h => by simp at h⟩
theorem OwnC.cin {w : World} {B : Nat} {p : Option Addr} {n c : Nat} {cs : List Cel} (h : OwnC w B p n c cs) : CIn w p cs := fun hn => by
 obtain ⟨rfl, rs, hl, hr, hf, _⟩ := h; obtain ⟨g, cap, hv, hb, hg⟩ := hr.form hn; simp only [Value.slice.injEq, true_and] at hv; obtain ⟨rfl, rfl⟩ := hv; refine ⟨g, 0, rfl, fun i hi => ?_⟩; obtain ⟨f0, f1, f2⟩ := hf i hi; obtain ⟨a0, a1, a2⟩ := flat_at rs i (by omega); rw [Nat.zero_add]; refine ⟨(rs.getD i RC.zero).2.2.1, (rs.getD i RC.zero).2.2.2.2, ?_, ?_, ?_, f2.bin⟩
 ·rw [hr.cellAt _ (by omega), a0, f0]
 ·rw [hr.cellAt _ (by omega), a1, f1]
 ·rw [hr.cellAt _ (by omega), a2, f2.len]
theorem OwnC.below {w w' : World} {B : Nat} {p : Option Addr} {n c : Nat} {cs : List Cel} (h : OwnC w B p n c cs) (hb : Below w.heap.size w w') : OwnC w' B p n c cs := by
 obtain ⟨rfl, rs, hl, hr, hf, ha⟩ := h; refine ⟨rfl, rs, hl, ⟨hr.1, ?_⟩, fun i hi => ⟨(hf i hi).1, (hf i hi).2.1, (hf i hi).2.2.below hb⟩, ha⟩
 rcases hr.2 with h' | ⟨g, cap, cur, hv, hB, hg, r⟩
 ·exact .inl h'
 ·exact .inr ⟨g, cap, cur, hv, hB, (hb.block g (Array.getElem?_eq_some_iff.1 hg).1).trans hg, r⟩
theorem OwnC.mono {w : World} {B B' : Nat} {p : Option Addr} {n c : Nat} {cs : List Cel} (h : OwnC w B p n c cs) (hB : B' ≤ B) : OwnC w B' p n c cs := by
 obtain ⟨hn, rs, hl, hr, hf, ha⟩ := h; exact ⟨hn, rs, hl, ownsRow_down hr hB, fun i hi => ⟨(hf i hi).1, (hf i hi).2.1, (hf i hi).2.2.mono hB⟩, ha⟩
def Laid (w : World) (H k : Nat) (rs : List RC) (cs : List Cel) : Prop :=
 rs.length = cs.length ∧ w.ownsRow H 78 3 (.slice (some ⟨H, 0, none⟩) cs.length cs.length) cs.length (flat rs) ∧ (∀ i, i < k → Fits w H (rs.getD i RC.zero) (cs.getD i Cel.none)) ∧
 (∀ i, i < k → ∃ g, (rs.getD i RC.zero).2.2.1 = some ⟨g, 0, none⟩ ∧ H < g ∧ g < w.heap.size) ∧ (∀ i j, i < k → j < k → i ≠ j → (rs.getD i RC.zero).2.2.1 ≠ (rs.getD j RC.zero).2.2.1)
theorem Laid.below {w w' : World} {H k : Nat} {rs : List RC} {cs : List Cel} (h : Laid w H k rs cs) (hb : Below w.heap.size w w') : Laid w' H k rs cs := by
 obtain ⟨hl, hr, hf, hg, ha⟩ := h; refine ⟨hl, ⟨hr.1, ?_⟩, fun i hi => ⟨(hf i hi).1, (hf i hi).2.1, (hf i hi).2.2.below hb⟩, fun i hi => ?_, ha⟩
 ·rcases hr.2 with h' | ⟨g, cap, cur, hv, hB, hg, r⟩
  ·exact .inl h'
  ·exact .inr ⟨g, cap, cur, hv, hB, (hb.block g (Array.getElem?_eq_some_iff.1 hg).1).trans hg, r⟩
 ·obtain ⟨g, e, h1, h2⟩ := hg i hi
  exact ⟨g, e, h1, Nat.lt_of_lt_of_le h2 hb.size⟩
theorem Laid.next {w : World} {H k g m B : Nat} {rs : List RC} {cs : List Cel} (h : Laid w H k rs cs) (hk : k < cs.length) (a b : Int) (ea : a = (cs.getD k Cel.none).1) (eb : b = (cs.getD k Cel.none).2.1) (hB : H < B)
 (ho : OwnS w B (some ⟨g, 0, none⟩) m m (cs.getD k Cel.none).2.2) (hnew : ∀ i, i < k → (rs.getD i RC.zero).2.2.1 ≠ some ⟨g, 0, none⟩) :
 Laid (((w.setCell ⟨H, k * 3, none⟩ (.int .i64 a)).setCell ⟨H, k * 3 + 1, none⟩ (.int .i64 b)).setCell ⟨H, k * 3 + 2, none⟩ (.slice (some ⟨g, 0, none⟩) m m)) H (k + 1) (rs.set k (a, b, some ⟨g, 0, none⟩, m, m)) cs := by
 obtain ⟨hl, hr, hf, hg, ha⟩ := h
 have hgB : B ≤ g ∧ g < w.heap.size := by
  rcases ho.form with ⟨h, _⟩ | ⟨g', h', h1, h2⟩
  ·cases h
  ·cases h'; exact ⟨h1, h2⟩
 refine ⟨by simpa using hl, ?_, fun i hi => ?_, fun i hi => ?_, fun i j hi hj hij => ?_⟩
 ·have h1 := (((hr.stored (k * 3) (.int .i64 a)).1.stored (k * 3 + 1) (.int .i64 b)).1.stored (k * 3 + 2) (.slice (some ⟨g, 0, none⟩) m m)).1
  rwa [flat_set rs k (a, b, some ⟨g, 0, none⟩, m, m) (by omega)] at h1
 ·rw [rs_set_at _ _ _ _ (by omega)]
  by_cases e : i = k
  ·subst e
   rw [if_pos rfl]; exact ⟨ea, eb, (((ho.toT.setCell (ne_block (H := H) (by omega)) _).setCell (ne_block (H := H) (by omega)) _).setCell (ne_block (H := H) (by omega)) _).mono (by omega)⟩
  ·rw [if_neg e]
   obtain ⟨f0, f1, f2⟩ := hf i (by omega); obtain ⟨g', e', h1, h2⟩ := hg i (by omega); rw [e'] at f2; rw [Fits, e']; exact ⟨f0, f1, ((f2.setCell (ne_block (H := H) (by omega)) _).setCell (ne_block (H := H) (by omega)) _).setCell (ne_block (H := H) (by omega)) _⟩
 ·rw [rs_set_at _ _ _ _ (by omega)]
  by_cases e : i = k
  ·subst e
   rw [if_pos rfl]; exact ⟨g, rfl, by omega, by simpa using hgB.2⟩
  ·rw [if_neg e]
   obtain ⟨g', e', h1, h2⟩ := hg i (by omega); exact ⟨g', e', h1, by simpa using h2⟩
 ·rw [rs_set_at _ _ _ _ (by omega), rs_set_at _ _ _ _ (by omega)]
  by_cases e : i = k
  ·rw [if_pos e, if_neg (by omega)]
   exact fun x => hnew j (by omega) x.symm
  ·by_cases e' : j = k
   ·rw [if_neg e, if_pos e']
    exact hnew i (by omega)
   ·rw [if_neg e, if_neg e']
    exact ha i j (by omega) (by omega) hij
theorem Laid.own {w : World} {H : Nat} {rs : List RC} {cs : List Cel} (h : Laid w H cs.length rs cs) : OwnC w H (some ⟨H, 0, none⟩) cs.length cs.length cs := by
 obtain ⟨hl, hr, hf, hg, ha⟩ := h; refine ⟨rfl, rs, hl, hr, hf, fun i hi _ e => ?_, fun i j hi hj hij _ _ => ha i j (by omega) (by omega) hij⟩; obtain ⟨g, e', h1, _⟩ := hg i (by omega); rw [e] at e'; simp only [Option.some.injEq, Addr.mk.injEq, and_true] at e'
 omega
end Go.Proofs.YtfgmenkoeflhaaaGreatDoor
