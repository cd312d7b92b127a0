/- Texts of AppC, VarG, Ren1, RenN. Own work of the verifier. -/
import Derived.Test.YtbnmmcegjlmdmaaGreatDoorUqah
import Derived.Test.YtbnmmcegjlmdmaaGreatDoorUqan
namespace Go.Proofs.YtbnmmcegjlmdmaaGreatDoor
open Go Go.RowKit
set_option linter.unusedVariables false
theorem rs_cat_at (a b : List RC) (i : Nat) : (a ++ b).getD i RC.zero = if i < a.length then a.getD i RC.zero else b.getD (i - a.length) RC.zero := by
  by_cases h : i < a.length
  · rw [if_pos h, List.getD, List.getD, List.getElem?_append_left h]
  · rw [if_neg h, List.getD, List.getD, List.getElem?_append_right (by omega)]
theorem cs_cat_at (a b : List Cel) (i : Nat) : (a ++ b).getD i Cel.none = if i < a.length then a.getD i Cel.none else b.getD (i - a.length) Cel.none := by
  by_cases h : i < a.length
  · rw [if_pos h, List.getD, List.getD, List.getElem?_append_left h]
  · rw [if_neg h, List.getD, List.getD, List.getElem?_append_right (by omega)]
theorem flat_one' (rs : List RC) : ∀ u ∈ flat rs, u.oneCell' = true := fun u hu => by
  obtain ⟨r, _, hr⟩ := List.mem_flatMap.1 hu
  exact rcV_one r u hr
theorem ownC_grewL {W0 w w' : World} {B g n cap cp : Nat} {p : Option Addr} {cs ds : List Cel} {rs rs2 : List RC} (hn : n = cs.length) (hl : rs.length = cs.length) (hr0 : W0.ownsRow B 43 3 (.slice p n cp) n (flat rs))
    (hf : ∀ i, i < cs.length → Fits W0 B (rs.getD i RC.zero) (cs.getD i Cel.none)) (ha : ApartC p rs) (hb0 : Below W0.heap.size W0 w) (hB : B ≤ W0.heap.size)
    (hl2 : rs2.length = ds.length) (hf2 : ∀ i, i < ds.length → Fits w W0.heap.size (rs2.getD i RC.zero) (ds.getD i Cel.none)) (ha2 : ∀ i j, i < rs2.length → j < rs2.length → i ≠ j → 0 < (rs2.getD i RC.zero).2.2.2.1 → 0 < (rs2.getD j RC.zero).2.2.2.1 → (rs2.getD i RC.zero).2.2.1 ≠ (rs2.getD j RC.zero).2.2.1)
    (hr : w'.ownsRow B 43 3 (.slice (some ⟨g, 0, none⟩) (n + ds.length) cap) (n + ds.length) (flat rs ++ flat rs2)) (hg : w.grownBy w' (Value.ownBlock (.slice p n cp))) (hat : Value.ownBlock (.slice p n cp) = some g ∨ g = w.heap.size) :
    OwnC w' B (some ⟨g, 0, none⟩) (n + ds.length) cap (cs ++ ds) := by
  have hown : ∀ k, Value.ownBlock (.slice p n cp) = some k → p = some ⟨k, 0, none⟩ ∧ k < W0.heap.size := fun k hk => by
    rcases hr0.2 with ⟨hv, _⟩ | ⟨g', cap', cur, hv, hb, hg', _⟩
    · simp only [Value.slice.injEq] at hv; rw [hv.1] at hk; simp [Value.ownBlock] at hk
    · simp only [Value.slice.injEq] at hv
      rw [hv.1] at hk ⊢
      simp [Value.ownBlock] at hk
      subst hk
      exact ⟨rfl, (Array.getElem?_eq_some_iff.1 hg').1⟩
  have hlow : ∀ i, i < cs.length → 0 < (rs.getD i RC.zero).2.2.2.1 → ∃ k, (rs.getD i RC.zero).2.2.1 = some ⟨k, 0, none⟩ ∧ k < W0.heap.size := fun i hi hp => by
    obtain ⟨k, e, _, hlt, _⟩ := (hf i hi).2.2.2 hp
    exact ⟨k, e, hlt⟩
  have hhigh : ∀ i, i < ds.length → 0 < (rs2.getD i RC.zero).2.2.2.1 → ∃ k, (rs2.getD i RC.zero).2.2.1 = some ⟨k, 0, none⟩ ∧ W0.heap.size ≤ k ∧ k < w.heap.size := fun i hi hp => by
    obtain ⟨k, e, h1, h2, _⟩ := (hf2 i hi).2.2.2 hp
    exact ⟨k, e, h1, h2⟩
  have hnewg : g < W0.heap.size ∨ g = w.heap.size := by
    rcases hat with h | h
    · exact .inl (hown g h).2
    · exact .inr h
  refine ⟨by simp; omega, rs ++ rs2, by simp; omega, by rw [flat_append]; exact hr, fun i hi => ?_, fun i hi hp => ?_, fun i j hi hj hij hpi hpj => ?_⟩
  · rw [rs_cat_at, cs_cat_at, hl]
    by_cases e : i < cs.length
    · rw [if_pos e, if_pos e]
      refine ⟨(hf i e).1, (hf i e).2.1, ((hf i e).2.2.below hb0).other hg.size (fun k hn0 e' => ?_)⟩
      obtain ⟨k', e'', h1⟩ := hlow i e hn0
      have hkk : k = k' := congrArg Addr.block (Option.some.inj (e'.symm.trans e''))
      refine hg.block k (by have := hb0.size; omega) (fun hk => ?_)
      exact ha.1 i (by omega) hn0 (by rw [e', (hown k hk.symm).1])
    · have hi' : i - cs.length < ds.length := by simp at hi; omega
      rw [if_neg e, if_neg e]
      refine ⟨(hf2 _ hi').1, (hf2 _ hi').2.1, ((hf2 _ hi').2.2.mono hB).other hg.size (fun k hn0 e' => ?_)⟩
      obtain ⟨k', e'', h1, h2⟩ := hhigh _ hi' hn0
      have hkk : k = k' := congrArg Addr.block (Option.some.inj (e'.symm.trans e''))
      refine hg.block k (by omega) (fun hk => ?_)
      have := (hown k hk.symm).2
      omega
  · rw [rs_cat_at] at hp ⊢
    by_cases e : i < rs.length
    · rw [if_pos e] at hp ⊢
      obtain ⟨k', e'', h1⟩ := hlow i (by omega) hp
      rcases hat with h | h
      · rw [← (hown g h).1]
        exact ha.1 i e hp
      · rw [e'']
        exact ne_block (by have := hb0.size; omega) hp
    · rw [if_neg e] at hp ⊢
      obtain ⟨k', e'', h1, h2⟩ := hhigh _ (by simp at hi; omega) hp
      rw [e'']
      exact ne_block (by omega) hp
  · rw [rs_cat_at] at hpi hpj ⊢
    rw [rs_cat_at]
    by_cases e : i < rs.length
    · rw [if_pos e] at hpi ⊢
      by_cases e' : j < rs.length
      · rw [if_pos e'] at hpj ⊢
        exact ha.2 i j e e' hij hpi hpj
      · rw [if_neg e'] at hpj ⊢
        obtain ⟨k', e'', h1, h2⟩ := hhigh _ (by simp at hj; omega) hpj
        obtain ⟨k2, e2, h3⟩ := hlow i (by omega) hpi
        rw [e'', e2]
        exact ne_block (by omega) hpi
    · rw [if_neg e] at hpi ⊢
      by_cases e' : j < rs.length
      · rw [if_pos e'] at hpj ⊢
        obtain ⟨k', e'', h1, h2⟩ := hhigh _ (by simp at hi; omega) hpi
        obtain ⟨k2, e2, h3⟩ := hlow j (by omega) hpj
        rw [e'', e2]
        exact ne_block (by omega) hpi
      · rw [if_neg e'] at hpj ⊢
        exact ha2 _ _ (by simp at hi; omega) (by simp at hj; omega) (by omega) hpi hpj
theorem app_cells (W0 w : World) {ops : Array Oper} {rest : List Oper} {o : Oper} {a : Act} {Q : Exit → Act → World → Prop} (hgd : o.guard = none) (s x : Operand)
    (ho : o.op = .call { callee := .builtin .append, args := #[s, x], argTypes := #[24, 24] }) (B : Nat) (p : Option Addr) (n c : Nat) (cs : List Cel)
    (hs : a.eval s = .slice p n c) (hown : OwnC W0 B p n c cs) (hb0 : Below W0.heap.size W0 w) (hB : B ≤ W0.heap.size) (q : Option Addr) (m cq : Nat) (ds : List Cel) (hx : a.eval x = .slice q m cq) (hit : OwnC w W0.heap.size q m cq ds) (hm : 0 < m) (hlen : n + m ≤ 1000000000)
    (h : ∀ g n' cap w', OwnC w' B (some ⟨g, 0, none⟩) n' cap (cs ++ ds) → Below B w w' → Hid (n' = n + m) → wpList Tryz.prog ops Q rest (a.put o.dst (.slice (some ⟨g, 0, none⟩) n' cap)) w') : wpList Tryz.prog ops Q (o :: rest) a w := by
  obtain ⟨i0, hi, hz0, hz1, hz2⟩ := info_parts infoCell
  obtain ⟨hn, rs, hl, hr, hf, ha⟩ := hown
  obtain ⟨hn2, rs2, hl2, hr2, hf2, ha2⟩ := hit
  obtain ⟨gq, cq', hv, hbq, hgq⟩ := hr2.form hm
  simp only [Value.slice.injEq, true_and] at hv
  obtain ⟨rfl, rfl⟩ := hv
  refine wpList_append_lies w hgd s x 24 ho B 43 i0 (.agg #[.int .i64 0, .int .i64 0, .slice none 0 0]) 3 40 Tryz.underlying24 hi hz0 hz1 hz2 rfl (by decide) (.slice p n c) n (flat rs) hs (row_below hr hb0) ⟨gq, 0, none⟩ m cq (flat rs2) hx (by rw [flat_len]; omega) (hr2.cells rfl) (flat_one' rs2) hm (by unfold maxLen; omega) (by omega) (Nat.le_trans hB hb0.size) w.heap.size rfl ?_
  intro g cap w' hown' hgrow hat hlt
  subst hn2
  refine h g _ cap w' (ownC_grewL hn hl hr hf ha hb0 hB hl2 hf2 ha2.2 hown' hgrow hat) ((Below.refl _ _).grown hgrow (Nat.le_trans hB hb0.size) (fun k hk => ?_)) rfl
  exact (hr.lt k hk).1
end Go.Proofs.YtbnmmcegjlmdmaaGreatDoor

namespace Go.Proofs.YtbnmmcegjlmdmaaGreatDoor
open Go Go.RowKit Go.Maps
set_option linter.unusedVariables false
end Go.Proofs.YtbnmmcegjlmdmaaGreatDoor

namespace Go.Proofs.YtbnmmcegjlmdmaaGreatDoor
open Go Go.RowKit Go.Maps
set_option linter.unusedVariables false
def Fo.map (f : Cel → Cel) : Fo → Fo
  | .nil => .nil
  | .node c k r => .node (f c) (k.map f) (r.map f)
structure RState (w : World) (nb mb : Nat) (ks : List Int) : Prop where
  ncell : w.cell? ⟨nb, 0, none⟩ = some (.map (some mb))
  map : NumMap w mb ks
theorem RState.ne {w : World} {nb mb : Nat} {ks : List Int} (h : RState w nb mb ks) : nb ≠ mb := fun e => by
  obtain ⟨D, ⟨es, clock, hb, _⟩, _⟩ := h.map
  have := h.ncell
  rw [e] at this
  simp [World.cell?, hb] at this
theorem RState.below {w w' : World} {nb mb : Nat} {ks : List Int} (h : RState w nb mb ks) (hb : Below w.heap.size w w') : RState w' nb mb ks :=
  ⟨(hb.cell (World.block_lt_of_cell? _ _ h.ncell)).trans h.ncell, h.map.of_block (hb.block _ h.map.lt)⟩
theorem FoIn.kept {w w' : World} {B mb : Nat} {F : Fo} {vs : List Value} (h : FoIn w B F vs) (hg : w.grownBy w' (some mb)) (hm : mb < B) : FoIn w' B F vs :=
  FoIn.imp (Nat.le_refl _) (fun b o hb hlt => World.cell?_of_block (w := w) (a := ⟨b, o, none⟩) (hg.block b hlt (fun e => by have := Option.some.inj e; omega))) hg.size F vs h
end Go.Proofs.YtbnmmcegjlmdmaaGreatDoor

namespace Go.Proofs.YtbnmmcegjlmdmaaGreatDoor
open Go Go.RowKit Go.Maps
set_option linter.unusedVariables false
end Go.Proofs.YtbnmmcegjlmdmaaGreatDoor

