/- Cells put behind cells: append onto a slice of cells of the call's own; a string's bytes. Own work of the verifier. -/
import Derived.Test.YtpcmfdbcjegbcaaGreatDoorTree2
import Derived.Lib.ConvBytes
namespace Go.Proofs.YtpcmfdbcjegbcaaGreatDoor
open Go Go.RowKit
set_option linter.unusedVariables false

theorem flat_one (r : RC) : flat [r] = rcV r := by simp [flat]



/-- Behind an append of one cell. -/
theorem ownC_grew {W0 w w' : World} {B g n cap cp : Nat} {p : Option Addr} {cs : List Cel} {rs : List RC} (hn : n = cs.length) (hl : rs.length = cs.length) (hr0 : W0.ownsRow B 39 3 (.slice p n cp) n (flat rs))
    (hf : ∀ i, i < cs.length → Fits W0 B (rs.getD i RC.zero) (cs.getD i Cel.none)) (ha : ApartC p rs) (hb0 : Below W0.heap.size W0 w) (hB : B ≤ W0.heap.size)
    {kd nn : Int} {tp : Option Addr} {tn tc : Nat} {t : List Int} (ht : OwnT w W0.heap.size tp tn tc t)
    (hr : w'.ownsRow B 39 3 (.slice (some ⟨g, 0, none⟩) (n + 1) cap) (n + 1) (flat rs ++ rcV (kd, nn, tp, tn, tc))) (hg : w.grownBy w' (Value.ownBlock (.slice p n cp))) (hat : Value.ownBlock (.slice p n cp) = some g ∨ g = w.heap.size) :
    OwnC w' B (some ⟨g, 0, none⟩) (n + 1) cap (cs ++ [(kd, nn, t)]) := by
  have hown : ∀ k, Value.ownBlock (.slice p n cp) = some k → p = some ⟨k, 0, none⟩ ∧ k < W0.heap.size := fun k hk => by
    rcases hr0.2 with ⟨hv, _⟩ | ⟨g', cap', cur, hv, hb, hg', _⟩
    · simp only [Value.slice.injEq] at hv; rw [hv.1] at hk; simp [Value.ownBlock] at hk
    · simp only [Value.slice.injEq] at hv
      rw [hv.1] at hk ⊢
      simp [Value.ownBlock] at hk
      subst hk
      exact ⟨rfl, (Array.getElem?_eq_some_iff.1 hg').1⟩
  have hold : ∀ i, i < cs.length → OwnT w B (rs.getD i RC.zero).2.2.1 (rs.getD i RC.zero).2.2.2.1 (rs.getD i RC.zero).2.2.2.2 (cs.getD i Cel.none).2.2 := fun i hi => (hf i hi).2.2.below hb0
  have hlow : ∀ i, i < cs.length → 0 < (rs.getD i RC.zero).2.2.2.1 → ∃ k, (rs.getD i RC.zero).2.2.1 = some ⟨k, 0, none⟩ ∧ k < W0.heap.size := fun i hi hp => by
    obtain ⟨k, e, _, hlt, _⟩ := (hf i hi).2.2.2 hp
    exact ⟨k, e, hlt⟩
  have hhigh : 0 < tn → ∃ k, tp = some ⟨k, 0, none⟩ ∧ W0.heap.size ≤ k ∧ k < w.heap.size := fun hp => by
    obtain ⟨k, e, h1, h2, _⟩ := ht.2 hp
    exact ⟨k, e, h1, h2⟩
  have hnewg : g < W0.heap.size ∨ g = w.heap.size := by
    rcases hat with h | h
    · exact .inl (hown g h).2
    · exact .inr h
  refine ⟨by simp; omega, rs ++ [(kd, nn, tp, tn, tc)], by simp; omega, by rw [flat_append, flat_one]; exact hr, fun i hi => ?_, fun i hi hp => ?_, fun i j hi hj hij hpi hpj => ?_⟩
  · have hi' : i ≤ cs.length := by simp at hi; omega
    rw [rs_append_at _ _ _ (by omega), cs_append_at _ _ _ hi']
    by_cases e : i = cs.length
    · rw [if_pos (by omega), if_pos e]
      refine ⟨rfl, rfl, (ht.mono hB).other hg.size (fun k hn0 e' => ?_)⟩
      obtain ⟨k', e'', h1, h2⟩ := hhigh hn0
      have hkk : k = k' := by
        have := e'.symm.trans e''
        exact congrArg Addr.block (Option.some.inj this)
      refine hg.block k (by omega) (fun hk => ?_)
      have := (hown k hk.symm).2
      omega
    · rw [if_neg (by omega), if_neg e]
      refine ⟨(hf i (by omega)).1, (hf i (by omega)).2.1, (hold i (by omega)).other hg.size (fun k hn0 e' => ?_)⟩
      obtain ⟨k', e'', h1⟩ := hlow i (by omega) hn0
      have hkk : k = k' := congrArg Addr.block (Option.some.inj (e'.symm.trans e''))
      refine hg.block k (by have := hb0.size; omega) (fun hk => ?_)
      exact ha.1 i (by omega) hn0 (by rw [e', (hown k hk.symm).1])
  · have hi' : i ≤ rs.length := by simp at hi; omega
    rw [rs_append_at _ _ _ hi'] at hp ⊢
    by_cases e : i = rs.length
    · rw [if_pos e] at hp ⊢
      obtain ⟨k', e'', h1, h2⟩ := hhigh hp
      rw [show ((kd, nn, tp, tn, tc) : RC).2.2.1 = tp from rfl, e'']
      exact ne_block (by omega) hp
    · rw [if_neg e] at hp ⊢
      obtain ⟨k', e'', h1⟩ := hlow i (by omega) hp
      rcases hat with h | h
      · rw [← (hown g h).1]
        exact ha.1 i (by omega) hp
      · rw [e'']
        exact ne_block (by have := hb0.size; omega) hp
  · have hi' : i ≤ rs.length := by simp at hi; omega
    have hj' : j ≤ rs.length := by simp at hj; omega
    rw [rs_append_at _ _ _ hi'] at hpi ⊢
    rw [rs_append_at _ _ _ hj'] at hpj ⊢
    by_cases e : i = rs.length
    · rw [if_pos e] at hpi ⊢
      rw [if_neg (by omega)] at hpj ⊢
      obtain ⟨k', e'', h1, h2⟩ := hhigh hpi
      obtain ⟨k2, e2, h3⟩ := hlow j (by omega) hpj
      rw [show ((kd, nn, tp, tn, tc) : RC).2.2.1 = tp from rfl, e'', e2]
      exact ne_block (by omega) hpi
    · rw [if_neg e] at hpi ⊢
      by_cases e' : j = rs.length
      · rw [if_pos e'] at hpj ⊢
        obtain ⟨k', e'', h1, h2⟩ := hhigh hpj
        obtain ⟨k2, e2, h3⟩ := hlow i (by omega) hpi
        rw [show ((kd, nn, tp, tn, tc) : RC).2.2.1 = tp from rfl, e'', e2]
        exact ne_block (by omega) hpi
      · rw [if_neg e'] at hpj ⊢
        exact ha.2 i j (by omega) (by omega) hij hpi hpj

theorem rcV_one (r : RC) : ∀ u ∈ rcV r, u.oneCell' = true := fun u hu => by
  simp [rcV] at hu
  rcases hu with rfl | rfl | rfl <;> rfl

/-- append of one cell onto a slice of cells of the call's own. -/
theorem app_cell (W0 w : World) {ops : Array Oper} {rest : List Oper} {o : Oper} {a : Act} {Q : Exit → Act → World → Prop} (hgd : o.guard = none) (s x : Operand)
    (ho : o.op = .call { callee := .builtin .append, args := #[s, x], argTypes := #[24, 24] }) (B : Nat) (p : Option Addr) (n c : Nat) (cs : List Cel)
    (hs : a.eval s = .slice p n c) (hown : OwnC W0 B p n c cs) (hb0 : Below W0.heap.size W0 w) (hB : B ≤ W0.heap.size) (ad : Addr) (c' : Nat) (hx : a.eval x = .slice (some ad) 1 c') (kd nn : Int) (tp : Option Addr) (tn tc : Nat) (t : List Int)
    (ht : OwnT w W0.heap.size tp tn tc t) (hnews : ∀ j u, (rcV (kd, nn, tp, tn, tc))[j]? = some u → w.cell? (ad.add j) = some u) (hlen : n + 1 ≤ 1000000000)
    (h : ∀ g n' cap w', OwnC w' B (some ⟨g, 0, none⟩) n' cap (cs ++ [(kd, nn, t)]) → Below B w w' → Hid (n' = n + 1) → wpList Tryz.prog ops Q rest (a.put o.dst (.slice (some ⟨g, 0, none⟩) n' cap)) w') : wpList Tryz.prog ops Q (o :: rest) a w := by
  obtain ⟨i0, hi, hz0, hz1, hz2⟩ := info_parts infoCell
  obtain ⟨hn, rs, hl, hr, hf, ha⟩ := hown
  refine wpList_append_lies w hgd s x 24 ho B 39 i0 (.agg #[.int .i64 0, .int .i64 0, .slice none 0 0]) 3 40 Tryz.underlying24 hi hz0 hz1 hz2 rfl (by decide) (.slice p n c) n (flat rs) hs (row_below hr hb0) ad 1 c' (rcV (kd, nn, tp, tn, tc)) hx rfl hnews (rcV_one _) (by decide) (by unfold maxLen; omega) (by omega) (Nat.le_trans hB hb0.size) w.heap.size rfl ?_
  intro g cap w' hown' hgrow hat hlt
  refine h g _ cap w' (ownC_grew hn hl hr hf ha hb0 hB ht hown' hgrow hat) ((Below.refl _ _).grown hgrow (Nat.le_trans hB hb0.size) (fun k hk => ?_)) rfl
  exact (hr.lt k hk).1

/-- The same at a step of a region that draws its order. -/
theorem step_app_cell (W0 w : World) {ops : Array Oper} {o : Oper} {a : Act} {K : Act → World → Prop} {Q : Exit → Act → World → Prop} {E : Prop} (hgd : o.guard = none) (s x : Operand)
    (ho : o.op = .call { callee := .builtin .append, args := #[s, x], argTypes := #[24, 24] }) (B : Nat) (p : Option Addr) (n c : Nat) (cs : List Cel)
    (hs : a.eval s = .slice p n c) (hown : OwnC W0 B p n c cs) (hb0 : Below W0.heap.size W0 w) (hB : B ≤ W0.heap.size) (ad : Addr) (c' : Nat) (hx : a.eval x = .slice (some ad) 1 c') (kd nn : Int) (tp : Option Addr) (tn tc : Nat) (t : List Int)
    (ht : OwnT w W0.heap.size tp tn tc t) (hnews : ∀ j u, (rcV (kd, nn, tp, tn, tc))[j]? = some u → w.cell? (ad.add j) = some u) (hlen : n + 1 ≤ 1000000000)
    (h : ∀ g n' cap w', OwnC w' B (some ⟨g, 0, none⟩) n' cap (cs ++ [(kd, nn, t)]) → Below B w w' → Hid (n' = n + 1) → K (a.put o.dst (.slice (some ⟨g, 0, none⟩) n' cap)) w') :
    if Region.wanted o (yielded ops a.tmps) = true then Oper.wp Tryz.prog o a w K Q else E := by
  obtain ⟨i0, hi, hz0, hz1, hz2⟩ := info_parts infoCell
  obtain ⟨hn, rs, hl, hr, hf, ha⟩ := hown
  refine step_append_lies w hgd s x 24 ho B 39 i0 (.agg #[.int .i64 0, .int .i64 0, .slice none 0 0]) 3 40 Tryz.underlying24 hi hz0 hz1 hz2 rfl (by decide) (.slice p n c) n (flat rs) hs (row_below hr hb0) ad 1 c' (rcV (kd, nn, tp, tn, tc)) hx rfl hnews (rcV_one _) (by decide) (by unfold maxLen; omega) (by omega) (Nat.le_trans hB hb0.size) w.heap.size rfl ?_
  intro g cap w' hown' hgrow hat hlt
  refine h g _ cap w' (ownC_grew hn hl hr hf ha hb0 hB ht hown' hgrow hat) ((Below.refl _ _).grown hgrow (Nat.le_trans hB hb0.size) (fun k hk => ?_)) rfl
  exact (hr.lt k hk).1

end Go.Proofs.YtpcmfdbcjegbcaaGreatDoor
