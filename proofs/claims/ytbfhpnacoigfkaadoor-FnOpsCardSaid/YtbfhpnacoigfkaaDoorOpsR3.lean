/- l3put at operators of the call's own. Own work of the verifier. -/
import Derived.Test.YtbfhpnacoigfkaaDoorOpsR2
import Derived.Test.YtbfhpnacoigfkaaDoorMarkO
namespace Go.Proofs.YtbfhpnacoigfkaaDoor
open Go Go.RowKit
set_option linter.unusedVariables false

/-- Two rows whose names, if they have any, lie in two blocks. -/
def Apart2 (r s : RC) : Prop := 0 < r.2.2.2.1 → 0 < s.2.2.2.1 → r.2.2.1 ≠ s.2.2.1
theorem apart_pair {p : Option Addr} {rs : List RC} (h : ApartC p rs) : rs.Pairwise Apart2 := by
  rw [List.pairwise_iff_getElem]
  intro i j hi hj hij h1 h2
  have := h.2 i j hi hj (by omega)
  simp only [List.getD, List.getElem?_eq_getElem hi, List.getElem?_eq_getElem hj, Option.getD_some] at this
  exact this h1 h2
theorem pair_apart {rs : List RC} (h : rs.Pairwise Apart2) : ∀ i j, i < rs.length → j < rs.length → i ≠ j → 0 < (rs.getD i RC.zero).2.2.2.1 → 0 < (rs.getD j RC.zero).2.2.2.1 → (rs.getD i RC.zero).2.2.1 ≠ (rs.getD j RC.zero).2.2.1 := by
  intro i j hi hj hne h1 h2
  rw [List.pairwise_iff_getElem] at h
  simp only [List.getD, List.getElem?_eq_getElem hi, List.getElem?_eq_getElem hj, Option.getD_some] at h1 h2 ⊢
  rcases Nat.lt_or_gt_of_ne hne with h' | h'
  · exact h i j hi hj h' h1 h2
  · exact fun e => h j i hj hi h' h2 h1 e.symm
theorem PutRows.pair {ro : RC} {rs rp : List RC} (h : PutRows ro rs rp) (hp : rs.Pairwise Apart2) (ho : ∀ r ∈ rs, Apart2 r ro) : rp.Pairwise Apart2 := by
  obtain ⟨a, b, h1, h2⟩ := h
  have hab := hp.sublist h1
  rcases h2 with rfl | rfl
  · exact hab
  · rw [List.pairwise_append] at hab ⊢
    obtain ⟨ha, hb, hx⟩ := hab
    refine ⟨ha, ?_, ?_⟩
    · rw [List.pairwise_cons]
      exact ⟨fun r hr h1' h2' e => ho r (h1.subset (List.mem_append_right _ hr)) h2' h1' e.symm, hb⟩
    · intro r hr s hs
      rcases List.mem_cons.1 hs with rfl | hs
      · exact ho r (h1.subset (List.mem_append_left _ hr))
      · exact hx r hr s hs
theorem PutRows.mem {ro : RC} {rs rp : List RC} (h : PutRows ro rs rp) {r : RC} (hr : r ∈ rp) : r = ro ∨ r ∈ rs := by
  obtain ⟨a, b, h1, h2⟩ := h
  rcases h2 with rfl | rfl
  · exact .inr (h1.subset hr)
  · rcases List.mem_append.1 hr with hr | hr
    · exact .inr (h1.subset (List.mem_append_left _ hr))
    · rcases List.mem_cons.1 hr with rfl | hr
      · exact .inl rfl
      · exact .inr (h1.subset (List.mem_append_right _ hr))
theorem OwnT.again {w w' : World} {B : Nat} {p : Option Addr} {n c : Nat} {ys zs : List Int} (h : OwnT w B p n c ys) (hb : Below w.heap.size w w') (hz : BIn w' p zs) (hn : n = zs.length) : OwnT w' B p n c zs := by
  refine ⟨hn, fun h0 => ?_⟩
  obtain ⟨g, rfl, h1, h2, h3⟩ := h.2 h0
  obtain ⟨b, o, e, hc⟩ := hz (by omega)
  simp only [Option.some.injEq, Addr.mk.injEq, and_true] at e
  obtain ⟨rfl, rfl⟩ := e
  refine ⟨g, rfl, h1, Nat.lt_of_lt_of_le h2 hb.size, fun i hi => ⟨?_, (hb.frozen (p := ⟨g, i, none⟩) h2).trans (h3 i hi).2⟩⟩
  have := hc i (by omega)
  rwa [Nat.zero_add] at this
theorem OwnOU.rows {w : World} {B U : Nat} {p : Option Addr} {n c : Nat} {cs : List Cel} (h : OwnOU w B U p n c cs) : ∃ rs, OInR w p cs rs ∧ (∀ r ∈ rs, ∃ ys, OwnT w B r.2.2.1 r.2.2.2.1 r.2.2.2.2 ys ∧ ∀ k, tb r.2.2.1 r.2.2.2.1 = some k → k < U) ∧ rs.Pairwise Apart2 := by
  obtain ⟨hn, rs, hl, hr, hf, ha, hu, ht⟩ := h
  refine ⟨rs, ⟨hl, fun h0 => ?_⟩, fun r hr' => ?_, apart_pair ha⟩
  · subst hn
    obtain ⟨g, cap, hv, hb, hg⟩ := hr.form h0
    simp only [Value.slice.injEq, true_and] at hv
    obtain ⟨rfl, rfl⟩ := hv
    refine ⟨g, 0, rfl, fun i hi => ?_⟩
    obtain ⟨f0, f1, f2⟩ := hf i hi
    obtain ⟨a0, a1, a2⟩ := flatO_at rs i (by omega)
    rw [Nat.zero_add]
    refine ⟨(rs.getD i RC.zero).2.2.1, (rs.getD i RC.zero).2.2.2.2, ?_, ?_, ?_, ?_, f2.bin⟩
    · rw [← f0, ← f1, ← f2.1]
    · rw [hr.cellAt _ (by omega), a0, f0]
    · rw [hr.cellAt _ (by omega), a1, f1]
    · rw [hr.cellAt _ (by omega), a2, f2.1]
  · obtain ⟨i, hi, rfl⟩ := List.getElem_of_mem hr'
    have e : rs.getD i RC.zero = rs[i] := by rw [List.getD, List.getElem?_eq_getElem hi]; rfl
    have := hf i (by omega)
    have h2 := ht i (by omega)
    rw [e] at this h2
    exact ⟨_, this.2.2, h2⟩

def OwnOut (w : World) (B : Nat) (r : List Cel) (e : Ending) (w' : World) : Prop := ∃ p n c, e = .returned (.slice p n c) ∧ OwnO w' B p n c r ∧ Below w.heap.size w w'

theorem l3put_own (p : Option Addr) (c n B U : Nat) (cs : List Cel) (k0 t0 : Int) (q : Option Addr) (l cq : Nat) (xs : List Int) (w : World) (hn : n ≤ 1000000) (hown : OwnOU w B U p n c cs) (hx : OwnT w U q l cq xs) (hBU : B ≤ U) (hBw : B ≤ w.heap.size) :
    Calls Tryd.prog 16 #[.slice p n c, .agg #[.slice q l cq, .int .i64 k0, .int .i64 t0]] w (OwnOut w B (putO cs (k0, t0, xs))) := by
  obtain ⟨rs, hin, hrs, hpw⟩ := hown.rows
  refine (l3putR_any p c n cs k0 t0 q l cq xs w hown.1 hx.1 hn rs hin hx.bin).mono ?_
  rintro e w' ⟨p1, n1, c1, rp, rfl, ⟨hn1, hl1, hr1, hf1⟩, hput, hb⟩
  have hmem : ∀ r ∈ rp, ∃ ys, OwnT w B r.2.2.1 r.2.2.2.1 r.2.2.2.2 ys := by
    intro r hr
    rcases hput.mem hr with rfl | hr
    · refine ⟨xs, hx.1, fun h0 => ?_⟩
      obtain ⟨g, e, h1, h2⟩ := hx.2 h0
      exact ⟨g, e, Nat.le_trans hBU h1, h2⟩
    · obtain ⟨ys, h1, _⟩ := hrs r hr
      exact ⟨ys, h1⟩
  have hat : ∀ i, i < rp.length → rp.getD i RC.zero ∈ rp := fun i hi => by rw [List.getD, List.getElem?_eq_getElem hi]; exact List.getElem_mem hi
  refine ⟨p1, n1, c1, rfl, ⟨hn1, rp, hl1, ownsRow_down hr1 (by omega), fun i hi => ?_, fun i hi h0 e => ?_, pair_apart (hput.pair hpw ?_)⟩, hb⟩
  · obtain ⟨f0, f1, f2, f3, f4⟩ := hf1 i hi
    obtain ⟨ys, hy⟩ := hmem _ (hat i (by omega))
    exact ⟨f0, f1, hy.again hb f3 f2⟩
  · obtain ⟨ys, hy⟩ := hmem _ (hat i hi)
    obtain ⟨g, e', h1, h2, _⟩ := hy.2 h0
    have hnz : 0 < n1 := by omega
    obtain ⟨g1, cap, hv, hB1, hlt⟩ := hr1.form hnz
    simp only [Value.slice.injEq] at hv
    rw [e', hv.1] at e
    simp only [Option.some.injEq, Addr.mk.injEq, and_true] at e
    omega
  · intro r hr h1 h2 e
    obtain ⟨ys, _, h4⟩ := hrs r hr
    obtain ⟨g, eg, hU, _⟩ := hx.2 h2
    have h5 : tb r.2.2.1 r.2.2.2.1 = some g := by rw [e]; show tb q _ = some g; rw [eg]; exact tb_of h1
    have := h4 g h5
    omega

end Go.Proofs.YtbfhpnacoigfkaaDoor
