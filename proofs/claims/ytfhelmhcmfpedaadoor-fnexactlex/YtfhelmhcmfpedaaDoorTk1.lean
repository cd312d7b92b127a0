/- Tokens: how they lie; those that a call owns. Own work of the verifier. -/
import Derived.Test.YtfhelmhcmfpedaaDoorCelB
import Derived.Test.YtfhelmhcmfpedaaDoorMarkG
import Derived.Deep.AppendLies
namespace Go.Proofs.YtfhelmhcmfpedaaDoor
open Go Go.RowKit
set_option linter.unusedVariables false

/-- Kind, place, length, number, text. -/
abbrev Tok := (Int × Int × Int × Int) × List Int
def Tok.none : Tok := ((0, 0, 0, 0), [])
/-- A token as it lies: kind, place, length, number, and where the text is. -/
abbrev RT := (Int × Int × Int × Int) × Option Addr × Nat × Nat
def RT.zero : RT := ((0, 0, 0, 0), Option.none, 0, 0)
def ttl : List Tok → Nat
  | [] => 0
  | t :: r => t.2.length + ttl r
theorem ttl_at : ∀ (ts : List Tok) (i : Nat), i < ts.length → (ts.getD i Tok.none).2.length ≤ ttl ts
  | [], i, h => by simp at h
  | t :: r, 0, _ => by simp [ttl]
  | t :: r, i + 1, h => by
    have := ttl_at r i (by simpa using h)
    simp only [List.getD_cons_succ, ttl]; omega
theorem ttl_take : ∀ (ts : List Tok) (j : Nat), ttl (ts.take j) ≤ ttl ts
  | [], j => by simp [ttl]
  | t :: r, 0 => by simp [ttl]
  | t :: r, j + 1 => by have := ttl_take r j; simp only [List.take_succ_cons, ttl]; omega
theorem ttl_succ : ∀ (ts : List Tok) (j : Nat), j < ts.length → ttl (ts.take (j + 1)) = ttl (ts.take j) + (ts.getD j Tok.none).2.length
  | [], j, h => by simp at h
  | t :: r, 0, _ => by simp [ttl]
  | t :: r, j + 1, h => by
    have := ttl_succ r j (by simpa using h)
    simp only [List.take_succ_cons, ttl, List.getD_cons_succ, this]; omega
theorem ts_set_at (ts : List Tok) (i j : Nat) (t : Tok) (h : i < ts.length) : (ts.set i t).getD j Tok.none = if j = i then t else ts.getD j Tok.none := by
  simp only [List.getD, List.getElem?_set]
  by_cases e : i = j
  · subst e; simp [h]
  · rw [if_neg e, if_neg (fun e' => e e'.symm)]
theorem rt_set_at (rs : List RT) (i j : Nat) (r : RT) (h : i < rs.length) : (rs.set i r).getD j RT.zero = if j = i then r else rs.getD j RT.zero := by
  simp only [List.getD, List.getElem?_set]
  by_cases e : i = j
  · subst e; simp [h]
  · rw [if_neg e, if_neg (fun e' => e e'.symm)]
theorem rt_append_at (rs : List RT) (r : RT) (i : Nat) (h : i ≤ rs.length) : (rs ++ [r]).getD i RT.zero = if i = rs.length then r else rs.getD i RT.zero := by
  simp only [List.getD, List.getElem?_append]
  by_cases e : i = rs.length
  · subst e; simp
  · rw [if_pos (by omega), if_neg e]
theorem ts_append_at (ts : List Tok) (t : Tok) (i : Nat) (h : i ≤ ts.length) : (ts ++ [t]).getD i Tok.none = if i = ts.length then t else ts.getD i Tok.none := by
  simp only [List.getD, List.getElem?_append]
  by_cases e : i = ts.length
  · subst e; simp
  · rw [if_pos (by omega), if_neg e]
theorem same_toks {xs ys : List Tok} (hl : xs.length = ys.length) (h : ∀ j, j < xs.length → xs.getD j Tok.none = ys.getD j Tok.none) : xs = ys := by
  apply List.ext_getElem hl
  intro i h1 h2
  have := h i h1
  simpa [List.getD, List.getElem?_eq_getElem h1, List.getElem?_eq_getElem h2] using this

/-- A token lies from offset o of block b on. -/
def TAt (w : World) (b o : Nat) (t : Tok) : Prop :=
  ∃ p cap, w.cell? ⟨b, o, none⟩ = some (.int .i64 t.1.1) ∧ w.cell? ⟨b, o + 1, none⟩ = some (.int .i64 t.1.2.1) ∧ w.cell? ⟨b, o + 2, none⟩ = some (.int .i64 t.1.2.2.1) ∧ w.cell? ⟨b, o + 3, none⟩ = some (.slice p t.2.length cap) ∧ w.cell? ⟨b, o + 4, none⟩ = some (.int .i64 t.1.2.2.2) ∧ BIn w p t.2
def TIn (w : World) (p : Option Addr) (ts : List Tok) : Prop :=
  0 < ts.length → ∃ b o, p = some ⟨b, o, none⟩ ∧ ∀ i, i < ts.length → TAt w b (o + i * 5) (ts.getD i Tok.none)
theorem TAt.below {W W' : World} {b o : Nat} {t : Tok} (h : TAt W b o t) (hb : Below W.heap.size W W') : TAt W' b o t := by
  obtain ⟨p, cap, h0, h1, h2, h3, h4, h5⟩ := h
  exact ⟨p, cap, (hb.cell (World.block_lt_of_cell? _ _ h0)).trans h0, (hb.cell (World.block_lt_of_cell? _ _ h1)).trans h1, (hb.cell (World.block_lt_of_cell? _ _ h2)).trans h2, (hb.cell (World.block_lt_of_cell? _ _ h3)).trans h3, (hb.cell (World.block_lt_of_cell? _ _ h4)).trans h4, h5.below hb⟩
theorem TIn.below {W W' : World} {p : Option Addr} {ts : List Tok} (h : TIn W p ts) (hb : Below W.heap.size W W') : TIn W' p ts := fun hn => by
  obtain ⟨b, o, rfl, hc⟩ := h hn
  exact ⟨b, o, rfl, fun i hi => (hc i hi).below hb⟩

theorem infoTok : (Tryd.prog.info? 39).map (fun i => (i.zero, i.size, i.bytes)) = some (some (.agg #[.int .i64 0, .int .i64 0, .int .i64 0, .slice none 0 0, .int .i64 0]), 5, 56) := by kernel_rfl
def rtV (r : RT) : List Value := [.int .i64 r.1.1, .int .i64 r.1.2.1, .int .i64 r.1.2.2.1, .slice r.2.1 r.2.2.1 r.2.2.2, .int .i64 r.1.2.2.2]
def flatT (rs : List RT) : List Value := rs.flatMap rtV
theorem flatT_cons (r : RT) (rs : List RT) : flatT (r :: rs) = .int .i64 r.1.1 :: .int .i64 r.1.2.1 :: .int .i64 r.1.2.2.1 :: .slice r.2.1 r.2.2.1 r.2.2.2 :: .int .i64 r.1.2.2.2 :: flatT rs := rfl
theorem flatT_append (a b : List RT) : flatT (a ++ b) = flatT a ++ flatT b := List.flatMap_append
theorem flatT_one (r : RT) : flatT [r] = rtV r := by simp [flatT]
theorem flatT_len : ∀ rs : List RT, (flatT rs).length = rs.length * 5
  | [] => rfl
  | r :: rs => by simp only [flatT_cons, List.length_cons, flatT_len rs]; omega
theorem flatT_at : ∀ (rs : List RT) (i : Nat), i < rs.length → (flatT rs)[i * 5]? = some (.int .i64 (rs.getD i RT.zero).1.1) ∧ (flatT rs)[i * 5 + 1]? = some (.int .i64 (rs.getD i RT.zero).1.2.1) ∧ (flatT rs)[i * 5 + 2]? = some (.int .i64 (rs.getD i RT.zero).1.2.2.1) ∧
    (flatT rs)[i * 5 + 3]? = some (.slice (rs.getD i RT.zero).2.1 (rs.getD i RT.zero).2.2.1 (rs.getD i RT.zero).2.2.2) ∧ (flatT rs)[i * 5 + 4]? = some (.int .i64 (rs.getD i RT.zero).1.2.2.2)
  | [], i, h => by simp at h
  | r :: rs, 0, _ => by simp [flatT_cons]
  | r :: rs, i + 1, h => by
    have := flatT_at rs i (by simpa using h)
    rw [flatT_cons, show (i + 1) * 5 = (i * 5) + 1 + 1 + 1 + 1 + 1 by omega, show (i * 5) + 1 + 1 + 1 + 1 + 1 + 1 = (i * 5 + 1) + 1 + 1 + 1 + 1 + 1 by omega, show (i * 5) + 1 + 1 + 1 + 1 + 1 + 2 = (i * 5 + 2) + 1 + 1 + 1 + 1 + 1 by omega, show (i * 5) + 1 + 1 + 1 + 1 + 1 + 3 = (i * 5 + 3) + 1 + 1 + 1 + 1 + 1 by omega, show (i * 5) + 1 + 1 + 1 + 1 + 1 + 4 = (i * 5 + 4) + 1 + 1 + 1 + 1 + 1 by omega]
    simpa using this
theorem flatT_set : ∀ (rs : List RT) (i : Nat) (a b c d : Int), i < rs.length → ((((flatT rs).set (i * 5) (.int .i64 a)).set (i * 5 + 1) (.int .i64 b)).set (i * 5 + 2) (.int .i64 c)).set (i * 5 + 4) (.int .i64 d) = flatT (rs.set i ((a, b, c, d), (rs.getD i RT.zero).2))
  | [], i, a, b, c, d, h => by simp at h
  | r :: rs, 0, a, b, c, d, _ => by simp [flatT_cons]
  | r :: rs, i + 1, a, b, c, d, h => by
    have := flatT_set rs i a b c d (by simpa using h)
    rw [flatT_cons, show (i + 1) * 5 = (i * 5) + 1 + 1 + 1 + 1 + 1 by omega, show (i * 5) + 1 + 1 + 1 + 1 + 1 + 1 = (i * 5 + 1) + 1 + 1 + 1 + 1 + 1 by omega, show (i * 5) + 1 + 1 + 1 + 1 + 1 + 2 = (i * 5 + 2) + 1 + 1 + 1 + 1 + 1 by omega, show (i * 5) + 1 + 1 + 1 + 1 + 1 + 4 = (i * 5 + 4) + 1 + 1 + 1 + 1 + 1 by omega]
    simp only [List.set_cons_succ, this, List.getD_cons_succ]
    rfl

def FitsT (w : World) (B : Nat) (r : RT) (t : Tok) : Prop := r.1 = t.1 ∧ OwnT w B r.2.1 r.2.2.1 r.2.2.2 t.2
def ApartT (p : Option Addr) (rs : List RT) : Prop :=
  (∀ i, i < rs.length → 0 < (rs.getD i RT.zero).2.2.1 → (rs.getD i RT.zero).2.1 ≠ p) ∧
  (∀ i j, i < rs.length → j < rs.length → i ≠ j → 0 < (rs.getD i RT.zero).2.2.1 → 0 < (rs.getD j RT.zero).2.2.1 → (rs.getD i RT.zero).2.1 ≠ (rs.getD j RT.zero).2.1)
/-- Tokens that a call owns, with all their texts. -/
def OwnK (w : World) (B : Nat) (p : Option Addr) (n c : Nat) (ts : List Tok) : Prop :=
  n = ts.length ∧ ∃ rs : List RT, rs.length = ts.length ∧ w.ownsRow B 39 5 (.slice p n c) n (flatT rs) ∧ (∀ i, i < ts.length → FitsT w B (rs.getD i RT.zero) (ts.getD i Tok.none)) ∧ ApartT p rs
theorem OwnK.nil (w : World) (B : Nat) : OwnK w B none 0 0 [] := ⟨rfl, [], rfl, World.ownsRow_nil _ _ _ _, fun i h => by simp at h, fun i h => by simp at h, fun i j h => by simp at h⟩
theorem OwnK.tin {w : World} {B : Nat} {p : Option Addr} {n c : Nat} {ts : List Tok} (h : OwnK w B p n c ts) : TIn w p ts := fun hn => by
  obtain ⟨rfl, rs, hl, hr, hf, _⟩ := h
  obtain ⟨g, cap, hv, hb, hg⟩ := hr.form hn
  simp only [Value.slice.injEq, true_and] at hv
  obtain ⟨rfl, rfl⟩ := hv
  refine ⟨g, 0, rfl, fun i hi => ?_⟩
  obtain ⟨f0, f2⟩ := hf i hi
  obtain ⟨a0, a1, a2, a3, a4⟩ := flatT_at rs i (by omega)
  rw [Nat.zero_add]
  refine ⟨(rs.getD i RT.zero).2.1, (rs.getD i RT.zero).2.2.2, ?_, ?_, ?_, ?_, ?_, f2.bin⟩
  · rw [hr.cellAt _ (by omega), a0, f0]
  · rw [hr.cellAt _ (by omega), a1, f0]
  · rw [hr.cellAt _ (by omega), a2, f0]
  · rw [hr.cellAt _ (by omega), a3, f2.len]
  · rw [hr.cellAt _ (by omega), a4, f0]
theorem OwnK.below {w w' : World} {B : Nat} {p : Option Addr} {n c : Nat} {ts : List Tok} (h : OwnK w B p n c ts) (hb : Below w.heap.size w w') : OwnK w' B p n c ts := by
  obtain ⟨rfl, rs, hl, hr, hf, ha⟩ := h
  exact ⟨rfl, rs, hl, row_below hr hb, fun i hi => ⟨(hf i hi).1, (hf i hi).2.below hb⟩, ha⟩
theorem OwnK.mono {w : World} {B B' : Nat} {p : Option Addr} {n c : Nat} {ts : List Tok} (h : OwnK w B p n c ts) (hB : B' ≤ B) : OwnK w B' p n c ts := by
  obtain ⟨hn, rs, hl, hr, hf, ha⟩ := h
  exact ⟨hn, rs, hl, ownsRow_down hr hB, fun i hi => ⟨(hf i hi).1, (hf i hi).2.mono hB⟩, ha⟩

theorem ownK_grew {W0 w w' : World} {B g n cap cp : Nat} {p : Option Addr} {ts : List Tok} {rs : List RT} (hn : n = ts.length) (hl : rs.length = ts.length) (hr0 : W0.ownsRow B 39 5 (.slice p n cp) n (flatT rs))
    (hf : ∀ i, i < ts.length → FitsT W0 B (rs.getD i RT.zero) (ts.getD i Tok.none)) (ha : ApartT p rs) (hb0 : Below W0.heap.size W0 w) (hB : B ≤ W0.heap.size)
    {hd : Int × Int × Int × Int} {tp : Option Addr} {tn tc : Nat} {t : List Int} (ht : OwnT w W0.heap.size tp tn tc t)
    (hr : w'.ownsRow B 39 5 (.slice (some ⟨g, 0, none⟩) (n + 1) cap) (n + 1) (flatT rs ++ rtV (hd, tp, tn, tc))) (hg : w.grownBy w' (Value.ownBlock (.slice p n cp))) (hat : Value.ownBlock (.slice p n cp) = some g ∨ g = w.heap.size) :
    OwnK w' B (some ⟨g, 0, none⟩) (n + 1) cap (ts ++ [(hd, t)]) := by
  have hown : ∀ k, Value.ownBlock (.slice p n cp) = some k → p = some ⟨k, 0, none⟩ ∧ k < W0.heap.size := fun k hk => by
    rcases hr0.2 with ⟨hv, _⟩ | ⟨g', cap', cur, hv, hb, hg', _⟩
    · simp only [Value.slice.injEq] at hv; rw [hv.1] at hk; simp [Value.ownBlock] at hk
    · simp only [Value.slice.injEq] at hv
      rw [hv.1] at hk ⊢
      simp [Value.ownBlock] at hk
      subst hk
      exact ⟨rfl, (Array.getElem?_eq_some_iff.1 hg').1⟩
  have hold : ∀ i, i < ts.length → OwnT w B (rs.getD i RT.zero).2.1 (rs.getD i RT.zero).2.2.1 (rs.getD i RT.zero).2.2.2 (ts.getD i Tok.none).2 := fun i hi => (hf i hi).2.below hb0
  have hlow : ∀ i, i < ts.length → 0 < (rs.getD i RT.zero).2.2.1 → ∃ k, (rs.getD i RT.zero).2.1 = some ⟨k, 0, none⟩ ∧ k < W0.heap.size := fun i hi hp => by
    obtain ⟨k, e, _, hlt, _⟩ := (hf i hi).2.2 hp
    exact ⟨k, e, hlt⟩
  have hhigh : 0 < tn → ∃ k, tp = some ⟨k, 0, none⟩ ∧ W0.heap.size ≤ k ∧ k < w.heap.size := fun hp => by
    obtain ⟨k, e, h1, h2, _⟩ := ht.2 hp
    exact ⟨k, e, h1, h2⟩
  have hnewg : g < W0.heap.size ∨ g = w.heap.size := by
    rcases hat with h | h
    · exact .inl (hown g h).2
    · exact .inr h
  refine ⟨by simp; omega, rs ++ [(hd, tp, tn, tc)], by simp; omega, by rw [flatT_append, flatT_one]; exact hr, fun i hi => ?_, fun i hi hp => ?_, fun i j hi hj hij hpi hpj => ?_⟩
  · have hi' : i ≤ ts.length := by simp at hi; omega
    rw [rt_append_at _ _ _ (by omega), ts_append_at _ _ _ hi']
    by_cases e : i = ts.length
    · rw [if_pos (by omega), if_pos e]
      refine ⟨rfl, (ht.mono hB).other hg.size (fun k hn0 e' => ?_)⟩
      obtain ⟨k', e'', h1, h2⟩ := hhigh hn0
      have hkk : k = k' := by
        have := e'.symm.trans e''
        exact congrArg Addr.block (Option.some.inj this)
      refine hg.block k (by omega) (fun hk => ?_)
      have := (hown k hk.symm).2
      omega
    · rw [if_neg (by omega), if_neg e]
      refine ⟨(hf i (by omega)).1, (hold i (by omega)).other hg.size (fun k hn0 e' => ?_)⟩
      obtain ⟨k', e'', h1⟩ := hlow i (by omega) hn0
      have hkk : k = k' := congrArg Addr.block (Option.some.inj (e'.symm.trans e''))
      refine hg.block k (by have := hb0.size; omega) (fun hk => ?_)
      exact ha.1 i (by omega) hn0 (by rw [e', (hown k hk.symm).1])
  · have hi' : i ≤ rs.length := by simp at hi; omega
    rw [rt_append_at _ _ _ hi'] at hp ⊢
    by_cases e : i = rs.length
    · rw [if_pos e] at hp ⊢
      obtain ⟨k', e'', h1, h2⟩ := hhigh hp
      rw [show ((hd, tp, tn, tc) : RT).2.1 = tp from rfl, e'']
      exact ne_block (by omega) hp
    · rw [if_neg e] at hp ⊢
      obtain ⟨k', e'', h1⟩ := hlow i (by omega) hp
      rcases hat with h | h
      · rw [← (hown g h).1]
        exact ha.1 i (by omega) hp
      · rw [e'']
        exact ne_block (by have := hb0.size; omega) hp
  · have hi' : i ≤ rs.length := by simp at hi; omega
    have hj' : j ≤ rs.length := by simp at hj; omega
    rw [rt_append_at _ _ _ hi'] at hpi ⊢
    rw [rt_append_at _ _ _ hj'] at hpj ⊢
    by_cases e : i = rs.length
    · rw [if_pos e] at hpi ⊢
      rw [if_neg (by omega)] at hpj ⊢
      obtain ⟨k', e'', h1, h2⟩ := hhigh hpi
      obtain ⟨k2, e2, h3⟩ := hlow j (by omega) hpj
      rw [show ((hd, tp, tn, tc) : RT).2.1 = tp from rfl, e'', e2]
      exact ne_block (by omega) hpi
    · rw [if_neg e] at hpi ⊢
      by_cases e' : j = rs.length
      · rw [if_pos e'] at hpj ⊢
        obtain ⟨k', e'', h1, h2⟩ := hhigh hpj
        obtain ⟨k2, e2, h3⟩ := hlow i (by omega) hpi
        rw [show ((hd, tp, tn, tc) : RT).2.1 = tp from rfl, e'', e2]
        exact ne_block (by omega) hpi
      · rw [if_neg e'] at hpj ⊢
        exact ha.2 i j (by omega) (by omega) hij hpi hpj

theorem rtV_one (r : RT) : ∀ u ∈ rtV r, u.oneCell' = true := fun u hu => by
  simp [rtV] at hu
  rcases hu with rfl | rfl | rfl | rfl | rfl <;> rfl

end Go.Proofs.YtfhelmhcmfpedaaDoor
