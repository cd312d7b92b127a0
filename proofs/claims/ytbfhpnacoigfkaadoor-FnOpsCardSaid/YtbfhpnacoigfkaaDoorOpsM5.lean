/- ops: the operators of the map, sorted. Own work of the verifier. -/
import Derived.Test.YtbfhpnacoigfkaaDoorOpsM4
import Derived.Test.YtbfhpnacoigfkaaDoorOpsSort2
namespace Go.Proofs.YtbfhpnacoigfkaaDoor
open Go Go.RowKit Go.Maps
set_option linter.unusedVariables false

theorem below_grownBy {w w' : World} (h : Below w.heap.size w w') : w.grownBy w' none := ⟨h.os, h.tape, h.output, h.size, fun k hk _ => h.block k hk⟩
/-- append of one operator, with what has grown. -/
theorem app_op2 (W0 w : World) {ops : Array Oper} {rest : List Oper} {o : Oper} {a : Act} {Q : Exit → Act → World → Prop} (hgd : o.guard = none) (s x : Operand)
    (ho : o.op = .call { callee := .builtin .append, args := #[s, x], argTypes := #[22, 22] }) (B : Nat) (p : Option Addr) (n c : Nat) (cs : List Cel)
    (hs : a.eval s = .slice p n c) (hown : OwnO W0 B p n c cs) (hb0 : Below W0.heap.size W0 w) (hB : B ≤ W0.heap.size) (ad : Addr) (c' : Nat) (hx : a.eval x = .slice (some ad) 1 c') (kd nn : Int) (tp : Option Addr) (tn tc : Nat) (t : List Int)
    (ht : OwnT w W0.heap.size tp tn tc t) (hnews : ∀ j u, (roV (kd, nn, tp, tn, tc))[j]? = some u → w.cell? (ad.add j) = some u) (hlen : n + 1 ≤ 1000000000)
    (h : ∀ g n' cap w', OwnO w' B (some ⟨g, 0, none⟩) n' cap (cs ++ [(kd, nn, t)]) → w.grownBy w' (Value.ownBlock (.slice p n c)) → (Value.ownBlock (.slice p n c) = some g ∨ g = w.heap.size) → Hid (n' = n + 1) → wpList Tryd.prog ops Q rest (a.put o.dst (.slice (some ⟨g, 0, none⟩) n' cap)) w') : wpList Tryd.prog ops Q (o :: rest) a w := by
  obtain ⟨i0, hi, hz0, hz1, hz2⟩ := info_parts infoOp
  obtain ⟨hn, rs, hl, hr, hf, ha⟩ := hown
  refine wpList_append_lies w hgd s x 22 ho B 39 i0 (.agg #[.slice none 0 0, .int .i64 0, .int .i64 0]) 3 40 Tryd.underlying22 hi hz0 hz1 hz2 rfl (by decide) (.slice p n c) n (flatO rs) hs (row_below hr hb0) ad 1 c' (roV (kd, nn, tp, tn, tc)) hx rfl hnews (roV_one _) (by decide) (by unfold maxLen; omega) (by omega) (Nat.le_trans hB hb0.size) w.heap.size rfl ?_
  intro g cap w' hown' hgrow hat hlt
  exact h g _ cap w' (ownO_grew hn hl hr hf ha hb0 hB ht hown' hgrow hat) hgrow hat rfl

theorem OwnO.row {w : World} {B : Nat} {p : Option Addr} {n c : Nat} {cs : List Cel} (h : OwnO w B p n c cs) {k : Nat} (e : Value.ownBlock (.slice p n c) = some k) : B ≤ k ∧ k < w.heap.size := by
  obtain ⟨hn, rs, hl, hr, _⟩ := h
  exact hr.lt k e

theorem OwnO.kept {w w' : World} {B r : Nat} {p : Option Addr} {n c : Nat} {cs : List Cel} (h : OwnO w B p n c cs) (hg : w.grownBy w' (some r)) (hr0 : r < B) : OwnO w' B p n c cs := by
  obtain ⟨hn, rs, hl, hr, hf, ha⟩ := h
  refine ⟨hn, rs, hl, hr.kept hg (.inr (fun e => ?_)), fun i hi => ⟨(hf i hi).1, (hf i hi).2.1, (hf i hi).2.2.other hg.size (fun k hp e => ?_)⟩, ha⟩
  · have := (hr.lt r e).1
    omega
  · obtain ⟨k', e', h1, h2, _⟩ := (hf i hi).2.2.2 hp
    have ek : k = k' := by rw [e] at e'; exact congrArg Addr.block (Option.some.inj e')
    exact hg.block k (by omega) (fun e2 => by have := Option.some.inj e2; omega)

/-- The operators that have come. -/
structure CollO (D : DataW Unit) (T fs : List Cel) (left : Lit → Bool) (cnt : Nat) : Prop where
  sub : ∀ l, left l = true → Maps.has D l = true
  cov : ∀ c ∈ T, left (okk (kO c)) = true ∨ c ∈ fs
  don : ∀ c ∈ fs, c ∈ T ∧ left (okk (kO c)) = false
  nd : fs.Pairwise (fun x y => keyC x ≠ keyC y)
  len : fs.length + cnt ≤ T.length
def HasO (D : DataW Unit) (T : List Cel) : Prop := ∀ (f : OKey) l, keyOf Tryd.prog 69 (.agg #[.string f.1, .int .i64 f.2]) = some l → (Maps.has D l = true ↔ ∃ c ∈ T, kO c = f)
theorem okk_same (f : OKey) : (okk f).sameKey (okk f) = true := by simp [okk, Lit.sameKey]
theorem CollO.start {D : DataW Unit} {T : List Cel} (hok : ∀ c ∈ T, okT c) (hsz : Maps.size D = T.length) (hhas : HasO D T) : CollO D T [] (Maps.has D) (Maps.size D) :=
  ⟨fun l h => h, fun c hc => .inl ((hhas (kO c) _ (keyOf_kO (hok c hc))).2 ⟨c, hc, rfl⟩), fun f h => by simp at h, by simp, by simp [hsz]⟩
theorem coll_which {D : DataW Unit} {T fs : List Cel} {left : Lit → Bool} {cnt : Nat} (h : CollO D T fs left cnt) (hok : ∀ c ∈ T, okT c) (hhas : HasO D T) (x : OKey) (kl : Lit) (hk : keyOf Tryd.prog 69 (.agg #[.string x.1, .int .i64 x.2]) = some kl) (hl : left kl = true) : ∃ c ∈ T, kO c = x ∧ kl = okk (kO c) := by
  obtain ⟨c, hc, e⟩ := (hhas x kl hk).1 (h.sub kl hl)
  refine ⟨c, hc, e, ?_⟩
  have := keyOf_kO (hok c hc)
  rw [e] at this ⊢
  rw [hk] at this
  exact Option.some.inj this
theorem CollO.step {D : DataW Unit} {T fs : List Cel} {left : Lit → Bool} {cnt cnt' : Nat} (h : CollO D T fs left cnt) (hok : ∀ c ∈ T, okT c) (hap : Apart T) (c : Cel) (hc : c ∈ T) (hl : left (okk (kO c)) = true) (hlt : cnt' < cnt) :
    CollO D T (fs ++ [c]) (fun z => left z && !z.sameKey (okk (kO c))) cnt' := by
  have key_inj : ∀ f ∈ T, okk (kO f) = okk (kO c) → keyC f = keyC c := fun f hf e => kO_key.1 (ok_inj (kO_ok (hok f hf)) (kO_ok (hok c hc)) e)
  have uniq : ∀ f ∈ T, keyC f = keyC c → f = c := fun f hf e => by
    rcases List.mem_iff_getElem.1 hf with ⟨i, hi, rfl⟩
    rcases List.mem_iff_getElem.1 hc with ⟨j, hj, rfl⟩
    rcases Nat.lt_trichotomy i j with h1 | h1 | h1
    · exact absurd e (List.pairwise_iff_getElem.1 hap i j hi hj h1)
    · subst h1; rfl
    · exact absurd e.symm (List.pairwise_iff_getElem.1 hap j i hj hi h1)
  refine ⟨fun l hl' => h.sub l (by simp only [Bool.and_eq_true] at hl'; exact hl'.1), fun f hf => ?_, fun f hf => ?_, ?_, ?_⟩
  · rcases h.cov f hf with h1 | h1
    · by_cases e : okk (kO f) = okk (kO c)
      · right; rw [uniq f hf (key_inj f hf e)]; simp
      · left
        simp only [h1, Bool.true_and, Bool.not_eq_true']
        exact sameKey_ne e
    · right; simp [h1]
  · rcases List.mem_append.1 hf with h1 | h1
    · exact ⟨(h.don f h1).1, by simp [(h.don f h1).2]⟩
    · have e : f = c := by simpa using h1
      rw [e]
      exact ⟨hc, by simp [okk_same]⟩
  · rw [List.pairwise_append]
    refine ⟨h.nd, by simp, fun a ha b hb => ?_⟩
    have e : b = c := by simpa using hb
    rw [e]
    intro e2
    have h1 := h.don a ha
    rw [uniq a h1.1 e2] at h1
    rw [h1.2] at hl; cases hl
  · have := h.len
    simp; omega

theorem news_ro {w : World} {d : Nat} {r : RC} (h : Box3 w d (.slice r.2.2.1 r.2.2.2.1 r.2.2.2.2) (.int .i64 r.1) (.int .i64 r.2.1)) : ∀ j u, (roV r)[j]? = some u → w.cell? ((⟨d, 0, none⟩ : Addr).add j) = some u := fun j u hu => by
  match j, hu with
  | 0, hu => simp [roV] at hu; rw [← hu]; exact h.1
  | 1, hu => simp [roV] at hu; rw [← hu]; exact h.2.1
  | 2, hu => simp [roV] at hu; rw [← hu]; exact h.2.2.1
  | j + 3, hu => simp [roV] at hu

/-- Sorted, and no two of one key: ascending. -/
theorem asc_of {ds : List Cel} (h : ds.Pairwise (fun x y => ltO y x = false)) (hk : ds.Pairwise (fun x y => keyC x ≠ keyC y)) : Asc ds :=
  (List.Pairwise.and h hk).imp (fun ⟨h1, h2⟩ => ltO_tri (fun e => h2 e.symm) h1)

def OpsOut (w : World) (T : List Cel) (e : Ending) (w' : World) : Prop := ∃ p n c ds, e = .returned (.slice p n c) ∧ OwnO w' w.heap.size p n c ds ∧ Asc ds ∧ (∀ x, x ∈ ds ↔ x ∈ T) ∧ Below w.heap.size w w'

set_option maxRecDepth 100000 in
set_option maxHeartbeats 2000000 in
theorem ops_any (b N : Nat) (T : List Cel) (w : World) (hm : OpMap w b N T) (hl : T.length ≤ 100000) (h0 : 0 < T.length) :
    Calls Tryd.prog 19 #[.map (some b)] w (OpsOut w T) := by
  obtain ⟨D, hown, hok, hap, hsz, hhas, hat⟩ := hm
  have HD : Hid ((∀ c ∈ T, okT c) ∧ Apart T ∧ HasO D T ∧ (∀ c ∈ T, D.atKey (okk (kO c)) zD = encD c)) := ⟨hok, hap, hhas, hat⟩
  have HC0 : Hid (CollO D T [] (Maps.has D) (Maps.size D)) := CollO.start hok hsz hhas
  have hbl := hown.lt
  obtain ⟨q, eq⟩ : ∃ q, q = T.length := ⟨_, rfl⟩
  have hsz' : Maps.size D = q := by rw [hsz, eq]
  have hq : q ≤ 100000 := by omega
  have HQ : Hid (q = T.length) := eq
  clear hok hhas hat hap eq hl hsz
  go_enter Tryd.func19, Tryd.ntmps19
  go_wp2_with (at_range; refine wpList_range_own _ rfl _ 43 rfl 69 46 lawOk Tryd.underlying43 _ b N D rfl hown ?_; intro w2 hrg0 hg0 hs0)
  go_frame
  have HB2 : Hid (Below w.heap.size w w2) := (Below.refl _ _).grown hg0 (Nat.le_refl _) (fun j hj => by cases hj)
  have hs2 : w.heap.size < w2.heap.size := by omega
  obtain ⟨r, er⟩ : ∃ r, r = w.heap.size := ⟨_, rfl⟩
  rw [← er] at hrg0 ⊢
  rw [hsz'] at hrg0
  have HC0' : Hid (CollO D T [] (Maps.has D) q) := by rw [← hsz']; exact HC0.out
  have HER : Hid (r = w.heap.size) := er
  clear hg0 hs0 HC0 er
  go_loopw [3] (fun s wr => ∃ (left : Lit → Bool) (cnt m : Nat) (fs : List Cel) (p : Option Addr) (c : Nat), m + cnt ≤ q ∧ s = .slice p m c ∧ wr.ranges Tryd.prog 69 opElem b r N D left cnt ∧ Hid (CollO D T fs left cnt) ∧
    Hid (OwnO wr (r + 1) p m c fs) ∧ Hid (Below w.heap.size w wr) ∧ w.heap.size < wr.heap.size) (fun _ wr => wr.rangeLeft b r)
  case atStart => exact ⟨Maps.has D, q, 0, [], none, 0, by omega, rfl, hrg0, HC0', OwnO.nil _ _, HB2, hs2⟩
  case round =>
    obtain ⟨left, cnt, m, fs, p, c, hmc, rfl, hrg, HCO, HO, HB, hws⟩ := hrel
    go_wp2_with (at_next; refine wpList_next_ranges _ rfl _ rfl 69 lawOk opElem (fun x : OKey => .agg #[.string x.1, .int .i64 x.2]) (fun c : ByteArray × Int × Int => .agg #[.string c.1, .int .i64 c.2.1, .int .i64 c.2.2]) keyOk_inv (fun v y h => by obtain ⟨c, hc, _⟩ := opElem_inv h; exact ⟨c, hc⟩) b r N D left cnt rfl hrg ?_ ?_)
    · intro hc0 hl0
      have HALL : Hid (∀ f, f ∈ fs ↔ f ∈ T) := fun f => ⟨fun h => (HCO.out.don f h).1, fun h => (HCO.out.cov f h).resolve_left (by rw [hl0]; simp)⟩
      have hm0 : 0 < m := by
        have h1 := HO.out.1
        rcases Nat.eq_zero_or_pos m with h2 | h2
        · have hnil : fs = [] := List.length_eq_zero_iff.1 (by omega)
          cases hT : T with
          | nil => rw [hT] at h0; simp at h0
          | cons x xs => have := (HALL.out x).2 (by rw [hT]; simp); rw [hnil] at this; cases this
        · exact h2
      obtain ⟨g, rfl⟩ : ∃ g, p = some ⟨g, 0, none⟩ := by
        obtain ⟨hn, rs, hl, hr, _⟩ := HO.out
        obtain ⟨g, cap, hv, _⟩ := hr.form hm0
        simp only [Value.slice.injEq] at hv
        exact ⟨g, hv.1⟩
      have HSORT := sortOps_any wr (r + 1) g m c fs HO.out hm0 (by omega)
      have HND : Hid (fs.Pairwise (fun x y => keyC x ≠ keyC y)) := HCO.out.nd
      have HGB : Hid (w.heap.size ≤ g) := by have := (HO.out.row (k := g) rfl).1; have := HER.out; show _ ≤ _; omega
      clear hrg hc0 hl0 hrg0 HCO
      go_wp2_with fail
      refine HSORT.mono ?_
      rintro e w4 ⟨rfl, ds, hperm, hsrt, hown4, hg4⟩
      have HF : Hid (OpsOut w T (.returned (.slice (some ⟨g, 0, none⟩) m c)) w4) := ⟨_, _, _, ds, rfl, hown4.mono (by have := HER.out; omega), asc_of hsrt (hperm.symm.pairwise HND.out (fun h e => h e.symm)), fun x => (hperm.mem_iff).trans (HALL.out x), HB.out.grown hg4 (Nat.le_of_lt hws) (fun j hj => by cases hj; exact HGB.out)⟩
      clear hperm hsrt hown4 hg4 HSORT
      go_wp2_with fail
      go_ret
      exact HF.out
    · intro x1 x2 s0 p0 t0 kl y1 y2 w3 cnt1 hkx hlx hvx hatx hrg1 hlt hg1 hs1 hen
      obtain ⟨c0, hc0T, hc0k, hkl⟩ := coll_which HCO.out HD.out.1 HD.out.2.2.1 (x1, x2) kl hkx hlx
      subst hkl
      have hv0 : (.agg #[.string s0, .int .i64 p0, .int .i64 t0] : Value) = encV c0 := by
        have h1 := hatx zD
        rw [HD.out.2.2.2 c0 hc0T] at h1
        have h2 := hvx
        rw [← h1] at h2
        exact opElem_at h2
      have HCO2 : Hid (CollO D T (fs ++ [c0]) (fun z => left z && !z.sameKey (okk (kO c0))) cnt1) := HCO.out.step HD.out.1 HD.out.2.1 c0 hc0T hlx hlt
      have hok0 := HD.out.1 c0 hc0T
      obtain ⟨c00, c01, c02⟩ := c0
      simp only [encV, Value.agg.injEq] at hv0
      have hv1 := congrArg Array.toList hv0
      simp only [List.cons.injEq, Value.int.injEq, Value.string.injEq, true_and, and_true] at hv1
      obtain ⟨e0, e1, e2⟩ := hv1
      subst e1 e2
      have hb3 : Below w.heap.size w w3 := HB.out.grown hg1 (Nat.le_of_lt hws) (fun j hj => by cases hj; exact Nat.le_of_eq HER.out.symm)
      have hO3 : OwnO w3 (r + 1) p m c fs := HO.out.kept hg1 (Nat.lt_succ_self r)
      have hs3 : r + 1 ≤ w3.heap.size := by have := HER.out; omega
      have hal : Below w3.heap.size w3 (w3.alloc (.cells #[.string s0, .int .i64 p0, .int .i64 t0] 46)) := (Below.refl _ _).alloc (Nat.le_refl _) _
      obtain ⟨w4, cp, hcv, hb4, hot⟩ := conv_bytes (w3.alloc (.cells #[.string s0, .int .i64 p0, .int .i64 t0] 46)) c02 hok0.1 9 Tryd.underlying9
      rw [← e0] at hcv
      have G : Box3 w4 w3.heap.size (.string s0) (.int .i64 p0) (.int .i64 t0) := Box3.of_block (t := 46) ((hb4.block _ (by simp)).trans (heap_alloc_new _ _))
      obtain ⟨g0, g1, g2, _⟩ := G
      have hb34 : Below w3.heap.size w3 w4 := Below.on hal hb4
      have hrg4 := hrg1.kept (below_grownBy hb34) (by simp) (by simp)
      have HOT : Hid (OwnT w4 w3.heap.size (some ⟨(w3.alloc (.cells #[.string s0, .int .i64 p0, .int .i64 t0] 46)).heap.size, 0, none⟩) c02.length cp c02) := hot.mono (by simp)
      have hl0 : c02.length ≤ 1000000 := hok0.2
      obtain ⟨l0, el0⟩ : ∃ l, l = c02.length := ⟨_, rfl⟩
      rw [← el0] at hcv HOT
      obtain ⟨gt, egt⟩ : ∃ x, x = (w3.alloc (.cells #[.string s0, .int .i64 p0, .int .i64 t0] 46)).heap.size := ⟨_, rfl⟩
      rw [← egt] at hcv HOT
      have HB34 : Hid (Below w3.heap.size w3 w4) := hb34
      have HO3 : Hid (OwnO w3 (r + 1) p m c fs) := hO3
      have HB3 : Hid (Below w.heap.size w w3) := hb3
      clear hv0 hvx hatx hkx hlx hg1 hot hok0 hb4 hal hO3 hb3 hc0k hc0T hrg1 hb34 el0 egt e0 hs1
      go_wp2_with (at_builtin; refine app_op2 w3 _ rfl _ _ rfl (r + 1) p m c fs rfl HO3.out (HB34.out.alloc HB34.out.size _) hs3 ⟨w4.heap.size, 0, none⟩ 1 rfl p0 t0 (some ⟨gt, 0, none⟩) l0 cp c02 (HOT.out.below ((Below.refl _ _).alloc (Nat.le_refl _) _)) (news_ro (Box3.of_block (t := 39) (heap_alloc_new _ _))) (by omega) ?_; intro g6 n6 cap6 w6 hown6 hgrow6 hat6 hn6)
      have hne : ∀ k, Value.ownBlock (.slice p m c) = some k → r < k := fun k hk => (HO3.out.row hk).1
      have hrg6 := (hrg4.alloc (Obj.cells #[.slice (some ⟨gt, 0, none⟩) l0 cp, .int .i64 p0, .int .i64 t0] 39)).kept hgrow6 (fun e => by have := hne b e.symm; have := HER.out; omega) (fun e => by have := hne r e.symm; omega)
      have HO6 : Hid (OwnO w6 (r + 1) (some ⟨g6, 0, none⟩) n6 cap6 (fs ++ [(p0, t0, c02)])) := hown6
      have HB6 : Hid (Below w.heap.size w w6) := ((HB3.out.trans (HB34.out.mono (by have := HER.out; omega))).alloc (by have := HB34.out.size; have := HER.out; omega) _).grown hgrow6 (by have := HB34.out.size; have := HER.out; simp; omega) (fun k hk => by have := hne k hk; have := HER.out; omega)
      have hw6 : w.heap.size < w6.heap.size := by have h1 := hgrow6.size; simp at h1; have := HB34.out.size; have := HER.out; omega
      have hn6' : n6 = m + 1 := hn6.out
      clear hown6 hgrow6 hat6 hrg4 hcv g0 g1 g2 hne hn6
      go_wp2_with fail
      go_roundw
      case rel => exact ⟨_, cnt1, n6, _, _, _, by omega, rfl, hrg6, HCO2, HO6, HB6, hw6⟩
      case measure => rw [hrg6.left_eq, hrg.left_eq]; exact hlt

end Go.Proofs.YtbfhpnacoigfkaaDoor
