/- Texts of Tree4, Cp1, AppC, MarkC. Own work of the verifier. -/
import Derived.Test.YtfgmenkoeflhaaaGreatDoorUqaj
namespace Go.Proofs.YtfgmenkoeflhaaaGreatDoor
open Go Go.RowKit
set_option linter.unusedVariables false
theorem news_rc {w : World} {d : Nat} {r : RC} (h : Box3 w d (.int .i64 r.1) (.int .i64 r.2.1) (.slice r.2.2.1 r.2.2.2.1 r.2.2.2.2)) : ∀ j u, (rcV r)[j]? = some u → w.cell? ((⟨d, 0, none⟩ : Addr).add j) = some u := fun j u hu => by
 have e : (⟨d, 0, none⟩ : Addr).add j = ⟨d, j, none⟩ := by unfold Addr.add; split <;> simp_all
 rw [e]
 rcases j with _ | _ | _ | j
 ·simp only [rcV, List.getElem?_cons_zero, Option.some.injEq] at hu; rw [← hu]; exact h.1
 ·simp only [rcV, List.getElem?_cons_succ, List.getElem?_cons_zero, Option.some.injEq] at hu; rw [← hu]; exact h.2.1
 ·simp only [rcV, List.getElem?_cons_succ, List.getElem?_cons_zero, Option.some.injEq] at hu; rw [← hu]; exact h.2.2.1
 ·simp [rcV] at hu
set_option maxRecDepth 100000 in
set_option maxHeartbeats 2000000 in
theorem l2copy_any (p : Option Addr) (n c : Nat) (cs : List Cel) (w : World) (hn : n = cs.length) (hl : cs.length + tl cs ≤ 10000000) (hin : CIn w p cs) :
 Calls Tryz.prog 79 #[.slice p n c] w fun e w' => ∃ q m c2, e = .returned (.slice q m c2) ∧ OwnC w' w.heap.size q m c2 cs ∧ Below w.heap.size w w' := by
 have HI : Hid (CIn w p cs) := hin; have HN : Hid (n = cs.length) := hn
 have hnl : n ≤ 10000000 := by omega
 clear hin hn
 go_enter Tryz.func79, Tryz.ntmps79
 go_wp2_with fail
 go_loopw [3, 4] (fun s i wr => ∃ (j : Nat) (q : Option Addr) (m c2 : Nat), j ≤ n ∧ m = j ∧ i = .int .i64 j ∧ s = .slice q m c2 ∧ Hid (OwnC wr w.heap.size q m c2 (cs.take j)) ∧ Hid (Below w.heap.size w wr)) (fun _ i _ => n - (intOf i).toNat)
 case atStart => exact ⟨0, none, 0, 0, Nat.zero_le _, rfl, rfl, rfl, OwnC.nil _ _, Below.refl _ _⟩
 case round =>
  obtain ⟨j, q, m, c2, hj, rfl, rfl, rfl, HO, HB⟩ := hrel
  by_cases hlt : m < n
  ·have hjl : m < cs.length := by rw [← HN.out]; exact hlt
   obtain ⟨b, o, rfl, hcs⟩ := HI.out (by omega); obtain ⟨p0, q0, d0, d1, d2, d3⟩ := (hcs m hjl).below HB.out; have hbw : b < w.heap.size := World.block_lt_of_cell? _ _ (hcs m hjl).choose_spec.choose_spec.1; have HBW : Hid (b < w.heap.size) := hbw; have htl := tl_at cs m hjl
   have HX : Hid (cs.take m ++ [((cs.getD m Cel.none).1, (cs.getD m Cel.none).2.1, (cs.getD m Cel.none).2.2)] = cs.take (m + 1)) := by
    show _ = _
    rw [List.take_succ_eq_append_getElem hjl, List.getD, List.getElem?_eq_getElem hjl]; rfl
   obtain ⟨xs, exs⟩ : ∃ x, x = (cs.getD m Cel.none).2.2 := ⟨_, rfl⟩
   obtain ⟨c0, e0⟩ : ∃ x, x = (cs.getD m Cel.none).1 := ⟨_, rfl⟩
   obtain ⟨c1, e1⟩ : ∃ x, x = (cs.getD m Cel.none).2.1 := ⟨_, rfl⟩
   rw [← e0] at d0 HX; rw [← e1] at d1 HX; rw [← exs] at d2 d3 HX htl
   obtain ⟨t, et⟩ : ∃ t, t = xs.length := ⟨_, rfl⟩
   rw [← et] at d2
   have HCP : Hid (∀ k, Calls Tryz.prog 38 #[.slice p0 t q0] (wr.drewN k) fun e w' => ∃ p' n' c', e = .returned (.slice p' n' c') ∧ OwnS w' wr.heap.size p' n' c' xs ∧ Below wr.heap.size (wr.drewN k) w') := fun k => l1copy_all p0 t q0 xs (wr.drewN k) et (by omega) d3
   have hB : w.heap.size ≤ wr.heap.size := HB.out.size; clear hcs htl exs e0 e1 et d3 hbw; go_wp2_with fail
   go_region_held3 (fun W => W.cell? ⟨b, o + m * 3, none⟩ = some (.int .i64 c0) ∧ W.cell? ⟨b, o + m * 3 + 1, none⟩ = some (.int .i64 c1) ∧ W.cell? ⟨b, o + m * 3 + 2, none⟩ = some (.slice p0 t q0))
    (first | exact kk | go_keep)
    (first
      | (go_at_call 38; refine (HCP.out 1).mono ?_; rintro e w1 ⟨p1, n1, c1', rfl, ho1, hb1⟩; have kk : w1.cell? ⟨b, o + m * 3, none⟩ = some (.int .i64 c0) ∧ w1.cell? ⟨b, o + m * 3 + 1, none⟩ = some (.int .i64 c1) ∧ w1.cell? ⟨b, o + m * 3 + 2, none⟩ = some (.slice p0 t q0) := ⟨(hb1.cell (World.block_lt_of_cell? wr _ d0)).trans d0, (hb1.cell (World.block_lt_of_cell? wr _ d1)).trans d1, (hb1.cell (World.block_lt_of_cell? wr _ d2)).trans d2⟩)
      | (refine step_app_cell wr _ rfl _ _ rfl w.heap.size q m c2 (cs.take m) rfl HO.out (((below_drewN (Below.refl _ wr) 1).trans hb1).alloc hb1.size _) hB ⟨w1.heap.size, 0, none⟩ 1 rfl c0 c1 p1 n1 c1' xs (ho1.toT.below ((Below.refl _ _).alloc (Nat.le_refl _) _)) (news_rc (Box3.of_block (t := 78) (heap_alloc_new _ _))) (by omega) ?_; intro g n' cap w5 hown5 hb5 hn5; have kk : w5.cell? ⟨b, o + m * 3, none⟩ = some (.int .i64 c0) ∧ w5.cell? ⟨b, o + m * 3 + 1, none⟩ = some (.int .i64 c1) ∧ w5.cell? ⟨b, o + m * 3 + 2, none⟩ = some (.slice p0 t q0) := ⟨(hb5.cell HBW.out).trans (Lib.cell?_alloc_marked _ kk.1), (hb5.cell HBW.out).trans (Lib.cell?_alloc_marked _ kk.2.1), (hb5.cell HBW.out).trans (Lib.cell?_alloc_marked _ kk.2.2)⟩))
   have HO5 : Hid (OwnC w5 w.heap.size (some ⟨g, 0, none⟩) n' cap (cs.take (m + 1))) := by rw [← HX.out]; exact hown5
   have HB5 : Hid (Below w.heap.size w w5) := ((HB.out.trans (((below_drewN (Below.refl _ wr) 1).trans hb1).mono hB)).alloc (Nat.le_trans hB hb1.size) _).trans hb5; have HN5 : Hid (n' = m + 1) := hn5.out; clear hown5 hb5 hn5 kk ho1 hb1 d0 d1 d2; go_wp2_with fail; go_roundw
   case rel => exact ⟨m + 1, _, _, _, by omega, HN5.out, by go_num, rfl, HO5, HB5⟩
   case measure => simp [intOf]; omega
  ·obtain rfl : m = n := by omega
   go_wp2_with fail; go_ret; refine ⟨_, _, _, rfl, ?_, HB.out⟩; have := HO.out
   rwa [List.take_of_length_le (by rw [← HN.out]; exact Nat.le_refl _)] at this
theorem rs_cat_at (a b : List RC) (i : Nat) : (a ++ b).getD i RC.zero = if i < a.length then a.getD i RC.zero else b.getD (i - a.length) RC.zero := by
 by_cases h : i < a.length
 ·rw [if_pos h, List.getD, List.getD, List.getElem?_append_left h]
 ·rw [if_neg h, List.getD, List.getD, List.getElem?_append_right (by omega)]
theorem cs_cat_at (a b : List Cel) (i : Nat) : (a ++ b).getD i Cel.none = if i < a.length then a.getD i Cel.none else b.getD (i - a.length) Cel.none := by
 by_cases h : i < a.length
 ·rw [if_pos h, List.getD, List.getD, List.getElem?_append_left h]
 ·rw [if_neg h, List.getD, List.getD, List.getElem?_append_right (by omega)]
theorem flat_one' (rs : List RC) : ∀ u ∈ flat rs, u.oneCell' = true := fun u hu => by
 obtain ⟨r, _, hr⟩ := List.mem_flatMap.1 hu; exact rcV_one r u hr
theorem ownC_grewL {W0 w w' : World} {B g n cap cp : Nat} {p : Option Addr} {cs ds : List Cel} {rs rs2 : List RC} (hn : n = cs.length) (hl : rs.length = cs.length) (hr0 : W0.ownsRow B 78 3 (.slice p n cp) n (flat rs))
 (hf : ∀ i, i < cs.length → Fits W0 B (rs.getD i RC.zero) (cs.getD i Cel.none)) (ha : ApartC p rs) (hb0 : Below W0.heap.size W0 w) (hB : B ≤ W0.heap.size)
 (hl2 : rs2.length = ds.length) (hf2 : ∀ i, i < ds.length → Fits w W0.heap.size (rs2.getD i RC.zero) (ds.getD i Cel.none)) (ha2 : ∀ i j, i < rs2.length → j < rs2.length → i ≠ j → 0 < (rs2.getD i RC.zero).2.2.2.1 → 0 < (rs2.getD j RC.zero).2.2.2.1 → (rs2.getD i RC.zero).2.2.1 ≠ (rs2.getD j RC.zero).2.2.1)
 (hr : w'.ownsRow B 78 3 (.slice (some ⟨g, 0, none⟩) (n + ds.length) cap) (n + ds.length) (flat rs ++ flat rs2)) (hg : w.grownBy w' (Value.ownBlock (.slice p n cp))) (hat : Value.ownBlock (.slice p n cp) = some g ∨ g = w.heap.size) :
 OwnC w' B (some ⟨g, 0, none⟩) (n + ds.length) cap (cs ++ ds) := by
 have hown : ∀ k, Value.ownBlock (.slice p n cp) = some k → p = some ⟨k, 0, none⟩ ∧ k < W0.heap.size := fun k hk => by
  rcases hr0.2 with ⟨hv, _⟩ | ⟨g', cap', cur, hv, hb, hg', _⟩
  ·simp only [Value.slice.injEq] at hv; rw [hv.1] at hk; simp [Value.ownBlock] at hk
  ·simp only [Value.slice.injEq] at hv
   rw [hv.1] at hk ⊢
   simp [Value.ownBlock] at hk
   subst hk; exact ⟨rfl, (Array.getElem?_eq_some_iff.1 hg').1⟩
 have hlow : ∀ i, i < cs.length → 0 < (rs.getD i RC.zero).2.2.2.1 → ∃ k, (rs.getD i RC.zero).2.2.1 = some ⟨k, 0, none⟩ ∧ k < W0.heap.size := fun i hi hp => by
  obtain ⟨k, e, _, hlt, _⟩ := (hf i hi).2.2.2 hp; exact ⟨k, e, hlt⟩
 have hhigh : ∀ i, i < ds.length → 0 < (rs2.getD i RC.zero).2.2.2.1 → ∃ k, (rs2.getD i RC.zero).2.2.1 = some ⟨k, 0, none⟩ ∧ W0.heap.size ≤ k ∧ k < w.heap.size := fun i hi hp => by
  obtain ⟨k, e, h1, h2, _⟩ := (hf2 i hi).2.2.2 hp; exact ⟨k, e, h1, h2⟩
 have hnewg : g < W0.heap.size ∨ g = w.heap.size := by
  rcases hat with h | h
  ·exact .inl (hown g h).2
  ·exact .inr h
 refine ⟨by simp; omega, rs ++ rs2, by simp; omega, by rw [flat_append]; exact hr, fun i hi => ?_, fun i hi hp => ?_, fun i j hi hj hij hpi hpj => ?_⟩
 ·rw [rs_cat_at, cs_cat_at, hl]
  by_cases e : i < cs.length
  ·rw [if_pos e, if_pos e]
   refine ⟨(hf i e).1, (hf i e).2.1, ((hf i e).2.2.below hb0).other hg.size (fun k hn0 e' => ?_)⟩; obtain ⟨k', e'', h1⟩ := hlow i e hn0; have hkk : k = k' := congrArg Addr.block (Option.some.inj (e'.symm.trans e'')); refine hg.block k (by have := hb0.size; omega) (fun hk => ?_); exact ha.1 i (by omega) hn0 (by rw [e', (hown k hk.symm).1])
  ·have hi' : i - cs.length < ds.length := by simp at hi; omega
   rw [if_neg e, if_neg e]; refine ⟨(hf2 _ hi').1, (hf2 _ hi').2.1, ((hf2 _ hi').2.2.mono hB).other hg.size (fun k hn0 e' => ?_)⟩; obtain ⟨k', e'', h1, h2⟩ := hhigh _ hi' hn0; have hkk : k = k' := congrArg Addr.block (Option.some.inj (e'.symm.trans e'')); refine hg.block k (by omega) (fun hk => ?_); have := (hown k hk.symm).2
   omega
 ·rw [rs_cat_at] at hp ⊢
  by_cases e : i < rs.length
  ·rw [if_pos e] at hp ⊢
   obtain ⟨k', e'', h1⟩ := hlow i (by omega) hp
   rcases hat with h | h
   ·rw [← (hown g h).1]
    exact ha.1 i e hp
   ·rw [e'']
    exact ne_block (by have := hb0.size; omega) hp
  ·rw [if_neg e] at hp ⊢
   obtain ⟨k', e'', h1, h2⟩ := hhigh _ (by simp at hi; omega) hp; rw [e'']; exact ne_block (by omega) hp
 ·rw [rs_cat_at] at hpi hpj ⊢
  rw [rs_cat_at]
  by_cases e : i < rs.length
  ·rw [if_pos e] at hpi ⊢
   by_cases e' : j < rs.length
   ·rw [if_pos e'] at hpj ⊢
    exact ha.2 i j e e' hij hpi hpj
   ·rw [if_neg e'] at hpj ⊢
    obtain ⟨k', e'', h1, h2⟩ := hhigh _ (by simp at hj; omega) hpj; obtain ⟨k2, e2, h3⟩ := hlow i (by omega) hpi; rw [e'', e2]; exact ne_block (by omega) hpi
  ·rw [if_neg e] at hpi ⊢
   by_cases e' : j < rs.length
   ·rw [if_pos e'] at hpj ⊢
    obtain ⟨k', e'', h1, h2⟩ := hhigh _ (by simp at hi; omega) hpi; obtain ⟨k2, e2, h3⟩ := hlow j (by omega) hpj; rw [e'', e2]; exact ne_block (by omega) hpi
   ·rw [if_neg e'] at hpj ⊢
    exact ha2 _ _ (by simp at hi; omega) (by simp at hj; omega) (by omega) hpi hpj
theorem app_cells (W0 w : World) {ops : Array Oper} {rest : List Oper} {o : Oper} {a : Act} {Q : Exit → Act → World → Prop} (hgd : o.guard = none) (s x : Operand)
 (ho : o.op = .call { callee := .builtin .append, args := #[s, x], argTypes := #[46, 46] }) (B : Nat) (p : Option Addr) (n c : Nat) (cs : List Cel)
 (hs : a.eval s = .slice p n c) (hown : OwnC W0 B p n c cs) (hb0 : Below W0.heap.size W0 w) (hB : B ≤ W0.heap.size) (q : Option Addr) (m cq : Nat) (ds : List Cel) (hx : a.eval x = .slice q m cq) (hit : OwnC w W0.heap.size q m cq ds) (hm : 0 < m) (hlen : n + m ≤ 1000000000)
 (h : ∀ g n' cap w', OwnC w' B (some ⟨g, 0, none⟩) n' cap (cs ++ ds) → Below B w w' → Hid (n' = n + m) → wpList Tryz.prog ops Q rest (a.put o.dst (.slice (some ⟨g, 0, none⟩) n' cap)) w') : wpList Tryz.prog ops Q (o :: rest) a w := by
 obtain ⟨i0, hi, hz0, hz1, hz2⟩ := info_parts infoCell; obtain ⟨hn, rs, hl, hr, hf, ha⟩ := hown; obtain ⟨hn2, rs2, hl2, hr2, hf2, ha2⟩ := hit; obtain ⟨gq, cq', hv, hbq, hgq⟩ := hr2.form hm; simp only [Value.slice.injEq, true_and] at hv; obtain ⟨rfl, rfl⟩ := hv; refine wpList_append_lies w hgd s x 46 ho B 78 i0 (.agg #[.int .i64 0, .int .i64 0, .slice none 0 0]) 3 40 Tryz.underlying46 hi hz0 hz1 hz2 rfl (by decide) (.slice p n c) n (flat rs) hs (row_below hr hb0) ⟨gq, 0, none⟩ m cq (flat rs2) hx (by rw [flat_len]; omega) (hr2.cells rfl) (flat_one' rs2) hm (by unfold maxLen; omega) (by omega) (Nat.le_trans hB hb0.size) w.heap.size rfl ?_
 intro g cap w' hown' hgrow hat hlt
 subst hn2; refine h g _ cap w' (ownC_grewL hn hl hr hf ha hb0 hB hl2 hf2 ha2.2 hown' hgrow hat) ((Below.refl _ _).grown hgrow (Nat.le_trans hB hb0.size) (fun k hk => ?_)) rfl; exact (hr.lt k hk).1
def OwnCU (w : World) (B U : Nat) (p : Option Addr) (n c : Nat) (cs : List Cel) : Prop :=
 n = cs.length ∧ ∃ rs : List RC, rs.length = cs.length ∧ w.ownsRow B 78 3 (.slice p n c) n (flat rs) ∧ (∀ i, i < cs.length → Fits w B (rs.getD i RC.zero) (cs.getD i Cel.none)) ∧ ApartC p rs ∧
   (∀ k, Value.ownBlock (.slice p n c) = some k → k < U) ∧ (∀ i, i < cs.length → ∀ k, tb (rs.getD i RC.zero).2.2.1 (rs.getD i RC.zero).2.2.2.1 = some k → k < U)
theorem OwnCU.toC {w : World} {B U : Nat} {p : Option Addr} {n c : Nat} {cs : List Cel} (h : OwnCU w B U p n c cs) : OwnC w B p n c cs := by
 obtain ⟨hn, rs, hl, hr, hf, ha, _⟩ := h; exact ⟨hn, rs, hl, hr, hf, ha⟩
theorem OwnC.up {w : World} {B : Nat} {p : Option Addr} {n c : Nat} {cs : List Cel} (h : OwnC w B p n c cs) : OwnCU w B w.heap.size p n c cs := by
 obtain ⟨hn, rs, hl, hr, hf, ha⟩ := h; exact ⟨hn, rs, hl, hr, hf, ha, fun k hk => (hr.lt k hk).2, fun i hi k hk => ((hf i hi).2.2.tb hk).2.2⟩
theorem OwnCU.other {w w' : World} {B U : Nat} {p : Option Addr} {n c : Nat} {cs : List Cel} (h : OwnCU w B U p n c cs) (hs : w.heap.size ≤ w'.heap.size) (hb : ∀ k, k < w.heap.size → B ≤ k → k < U → w'.heap[k]? = w.heap[k]?) : OwnCU w' B U p n c cs := by
 obtain ⟨hn, rs, hl, hr, hf, ha, hu, ht⟩ := h; refine ⟨hn, rs, hl, ⟨hr.1, ?_⟩, fun i hi => ⟨(hf i hi).1, (hf i hi).2.1, (hf i hi).2.2.other hs (fun g hn0 e => ?_)⟩, ha, hu, ht⟩
 ·rcases hr.2 with h' | ⟨g, cap, cur, hv, hB, hg, r⟩
  ·exact .inl h'
  ·refine .inr ⟨g, cap, cur, hv, hB, (hb g (Array.getElem?_eq_some_iff.1 hg).1 hB (hu g ?_)).trans hg, r⟩
   simp only [Value.slice.injEq] at hv; rw [hv.1]; rfl
 ·have e' : Go.Proofs.YtfgmenkoeflhaaaGreatDoor.tb (rs.getD i RC.zero).2.2.1 (rs.getD i RC.zero).2.2.2.1 = some g := by rw [e]; exact tb_of hn0
  have := (hf i hi).2.2.tb e'; exact hb g this.2.2 this.2.1 (ht i hi g e')
theorem OwnCU.below {w w' : World} {B U : Nat} {p : Option Addr} {n c : Nat} {cs : List Cel} (h : OwnCU w B U p n c cs) (hb : Below w.heap.size w w') : OwnCU w' B U p n c cs := h.other hb.size (fun k hk _ _ => hb.block k hk)
theorem OwnCU.keep {w w' : World} {B U B' U' : Nat} {p : Option Addr} {n c : Nat} {cs : List Cel} (h : OwnCU w B U p n c cs) (hk : Keep B' U' w w') (ho : U ≤ B' ∨ U' ≤ B) : OwnCU w' B U p n c cs := h.other hk.size (fun k h1 h2 h3 => hk.block k h1 (by omega))
end Go.Proofs.YtfgmenkoeflhaaaGreatDoor
