/- Texts of AppC, Ap5, Um1. Own work of the verifier. -/
import Derived.Test.YtedlcmkhbccjgaaUqag
import Derived.Test.YtedlcmkhbccjgaaUqax
import Derived.Test.YtedlcmkhbccjgaaUqay
import Derived.Test.YtedlcmkhbccjgaaUqaw
import Derived.Test.YtedlcmkhbccjgaaUqar
namespace Go.Proofs.Ytedlcmkhbccjgaa
open Go Go.RowKit
set_option linter.unusedVariables false

theorem rs_cat_at (a b : List RC) (i : Nat) : (a ++ b).getD i RC.zero = if i < a.length then a.getD i RC.zero else b.getD (i - a.length) RC.zero := by
  by_cases h : i < a.length
  · rw [if_pos h, List.getD, List.getD, List.getElem?_append_left h]
  · rw [if_neg h, List.getD, List.getD, List.getElem?_append_right (by omega)]
theorem cs_cat_at (a b : List Cel) (i : Nat) : (a ++ b).getD i Cel.none = if i < a.length then a.getD i Cel.none else b.getD (i - a.length) Cel.none := by
  by_cases h : i < a.length
  · rw [if_pos h, List.getD, List.getD, List.getElem?_append_left h]
  · rw [if_neg h, List.getD, List.getD, List.getElem?_append_right (by omega)]
theorem flat_one' (rs : List RC) : ∀ u ∈ flat rs, u.oneCell' = true := fun u hu => by
  obtain ⟨r, _, hr⟩ := List.mem_flatMap.1 hu
  exact rcV_one r u hr
/-- Behind an append of cells whose texts are new. -/
theorem ownC_grewL {W0 w w' : World} {B g n cap cp : Nat} {p : Option Addr} {cs ds : List Cel} {rs rs2 : List RC} (hn : n = cs.length) (hl : rs.length = cs.length) (hr0 : W0.ownsRow B 47 3 (.slice p n cp) n (flat rs))
    (hf : ∀ i, i < cs.length → Fits W0 B (rs.getD i RC.zero) (cs.getD i Cel.none)) (ha : ApartC p rs) (hb0 : Below W0.heap.size W0 w) (hB : B ≤ W0.heap.size)
    (hl2 : rs2.length = ds.length) (hf2 : ∀ i, i < ds.length → Fits w W0.heap.size (rs2.getD i RC.zero) (ds.getD i Cel.none)) (ha2 : ∀ i j, i < rs2.length → j < rs2.length → i ≠ j → 0 < (rs2.getD i RC.zero).2.2.2.1 → 0 < (rs2.getD j RC.zero).2.2.2.1 → (rs2.getD i RC.zero).2.2.1 ≠ (rs2.getD j RC.zero).2.2.1)
    (hr : w'.ownsRow B 47 3 (.slice (some ⟨g, 0, none⟩) (n + ds.length) cap) (n + ds.length) (flat rs ++ flat rs2)) (hg : w.grownBy w' (Value.ownBlock (.slice p n cp))) (hat : Value.ownBlock (.slice p n cp) = some g ∨ g = w.heap.size) :
    OwnC w' B (some ⟨g, 0, none⟩) (n + ds.length) cap (cs ++ ds) := by
  have hown : ∀ k, Value.ownBlock (.slice p n cp) = some k → p = some ⟨k, 0, none⟩ ∧ k < W0.heap.size := fun k hk => by
    rcases hr0.2 with ⟨hv, _⟩ | ⟨g', cap', cur, hv, hb, hg', _⟩
    · simp only [Value.slice.injEq] at hv; rw [hv.1] at hk; simp [Value.ownBlock] at hk
    · simp only [Value.slice.injEq] at hv
      rw [hv.1] at hk ⊢
      simp [Value.ownBlock] at hk
      subst hk
      exact ⟨rfl, (Array.getElem?_eq_some_iff.1 hg').1⟩
  have hlow : ∀ i, i < cs.length → 0 < (rs.getD i RC.zero).2.2.2.1 → ∃ k, (rs.getD i RC.zero).2.2.1 = some ⟨k, 0, none⟩ ∧ k < W0.heap.size := fun i hi hp => by
    obtain ⟨k, e, _, hlt, _⟩ := (hf i hi).2.2.2 hp
    exact ⟨k, e, hlt⟩
  have hhigh : ∀ i, i < ds.length → 0 < (rs2.getD i RC.zero).2.2.2.1 → ∃ k, (rs2.getD i RC.zero).2.2.1 = some ⟨k, 0, none⟩ ∧ W0.heap.size ≤ k ∧ k < w.heap.size := fun i hi hp => by
    obtain ⟨k, e, h1, h2, _⟩ := (hf2 i hi).2.2.2 hp
    exact ⟨k, e, h1, h2⟩
  have hnewg : g < W0.heap.size ∨ g = w.heap.size := by
    rcases hat with h | h
    · exact .inl (hown g h).2
    · exact .inr h
  refine ⟨by simp; omega, rs ++ rs2, by simp; omega, by rw [flat_append]; exact hr, fun i hi => ?_, fun i hi hp => ?_, fun i j hi hj hij hpi hpj => ?_⟩
  · rw [rs_cat_at, cs_cat_at, hl]
    by_cases e : i < cs.length
    · rw [if_pos e, if_pos e]
      refine ⟨(hf i e).1, (hf i e).2.1, ((hf i e).2.2.below hb0).other hg.size (fun k hn0 e' => ?_)⟩
      obtain ⟨k', e'', h1⟩ := hlow i e hn0
      have hkk : k = k' := congrArg Addr.block (Option.some.inj (e'.symm.trans e''))
      refine hg.block k (by have := hb0.size; omega) (fun hk => ?_)
      exact ha.1 i (by omega) hn0 (by rw [e', (hown k hk.symm).1])
    · have hi' : i - cs.length < ds.length := by simp at hi; omega
      rw [if_neg e, if_neg e]
      refine ⟨(hf2 _ hi').1, (hf2 _ hi').2.1, ((hf2 _ hi').2.2.mono hB).other hg.size (fun k hn0 e' => ?_)⟩
      obtain ⟨k', e'', h1, h2⟩ := hhigh _ hi' hn0
      have hkk : k = k' := congrArg Addr.block (Option.some.inj (e'.symm.trans e''))
      refine hg.block k (by omega) (fun hk => ?_)
      have := (hown k hk.symm).2
      omega
  · rw [rs_cat_at] at hp ⊢
    by_cases e : i < rs.length
    · rw [if_pos e] at hp ⊢
      obtain ⟨k', e'', h1⟩ := hlow i (by omega) hp
      rcases hat with h | h
      · rw [← (hown g h).1]
        exact ha.1 i e hp
      · rw [e'']
        exact ne_block (by have := hb0.size; omega) hp
    · rw [if_neg e] at hp ⊢
      obtain ⟨k', e'', h1, h2⟩ := hhigh _ (by simp at hi; omega) hp
      rw [e'']
      exact ne_block (by omega) hp
  · rw [rs_cat_at] at hpi hpj ⊢
    rw [rs_cat_at]
    by_cases e : i < rs.length
    · rw [if_pos e] at hpi ⊢
      by_cases e' : j < rs.length
      · rw [if_pos e'] at hpj ⊢
        exact ha.2 i j e e' hij hpi hpj
      · rw [if_neg e'] at hpj ⊢
        obtain ⟨k', e'', h1, h2⟩ := hhigh _ (by simp at hj; omega) hpj
        obtain ⟨k2, e2, h3⟩ := hlow i (by omega) hpi
        rw [e'', e2]
        exact ne_block (by omega) hpi
    · rw [if_neg e] at hpi ⊢
      by_cases e' : j < rs.length
      · rw [if_pos e'] at hpj ⊢
        obtain ⟨k', e'', h1, h2⟩ := hhigh _ (by simp at hi; omega) hpi
        obtain ⟨k2, e2, h3⟩ := hlow j (by omega) hpj
        rw [e'', e2]
        exact ne_block (by omega) hpi
      · rw [if_neg e'] at hpj ⊢
        exact ha2 _ _ (by simp at hi; omega) (by simp at hj; omega) (by omega) hpi hpj
/-- append of cells of the call's own onto others. -/
theorem app_cells (W0 w : World) {ops : Array Oper} {rest : List Oper} {o : Oper} {a : Act} {Q : Exit → Act → World → Prop} (hgd : o.guard = none) (s x : Operand)
    (ho : o.op = .call { callee := .builtin .append, args := #[s, x], argTypes := #[25, 25] }) (B : Nat) (p : Option Addr) (n c : Nat) (cs : List Cel)
    (hs : a.eval s = .slice p n c) (hown : OwnC W0 B p n c cs) (hb0 : Below W0.heap.size W0 w) (hB : B ≤ W0.heap.size) (q : Option Addr) (m cq : Nat) (ds : List Cel) (hx : a.eval x = .slice q m cq) (hit : OwnC w W0.heap.size q m cq ds) (hm : 0 < m) (hlen : n + m ≤ 1000000000)
    (h : ∀ g n' cap w', OwnC w' B (some ⟨g, 0, none⟩) n' cap (cs ++ ds) → Below B w w' → Hid (n' = n + m) → wpList Try.prog ops Q rest (a.put o.dst (.slice (some ⟨g, 0, none⟩) n' cap)) w') : wpList Try.prog ops Q (o :: rest) a w := by
  obtain ⟨i0, hi, hz0, hz1, hz2⟩ := info_parts infoCell
  obtain ⟨hn, rs, hl, hr, hf, ha⟩ := hown
  obtain ⟨hn2, rs2, hl2, hr2, hf2, ha2⟩ := hit
  obtain ⟨gq, cq', hv, hbq, hgq⟩ := hr2.form hm
  simp only [Value.slice.injEq, true_and] at hv
  obtain ⟨rfl, rfl⟩ := hv
  refine wpList_append_lies w hgd s x 25 ho B 47 i0 (.agg #[.int .i64 0, .int .i64 0, .slice none 0 0]) 3 40 Try.underlying25 hi hz0 hz1 hz2 rfl (by decide) (.slice p n c) n (flat rs) hs (row_below hr hb0) ⟨gq, 0, none⟩ m cq (flat rs2) hx (by rw [flat_len]; omega) (hr2.cells rfl) (flat_one' rs2) hm (by unfold maxLen; omega) (by omega) (Nat.le_trans hB hb0.size) w.heap.size rfl ?_
  intro g cap w' hown' hgrow hat hlt
  subst hn2
  refine h g _ cap w' (ownC_grewL hn hl hr hf ha hb0 hB hl2 hf2 ha2.2 hown' hgrow hat) ((Below.refl _ _).grown hgrow (Nat.le_trans hB hb0.size) (fun k hk => ?_)) rfl
  exact (hr.lt k hk).1

end Go.Proofs.Ytedlcmkhbccjgaa

namespace Go.Proofs.Ytedlcmkhbccjgaa
open Go Go.RowKit
set_option linter.unusedVariables false

theorem CIn.part5 {w : World} {b o : Nat} {cs ds : List Cel} (h : ∀ i, i < cs.length → CAt w b (o + i * 3) (cs.getD i Cel.none)) (j : Nat) (hd : ds <+: cs.drop j) : CIn w (some ⟨b, o + j * 3, none⟩) ds := fun _ => by
  refine ⟨b, o + j * 3, rfl, fun i hi => ?_⟩
  obtain ⟨r, hr⟩ := hd
  have hl : j + i < cs.length := by
    have := congrArg List.length hr
    simp at this; omega
  have e : cs.getD (j + i) Cel.none = ds.getD i Cel.none := by
    have h1 : (cs.drop j)[i]? = ds[i]? := by rw [← hr, List.getElem?_append_left hi]
    rw [List.getElem?_drop] at h1
    simp only [List.getD, h1]
  have := h (j + i) hl
  rw [e, show o + (j + i) * 3 = o + j * 3 + i * 3 by omega] at this
  exact this
theorem look_find (bs : List Bnd) (v : Int) : (∃ k : Nat, k < bs.length ∧ findI (bs.map Prod.fst) v = (k : Int) ∧ look bs v = some (bs.getD k Bnd.zero).2) ∨ (findI (bs.map Prod.fst) v = -1 ∧ look bs v = none) := by
  cases h : look bs v with
  | none => exact .inr ⟨by rw [findI, if_neg ((look_none _ _).1 h)], rfl⟩
  | some t =>
    obtain ⟨hl, e⟩ := look_at bs v t h
    refine .inl ⟨_, hl, ?_, ?_⟩
    · rw [findI, if_pos]
      exact Classical.byContradiction fun hn => by rw [(look_none bs v).2 hn] at h; cases h
    · rw [← e]; simp [List.getD, hl]
theorem applyC_take (bs : List Bnd) (cs : List Cel) (j : Nat) (h : j < cs.length) : applyC bs (cs.take (j + 1)) = applyC bs (cs.take j) ++ sub1 bs (cs.getD j Cel.none) := by
  rw [applyC, applyC, List.take_succ_eq_append_getElem h, List.flatMap_append, List.getD, List.getElem?_eq_getElem h]
  simp
theorem applyC_le (bs : List Bnd) (cs : List Cel) (j : Nat) : (applyC bs (cs.take j)).length ≤ (applyC bs cs).length := by
  have h : applyC bs cs = applyC bs (cs.take j) ++ applyC bs (cs.drop j) := by rw [applyC, applyC, applyC, ← List.flatMap_append, List.take_append_drop]
  rw [h, List.length_append]; omega
theorem validB_pos {cs : List Cel} (h : validB cs = true) : 0 < cs.length := by
  cases cs with
  | nil => revert h; decide
  | cons a b => simp

set_option maxRecDepth 100000 in
set_option maxHeartbeats 2000000 in
theorem specApply_any (bs : List Bnd) (cs : List Cel) (p q : Option Addr) (n t c1 : Nat) (w : World) (hn : n = bs.length) (hm : t = cs.length) (hw : ∀ i, i < bs.length → -9223372036854775808 ≤ (bs.getD i Bnd.zero).1 ∧ (bs.getD i Bnd.zero).1 ≤ 9223372036854775807)
    (hl : bs.length + tll (trm bs) ≤ 1048576) (hlc : cs.length + tl cs ≤ 1048576) (hb : BdIn w p bs) (hc : CIn w q cs) :
    Calls Try.prog 15 #[.slice p n c1, .slice q t t] w (ApplyOut w bs cs) := by
  have HV1 := l5valid_any p n c1 bs w hn (by omega) hl hw hb
  have HV2 : Hid (∀ W, Below w.heap.size w W → Calls Try.prog 26 #[.slice q t t] W fun e w' => e = .returned (.bool (validB cs)) ∧ Below W.heap.size W w') := fun W hW => by rw [hm]; exact specValid_any q cs.length cs W (by omega) (hc.below hW)
  by_cases h1 : substB bs = true
  · rw [h1] at HV1
    by_cases h2 : validB cs = true
    · rw [h2] at HV2
      have hup := substFrom_up bs (-1) (by simp only [substB, Bool.and_eq_true] at h1; exact h1.2)
      have hmem := substFrom_mem bs (-1) (by simp only [substB, Bool.and_eq_true] at h1; exact h1.2)
      have hlen1 : n ≤ 1000 := by simp only [substB, Bool.and_eq_true, decide_eq_true_eq] at h1; omega
      have hlt2 : t ≤ 2000 := by have := validB_len h2; omega
      have hR : applyR bs cs = if (applyC bs cs).length ≤ 2000 then (applyC bs cs, 0) else ([], 3) := by rw [applyR, if_pos ⟨h1, h2⟩]
      have HFIN3 : Hid (∀ w', Below w.heap.size w w' → ∀ j, 2000 < (applyC bs (cs.take (j + 1))).length → ApplyOut w bs cs (.returned (.tuple #[.slice none 0 0, .int .i64 3])) w') := fun w' hb' j hj => by
        unfold ApplyOut
        have := applyC_le bs cs (j + 1)
        rw [hR, if_neg (by omega)]
        exact ⟨_, _, _, rfl, OwnC.nil _ _, hb'⟩
      have HFIN0 : Hid (∀ w' r m cr, Below w.heap.size w w' → OwnC w' w.heap.size r m cr (applyC bs (cs.take t)) → m ≤ 2000 → ApplyOut w bs cs (.returned (.tuple #[.slice r m cr, .int .i64 0])) w') := fun w' r m cr hb' ho hle => by
        unfold ApplyOut
        rw [List.take_of_length_le (by rw [hm]; exact Nat.le_refl _)] at ho
        rw [hR, if_pos (by rw [← ho.1]; exact hle)]
        exact ⟨_, _, _, rfl, ho, hb'⟩
      have HUP : Hid _ := hup
      have HMEM : Hid _ := hmem
      have HBD : Hid (BdIn w p bs) := hb
      have HC : Hid (CIn w q cs) := hc
      have HN : Hid (n = bs.length) := hn
      have HM : Hid (t = cs.length) := hm
      have HLL : Hid (bs.length + tll (trm bs) ≤ 1048576 ∧ cs.length + tl cs ≤ 1048576) := ⟨hl, hlc⟩
      clear h1 h2 hb hc hup hmem hR hn hm hw hl hlc
      go_enter Try.func15, Try.ntmps15
      go_wp2_with fail
      refine HV1.mono ?_
      rintro e w1 ⟨rfl, hb1⟩
      have HB1 : Hid (Below w.heap.size w w1) := hb1
      clear hb1 HV1
      go_wp2_with fail
      refine (HV2.out w1 HB1.out).mono ?_
      rintro e w2 ⟨rfl, hb2⟩
      have HB2 : Hid (Below w.heap.size w w2) := Below.on HB1.out hb2
      clear hb2
      go_wp2_with fail
      go_loopw [6, 7] (fun s i wr => ∃ (j : Nat) (r : Option Addr) (m cr : Nat), j ≤ t ∧ m ≤ 2000 ∧ i = .int .i64 j ∧ s = .slice r m cr ∧ Hid (OwnC wr w.heap.size r m cr (applyC bs (cs.take j))) ∧ Hid (Below w.heap.size w wr)) (fun _ i _ => t - (intOf i).toNat)
      case atStart => exact ⟨0, none, 0, 0, Nat.zero_le _, by decide, rfl, rfl, OwnC.nil _ _, HB2⟩
      case round =>
        obtain ⟨j, r, m, cr, hj, hm, rfl, rfl, HO, HB⟩ := hrel
        have hBs : w.heap.size ≤ wr.heap.size := HB.out.size
        by_cases hlt : j < t
        · have hjl : j < cs.length := by rw [← HM.out]; exact hlt
          obtain ⟨b, o, rfl, hcs⟩ := (HC.out.below HB.out) (by omega)
          have HCS : Hid (∀ i, i < cs.length → CAt wr b (o + i * 3) (cs.getD i Cel.none)) := hcs
          obtain ⟨p0, q0, d0, d1, d2, d3⟩ := hcs j hjl
          obtain ⟨ds, eds⟩ : ∃ ds, ds = sub1 bs (cs.getD j Cel.none) := ⟨_, rfl⟩
          have HDS : Hid (applyC bs (cs.take (j + 1)) = applyC bs (cs.take j) ++ ds) := by show _ = _; rw [applyC_take bs cs j hjl, ← eds]
          have HONE : Hid (Calls Try.prog 41 #[.slice (some ⟨b, o + j * 3, none⟩) 1 (t - j)] wr fun e w' => ∃ q m c2, e = .returned (.slice q m c2) ∧ OwnC w' wr.heap.size q m c2 [cs.getD j Cel.none] ∧ Below wr.heap.size wr w') := by
            have htl := tl_at cs j hjl
            have h5 := HLL.out.2
            refine l2copy_any _ 1 _ [cs.getD j Cel.none] wr rfl (by simp only [tl, List.length_cons, List.length_nil]; omega) (CIn.part5 hcs j ⟨cs.drop (j + 1), ?_⟩)
            rw [List.drop_eq_getElem_cons hjl]; simp [List.getD, hjl]
          clear hcs d3 d2
          by_cases hc0 : (cs.getD j Cel.none).1 = 0
          · rw [hc0] at d0
            have HIX := l5index_any p n c1 bs (cs.getD j Cel.none).2.1 wr HN.out (by omega) HUP.out (HBD.out.below HB.out)
            rcases look_find bs (cs.getD j Cel.none).2.1 with ⟨k, hk, ef, el⟩ | ⟨ef, el⟩
            · rw [ef] at HIX
              have eds2 : ds = (bs.getD k Bnd.zero).2 := by rw [eds, sub1, if_pos hc0, el]
              obtain ⟨bb, bo, rfl, hbs⟩ := (HBD.out.below HB.out) (by omega)
              obtain ⟨qd, cd, y0, y1, y2⟩ := hbs k hk
              rw [← eds2] at y1 y2
              have hv := HMEM.out (bs.getD k Bnd.zero) (by simp [List.getD, hk])
              rw [← eds2] at hv
              have HD0 : Hid (0 < ds.length ∧ ds.length ≤ 2000) := ⟨validB_pos hv.2.2, validB_len hv.2.2⟩
              have hbd := tll_at (trm bs) k (by rw [trm_len]; exact hk)
              rw [trm_at, ← eds2] at hbd
              have h5 := HLL.out.1
              obtain ⟨ld, eld⟩ : ∃ l, l = ds.length := ⟨_, rfl⟩
              rw [← eld] at y1
              have HCP : Hid (Calls Try.prog 41 #[.slice qd ld cd] wr fun e w' => ∃ q m c2, e = .returned (.slice q m c2) ∧ OwnC w' wr.heap.size q m c2 ds ∧ Below wr.heap.size wr w') := l2copy_any qd ld cd ds wr eld (by omega) y2
              have hkn : k < n := by rw [HN.out]; exact hk
              obtain ⟨vv, evv⟩ : ∃ v, v = (cs.getD j Cel.none).2.1 := ⟨_, rfl⟩
              rw [← evv] at d1 HIX
              clear eds eds2 ef el hbs y0 y2 hv hbd h5 eld evv hk hc0 HONE
              go_wp2_with fail
              refine HIX.mono ?_
              rintro e w9 ⟨rfl, hw9⟩
              rw [hw9]
              clear hw9 HIX
              go_wp2_with fail
              refine HCP.out.mono ?_
              rintro e w3 ⟨q3, m3, c3, rfl, ho3, hb3⟩
              have HO3 : Hid (OwnC w3 wr.heap.size q3 m3 c3 ds) := ho3
              have HB3 : Hid (Below wr.heap.size wr w3) := hb3
              have HM3 : Hid (m3 = ds.length) := ho3.1
              have hm3 : 0 < m3 := by rw [HM3.out]; exact HD0.out.1
              have hm3' : m3 ≤ 2000 := by rw [HM3.out]; exact HD0.out.2
              clear ho3 hb3 HCP
              by_cases hbig : m + m3 ≤ 2000
              · go_wp2_with (at_builtin; refine app_cells wr w3 rfl _ _ rfl w.heap.size r m cr _ rfl HO.out HB3.out hBs q3 m3 c3 _ rfl HO3.out hm3 (by omega) ?_; intro g4 n4 cap4 w4 hown4 hb4 hn4; have hn4' : n4 ≤ 2000 := by have := hn4.out; omega)
                have HO4 : Hid (OwnC w4 w.heap.size (some ⟨g4, 0, none⟩) n4 cap4 (applyC bs (cs.take (j + 1)))) := by rw [HDS.out]; exact hown4
                have HB4 : Hid (Below w.heap.size w w4) := (Below.on HB.out HB3.out).trans hb4
                clear hown4 hb4
                go_roundw
                case rel => exact ⟨j + 1, _, n4, cap4, by omega, hn4', by go_num, rfl, HO4, HB4⟩
                case measure => simp [intOf]; omega
              · go_wp2_with (at_builtin; refine app_cells wr w3 rfl _ _ rfl w.heap.size r m cr _ rfl HO.out HB3.out hBs q3 m3 c3 _ rfl HO3.out hm3 (by omega) ?_; intro g4 n4 cap4 w4 hown4 hb4 hn4; have hn4' : 2000 < n4 := by have := hn4.out; omega)
                go_ret2
                refine HFIN3.out w4 ((Below.on HB.out HB3.out).trans hb4) j ?_
                rw [HDS.out, ← hown4.1]; exact hn4'
            · rw [ef] at HIX
              have eds2 : ds = [cs.getD j Cel.none] := by rw [eds, sub1, if_pos hc0, el]
              rw [← eds2] at HONE
              have HD0 : Hid (0 < ds.length ∧ ds.length ≤ 2000) := by rw [eds2]; exact ⟨by simp, by simp⟩
              have HCP := HONE
              obtain ⟨vv, evv⟩ : ∃ v, v = (cs.getD j Cel.none).2.1 := ⟨_, rfl⟩
              rw [← evv] at d1 HIX
              clear eds eds2 ef el evv hc0 HONE
              go_wp2_with fail
              refine HIX.mono ?_
              rintro e w9 ⟨rfl, hw9⟩
              rw [hw9]
              clear hw9 HIX
              go_wp2_with fail
              refine HCP.out.mono ?_
              rintro e w3 ⟨q3, m3, c3, rfl, ho3, hb3⟩
              have HO3 : Hid (OwnC w3 wr.heap.size q3 m3 c3 ds) := ho3
              have HB3 : Hid (Below wr.heap.size wr w3) := hb3
              have HM3 : Hid (m3 = ds.length) := ho3.1
              have hm3 : 0 < m3 := by rw [HM3.out]; exact HD0.out.1
              have hm3' : m3 ≤ 2000 := by rw [HM3.out]; exact HD0.out.2
              clear ho3 hb3 HCP
              by_cases hbig : m + m3 ≤ 2000
              · go_wp2_with (at_builtin; refine app_cells wr w3 rfl _ _ rfl w.heap.size r m cr _ rfl HO.out HB3.out hBs q3 m3 c3 _ rfl HO3.out hm3 (by omega) ?_; intro g4 n4 cap4 w4 hown4 hb4 hn4; have hn4' : n4 ≤ 2000 := by have := hn4.out; omega)
                have HO4 : Hid (OwnC w4 w.heap.size (some ⟨g4, 0, none⟩) n4 cap4 (applyC bs (cs.take (j + 1)))) := by rw [HDS.out]; exact hown4
                have HB4 : Hid (Below w.heap.size w w4) := (Below.on HB.out HB3.out).trans hb4
                clear hown4 hb4
                go_roundw
                case rel => exact ⟨j + 1, _, n4, cap4, by omega, hn4', by go_num, rfl, HO4, HB4⟩
                case measure => simp [intOf]; omega
              · go_wp2_with (at_builtin; refine app_cells wr w3 rfl _ _ rfl w.heap.size r m cr _ rfl HO.out HB3.out hBs q3 m3 c3 _ rfl HO3.out hm3 (by omega) ?_; intro g4 n4 cap4 w4 hown4 hb4 hn4; have hn4' : 2000 < n4 := by have := hn4.out; omega)
                go_ret2
                refine HFIN3.out w4 ((Below.on HB.out HB3.out).trans hb4) j ?_
                rw [HDS.out, ← hown4.1]; exact hn4'
          · have eds2 : ds = [cs.getD j Cel.none] := by rw [eds, sub1, if_neg hc0]
            rw [← eds2] at HONE
            have HD0 : Hid (0 < ds.length ∧ ds.length ≤ 2000) := by rw [eds2]; exact ⟨by simp, by simp⟩
            have HCP := HONE
            obtain ⟨kk, ekk⟩ : ∃ v, v = (cs.getD j Cel.none).1 := ⟨_, rfl⟩
            rw [← ekk] at d0 hc0
            have hc0' : (kk == 0) = false := by simpa using hc0
            clear eds eds2 ekk hc0 HONE d1
            go_wp2_with fail
            refine HCP.out.mono ?_
            rintro e w3 ⟨q3, m3, c3, rfl, ho3, hb3⟩
            have HO3 : Hid (OwnC w3 wr.heap.size q3 m3 c3 ds) := ho3
            have HB3 : Hid (Below wr.heap.size wr w3) := hb3
            have HM3 : Hid (m3 = ds.length) := ho3.1
            have hm3 : 0 < m3 := by rw [HM3.out]; exact HD0.out.1
            have hm3' : m3 ≤ 2000 := by rw [HM3.out]; exact HD0.out.2
            clear ho3 hb3 HCP
            by_cases hbig : m + m3 ≤ 2000
            · go_wp2_with (at_builtin; refine app_cells wr w3 rfl _ _ rfl w.heap.size r m cr _ rfl HO.out HB3.out hBs q3 m3 c3 _ rfl HO3.out hm3 (by omega) ?_; intro g4 n4 cap4 w4 hown4 hb4 hn4; have hn4' : n4 ≤ 2000 := by have := hn4.out; omega)
              have HO4 : Hid (OwnC w4 w.heap.size (some ⟨g4, 0, none⟩) n4 cap4 (applyC bs (cs.take (j + 1)))) := by rw [HDS.out]; exact hown4
              have HB4 : Hid (Below w.heap.size w w4) := (Below.on HB.out HB3.out).trans hb4
              clear hown4 hb4
              go_roundw
              case rel => exact ⟨j + 1, _, n4, cap4, by omega, hn4', by go_num, rfl, HO4, HB4⟩
              case measure => simp [intOf]; omega
            · go_wp2_with (at_builtin; refine app_cells wr w3 rfl _ _ rfl w.heap.size r m cr _ rfl HO.out HB3.out hBs q3 m3 c3 _ rfl HO3.out hm3 (by omega) ?_; intro g4 n4 cap4 w4 hown4 hb4 hn4; have hn4' : 2000 < n4 := by have := hn4.out; omega)
              go_ret2
              refine HFIN3.out w4 ((Below.on HB.out HB3.out).trans hb4) j ?_
              rw [HDS.out, ← hown4.1]; exact hn4'
        · obtain rfl : j = t := by omega
          go_wp2_with fail
          go_ret2
          exact HFIN0.out _ _ _ _ HB.out HO.out hm
    · have h2' : validB cs = false := by simpa using h2
      rw [h2'] at HV2
      have HFIN : Hid (∀ w', Below w.heap.size w w' → ApplyOut w bs cs (.returned (.tuple #[.slice none 0 0, .int .i64 1])) w') := fun w' hb => by
        unfold ApplyOut
        rw [applyR, if_neg (fun h => h2 h.2)]
        exact ⟨_, _, _, rfl, OwnC.nil _ _, hb⟩
      clear h1 h2 h2' hb hc hn hm hw
      go_enter Try.func15, Try.ntmps15
      go_wp2_with fail
      refine HV1.mono ?_
      rintro e w1 ⟨rfl, hb1⟩
      have HB1 : Hid (Below w.heap.size w w1) := hb1
      clear hb1 HV1
      go_wp2_with fail
      refine (HV2.out w1 HB1.out).mono ?_
      rintro e w2 ⟨rfl, hb2⟩
      have HB2 : Hid (Below w.heap.size w w2) := Below.on HB1.out hb2
      clear hb2
      go_wp2_with fail
      go_ret2
      exact HFIN.out _ HB2.out
  · have h1' : substB bs = false := by simpa using h1
    rw [h1'] at HV1
    have HFIN : Hid (∀ w', Below w.heap.size w w' → ApplyOut w bs cs (.returned (.tuple #[.slice none 0 0, .int .i64 1])) w') := fun w' hb => by
      unfold ApplyOut
      rw [applyR, if_neg (fun h => h1 h.1)]
      exact ⟨_, _, _, rfl, OwnC.nil _ _, hb⟩
    clear h1 h1' hb hc hn hm hw
    go_enter Try.func15, Try.ntmps15
    go_wp2_with fail
    refine HV1.mono ?_
    rintro e w1 ⟨rfl, hb1⟩
    go_wp2_with fail
    go_ret2
    exact HFIN.out _ hb1

end Go.Proofs.Ytedlcmkhbccjgaa

namespace Go.Proofs.Ytedlcmkhbccjgaa
open Go Go.RowKit
set_option linter.unusedVariables false

/-- Bindings that are in order, and what they say. -/
structure BsR (bs : List Bnd) (M : BM) : Prop where
  up : ∀ i j, i < j → j < bs.length → (bs.getD i Bnd.zero).1 < (bs.getD j Bnd.zero).1
  rel : ∀ v, (∃ u, M v = some u ∧ look bs v = some (tcs u)) ∨ (M v = none ∧ look bs v = none)
/-- A tree as a slice of cells of W0. -/
def TIn (W0 : World) (q : Option Addr) (m c : Nat) (t : Tr) : Prop := m = (tcs t).length ∧ m ≤ c ∧ c ≤ 1000000000 ∧ CIn W0 q (tcs t)
/-- Bindings whose terms lie in W0. -/
def SubAt (W0 W : World) (b o : Nat) (x : Bnd) : Prop := ∃ q c, W.cell? ⟨b, o, none⟩ = some (.int .i64 x.1) ∧ W.cell? ⟨b, o + 1, none⟩ = some (.slice q x.2.length c) ∧ x.2.length ≤ c ∧ c ≤ 1000000000 ∧ CIn W0 q x.2
def SubIn (W0 W : World) (p : Option Addr) (bs : List Bnd) : Prop := 0 < bs.length → ∃ b o, p = some ⟨b, o, none⟩ ∧ ∀ i, i < bs.length → SubAt W0 W b (o + i * 2) (bs.getD i Bnd.zero)
theorem SubIn.bdin {W0 W : World} {p : Option Addr} {bs : List Bnd} (h : SubIn W0 W p bs) (hl : Below W0.heap.size W0 W) : BdIn W p bs := fun hn => by
  obtain ⟨b, o, e, h⟩ := h hn
  exact ⟨b, o, e, fun i hi => by
    obtain ⟨q, c, h1, h2, _, _, h3⟩ := h i hi
    exact ⟨q, c, h1, h2, h3.below hl⟩⟩
theorem SubIn.move {W0 W W' : World} {p : Option Addr} {bs : List Bnd} (h : SubIn W0 W p bs) (hc : ∀ b o v, p = some ⟨b, o, none⟩ → ∀ j, W.cell? ⟨b, j, none⟩ = some v → W'.cell? ⟨b, j, none⟩ = some v) : SubIn W0 W' p bs := fun hn => by
  obtain ⟨b, o, e, h⟩ := h hn
  exact ⟨b, o, e, fun i hi => by
    obtain ⟨q, c, h1, h2, h3⟩ := h i hi
    exact ⟨q, c, hc b o _ e _ h1, hc b o _ e _ h2, h3⟩⟩
/-- The state of the model in memory: k pairs have been counted. -/
structure MS (W0 W : World) (sb : Nat) (M : BM) (k : Nat) (p : Option Addr) (n c : Nat) (bs : List Bnd) : Prop where
  low : Below W0.heap.size W0 W
  hsb : W0.heap.size ≤ sb
  sub : W.cell? ⟨sb, 0, none⟩ = some (.slice p n c)
  prs : W.cell? ⟨sb, 1, none⟩ = some (.int .i64 k)
  len : n = bs.length
  lies : SubIn W0 W p bs
  bsr : BsR bs M
  few : n ≤ k
  kle : k ≤ 20000
  zero : n = 0 → p = none ∧ c = 0
  room : n ≤ c
  apart : ∀ a, p = some a → a.block ≠ sb ∧ W0.heap.size ≤ a.block
  free : ∀ o, W.frozen? ⟨sb, o, none⟩ = false
theorem MS.below {W0 W W' : World} {sb : Nat} {M : BM} {k : Nat} {p : Option Addr} {n c : Nat} {bs : List Bnd} (h : MS W0 W sb M k p n c bs) (hb : Below W.heap.size W W') : MS W0 W' sb M k p n c bs := ⟨Below.on h.low hb, h.hsb, (hb.cell (World.block_lt_of_cell? _ _ h.sub)).trans h.sub, (hb.cell (World.block_lt_of_cell? _ _ h.prs)).trans h.prs, h.len, h.lies.move (fun b o v _ j hv => (hb.cell (World.block_lt_of_cell? _ _ hv)).trans hv), h.bsr, h.few, h.kle, h.zero, h.room, h.apart, fun o => (hb.frozen (p := ⟨sb, o, none⟩) (show sb < W.heap.size from World.block_lt_of_cell? _ _ h.sub)).trans (h.free o)⟩
/-- A binding is found, or not. -/
theorem BsR.find {bs : List Bnd} {M : BM} (h : BsR bs M) (v : Int) : (∃ (k : Nat) (u : Tr), k < bs.length ∧ findI (bs.map Prod.fst) v = (k : Int) ∧ M v = some u ∧ (bs.getD k Bnd.zero).2 = tcs u) ∨ (findI (bs.map Prod.fst) v = -1 ∧ M v = none) := by
  rcases look_find bs v with ⟨k, h1, h2, h3⟩ | ⟨h1, h2⟩
  · rcases h.rel v with ⟨u, h4, h5⟩ | ⟨h4, h5⟩
    · rw [h3] at h5
      exact .inl ⟨k, u, h1, h2, h4, Option.some.inj h5⟩
    · rw [h3] at h5; cases h5
  · rcases h.rel v with ⟨u, h4, h5⟩ | ⟨h4, h5⟩
    · rw [h2] at h5; cases h5
    · exact .inr ⟨h1, h4⟩
def muT (r : Int → Nat) (t : Tr) : Nat := if t.1.1 = 0 then r t.1.2.1 + 1 else 0
/-- What l5walk answers. -/
def WalkO (W0 : World) (E : Tr) (w : World) (e : Ending) (w' : World) : Prop := ∃ (q : Option Addr) (m c : Nat), e = .returned (.slice q m c) ∧ TIn W0 q m c E ∧ Below w.heap.size w w'
theorem tcs_pos (t : Tr) : 0 < (tcs t).length := by simp [tcs]
theorem tcs_head (t : Tr) : (tcs t).getD 0 Cel.none = t.1 := rfl
set_option maxRecDepth 100000 in
set_option maxHeartbeats 1000000 in
theorem l5walk_any (M : BM) (r : Int → Nat) (hac : Acyc M r) (hMok : ∀ v u, M v = some u → u.fo.ok) (W0 : World) (sb kk : Nat) (p : Option Addr) (n c : Nat) (bs : List Bnd) (t E : Tr) (q : Option Addr) (m c' : Nat) (w : World) (hs : MS W0 w sb M kk p n c bs) (ht : t.fo.ok) (hin : TIn W0 q m c' t) (he : EndB M t E) :
    Calls Try.prog 74 #[.pointer (some ⟨sb, 0, none⟩), .slice q m c'] w (WalkO W0 E w) := by
  have c0 := hs.sub
  have HS : Hid (MS W0 w sb M kk p n c bs) := hs
  have HIX : Hid (∀ v W, Below w.heap.size w W → Calls Try.prog 40 #[.slice p n c, .int .i64 v] W fun e w' => e = .returned (.int .i64 (findI (bs.map Prod.fst) v)) ∧ w' = W) := fun v W hW => l5index_any p n c bs v W hs.len (by have := hs.few; have := hs.kle; omega) hs.bsr.up ((hs.lies.bdin hs.low).below hW)
  have HT0 : Hid (EndB M t E ∧ t.fo.ok ∧ TIn W0 q m c' t) := ⟨he, ht, hin⟩
  have HAC : Hid (Acyc M r ∧ ∀ v u, M v = some u → u.fo.ok) := ⟨hac, hMok⟩
  clear hs ht hin he hac hMok
  go_enter Try.func74, Try.ntmps74
  go_wp2_with fail
  go_loopg [1] (muT r t) (fun k s wr => ∃ (u : Tr) (q : Option Addr) (m c' : Nat), s = .slice q m c' ∧ Hid (EndB M u E ∧ u.fo.ok ∧ TIn W0 q m c' u) ∧ Hid (muT r u = k) ∧ Hid (Below w.heap.size w wr))
  case atStart => exact ⟨t, q, m, c', rfl, HT0, rfl, Below.refl _ _⟩
  case round =>
    obtain ⟨u, q, m, c', rfl, HT, HK, HB⟩ := hrel
    have HL0 : Hid (Below W0.heap.size W0 wr) := Below.on HS.out.low HB.out
    obtain ⟨bq, oq, rfl, hcs⟩ := HT.out.2.2.2.2.2 (tcs_pos u)
    obtain ⟨tp, tcap, g0, g1, g2, _⟩ := hcs 0 (tcs_pos u)
    rw [tcs_head] at g0 g1
    simp only [Nat.zero_mul, Nat.add_zero] at g0 g1
    have d0 := (HL0.out.cell (World.block_lt_of_cell? _ _ g0)).trans g0
    have d1 := (HL0.out.cell (World.block_lt_of_cell? _ _ g1)).trans g1
    have s0 := (HB.out.cell (World.block_lt_of_cell? _ _ c0)).trans c0
    have hmp : (0 : Int) < (m : Int) := by have := HT.out.2.2.1; have := tcs_pos u; omega
    have hmn : 0 < m := by omega
    by_cases h0 : u.1.1 = 0
    · have hk0 : (u.1.1 == 0) = true := by simpa using h0
      obtain ⟨x, ex⟩ : ∃ x, x = u.1.2.1 := ⟨_, rfl⟩
      obtain ⟨kd, ek⟩ : ∃ kd, kd = u.1.1 := ⟨_, rfl⟩
      rw [← ek] at d0 hk0
      rw [← ex] at d1
      have HIV : Hid (IsV u x) := by rw [ex]; exact ok_var HT.out.2.1 h0
      have HI := HIX.out x wr.drew HB.out.drew
      rcases HS.out.bsr.find x with ⟨j, z, hj, hfj, hMz, hcz⟩ | ⟨hfj, hMz⟩
      · rw [hfj] at HI
        obtain ⟨bp, op, hpp, hbd⟩ := HS.out.lies (by omega)
        subst hpp
        obtain ⟨qz, cz, e0, e1, e3, e4, e2⟩ := hbd j hj
        have l1 := (HB.out.cell (World.block_lt_of_cell? _ _ e1)).trans e1
        rw [hcz] at l1 e2 e3
        have hjn : (j : Int) < (n : Int) := by have := HS.out.len; omega
        have hj0 : (0 : Int) ≤ (j : Int) := by omega
        have hjneg : decide ((j : Int) < 0) = false := by simp
        have HN : Hid (EndB M z E ∧ z.fo.ok ∧ TIn W0 qz (tcs z).length cz z) := by
          refine ⟨?_, HAC.out.2 x z hMz, rfl, e3, e4, e2⟩
          cases HT.out.1 with
          | stay hst => rw [hst x HIV.out] at hMz; cases hMz
          | go hv hm' h' =>
            obtain rfl := HIV.out.inj hv
            rw [hMz] at hm'
            cases hm'
            exact h'
        have HM : Hid (muT r z < gk) := by
          have h1 : muT r u = r x + 1 := by unfold muT; rw [if_pos h0, ex]
          have h2 := HK.out
          show muT r z < gk
          rw [← h2, h1]
          unfold muT
          split
          · rename_i hz0
            have := HAC.out.1 x z hMz z.1.2.1 (by simp [vsT, vsF, hz0])
            omega
          · omega
        obtain ⟨lz, elz⟩ : ∃ lz, lz = (tcs z).length := ⟨_, rfl⟩
        have HLZ : Hid (lz = (tcs z).length) := elz
        rw [← elz] at l1
        have HBd : Hid (Below w.heap.size w wr.drew) := HB.out.drew
        clear hfj hMz hcz hbd e0 e1 e2 e3 e4 elz ex ek h0 hcs g0 g1 g2
        go_wp2_with fail
        go_region_held3 (fun W => W = wr.drew) (rfl) ((go_at_call 40; refine HI.mono ?_; rintro e w' ⟨rfl, rfl⟩))
        all_goals go_wp2_with fail
        all_goals go_roundg (muT r z)
        all_goals first
          | exact HM.out
          | exact ⟨z, qz, lz, cz, rfl, ⟨HN.out.1, HN.out.2.1, by rw [HLZ.out]; exact HN.out.2.2⟩, rfl, HBd⟩
      · rw [hfj] at HI
        have HF : Hid (WalkO W0 E w (.returned (.slice (some ⟨bq, oq, none⟩) m c')) wr.drew) := by
          have hE : E = u := by
            cases HT.out.1 with
            | stay _ => rfl
            | go hv hm' _ => obtain rfl := HIV.out.inj hv; rw [hMz] at hm'; cases hm'
          subst hE
          exact ⟨_, m, c', rfl, HT.out.2.2, HB.out.drew⟩
        clear hfj hMz ex ek h0 hcs g0 g1 g2
        go_wp2_with fail
        go_region_held3 (fun W => W = wr.drew) (rfl) ((go_at_call 40; refine HI.mono ?_; rintro e w' ⟨rfl, rfl⟩))
        all_goals go_wp2_with fail
        all_goals go_ret
        all_goals exact HF.out
    · have hk0 : (u.1.1 == 0) = false := by simpa using h0
      have HF : Hid (WalkO W0 E w (.returned (.slice (some ⟨bq, oq, none⟩) m c')) wr) := by
        have hE : E = u := by
          cases HT.out.1 with
          | stay _ => rfl
          | go hv _ _ => exact absurd hv.1 h0
        subst hE
        exact ⟨_, m, c', rfl, HT.out.2.2, HB.out⟩
      clear h0 hcs g0 g1 g2
      go_wp2_with fail
      go_ret
      exact HF.out

end Go.Proofs.Ytedlcmkhbccjgaa

