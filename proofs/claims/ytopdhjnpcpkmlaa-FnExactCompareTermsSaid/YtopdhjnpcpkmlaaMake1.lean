/- Cells put behind cells; l2atom, l2list. Own work of the verifier. -/
import Derived.Test.YtopdhjnpcpkmlaaSS2
import Derived.Test.YtopdhjnpcpkmlaaCp1
import Derived.Test.YtopdhjnpcpkmlaaItems2
namespace Go.Proofs.Ytopdhjnpcpkmlaa
open Go Go.RowKit
set_option linter.unusedVariables false

theorem rs_cat_at (a b : List RC) (i : Nat) : (a ++ b).getD i RC.zero = if i < a.length then a.getD i RC.zero else b.getD (i - a.length) RC.zero := by
  by_cases h : i < a.length
  · rw [if_pos h, List.getD, List.getD, List.getElem?_append_left h]
  · rw [if_neg h, List.getD, List.getD, List.getElem?_append_right (by omega)]
theorem cs_cat_at (a b : List Cel) (i : Nat) : (a ++ b).getD i Cel.none = if i < a.length then a.getD i Cel.none else b.getD (i - a.length) Cel.none := by
  by_cases h : i < a.length
  · rw [if_pos h, List.getD, List.getD, List.getElem?_append_left h]
  · rw [if_neg h, List.getD, List.getD, List.getElem?_append_right (by omega)]
theorem flat_one' (rs : List RC) : ∀ u ∈ flat rs, u.oneCell' = true := fun u hu => by
  obtain ⟨r, _, hr⟩ := List.mem_flatMap.1 hu
  exact rcV_one r u hr

/-- Behind an append of cells whose texts are new. -/
theorem ownC_grewL {W0 w w' : World} {B g n cap cp : Nat} {p : Option Addr} {cs ds : List Cel} {rs rs2 : List RC} (hn : n = cs.length) (hl : rs.length = cs.length) (hr0 : W0.ownsRow B 54 3 (.slice p n cp) n (flat rs))
    (hf : ∀ i, i < cs.length → Fits W0 B (rs.getD i RC.zero) (cs.getD i Cel.none)) (ha : ApartC p rs) (hb0 : Below W0.heap.size W0 w) (hB : B ≤ W0.heap.size)
    (hl2 : rs2.length = ds.length) (hf2 : ∀ i, i < ds.length → Fits w W0.heap.size (rs2.getD i RC.zero) (ds.getD i Cel.none)) (ha2 : ∀ i j, i < rs2.length → j < rs2.length → i ≠ j → 0 < (rs2.getD i RC.zero).2.2.2.1 → 0 < (rs2.getD j RC.zero).2.2.2.1 → (rs2.getD i RC.zero).2.2.1 ≠ (rs2.getD j RC.zero).2.2.1)
    (hr : w'.ownsRow B 54 3 (.slice (some ⟨g, 0, none⟩) (n + ds.length) cap) (n + ds.length) (flat rs ++ flat rs2)) (hg : w.grownBy w' (Value.ownBlock (.slice p n cp))) (hat : Value.ownBlock (.slice p n cp) = some g ∨ g = w.heap.size) :
    OwnC w' B (some ⟨g, 0, none⟩) (n + ds.length) cap (cs ++ ds) := by
  have hown : ∀ k, Value.ownBlock (.slice p n cp) = some k → p = some ⟨k, 0, none⟩ ∧ k < W0.heap.size := fun k hk => by
    rcases hr0.2 with ⟨hv, _⟩ | ⟨g', cap', cur, hv, hb, hg', _⟩
    · simp only [Value.slice.injEq] at hv; rw [hv.1] at hk; simp [Value.ownBlock] at hk
    · simp only [Value.slice.injEq] at hv
      rw [hv.1] at hk ⊢
      simp [Value.ownBlock] at hk
      subst hk
      exact ⟨rfl, (Array.getElem?_eq_some_iff.1 hg').1⟩
  have hlow : ∀ i, i < cs.length → 0 < (rs.getD i RC.zero).2.2.2.1 → ∃ k, (rs.getD i RC.zero).2.2.1 = some ⟨k, 0, none⟩ ∧ k < W0.heap.size := fun i hi hp => by
    obtain ⟨k, e, _, hlt, _⟩ := (hf i hi).2.2.2 hp
    exact ⟨k, e, hlt⟩
  have hhigh : ∀ i, i < ds.length → 0 < (rs2.getD i RC.zero).2.2.2.1 → ∃ k, (rs2.getD i RC.zero).2.2.1 = some ⟨k, 0, none⟩ ∧ W0.heap.size ≤ k ∧ k < w.heap.size := fun i hi hp => by
    obtain ⟨k, e, h1, h2, _⟩ := (hf2 i hi).2.2.2 hp
    exact ⟨k, e, h1, h2⟩
  have hnewg : g < W0.heap.size ∨ g = w.heap.size := by
    rcases hat with h | h
    · exact .inl (hown g h).2
    · exact .inr h
  refine ⟨by simp; omega, rs ++ rs2, by simp; omega, by rw [flat_append]; exact hr, fun i hi => ?_, fun i hi hp => ?_, fun i j hi hj hij hpi hpj => ?_⟩
  · rw [rs_cat_at, cs_cat_at, hl]
    by_cases e : i < cs.length
    · rw [if_pos e, if_pos e]
      refine ⟨(hf i e).1, (hf i e).2.1, ((hf i e).2.2.below hb0).other hg.size (fun k hn0 e' => ?_)⟩
      obtain ⟨k', e'', h1⟩ := hlow i e hn0
      have hkk : k = k' := congrArg Addr.block (Option.some.inj (e'.symm.trans e''))
      refine hg.block k (by have := hb0.size; omega) (fun hk => ?_)
      exact ha.1 i (by omega) hn0 (by rw [e', (hown k hk.symm).1])
    · have hi' : i - cs.length < ds.length := by simp at hi; omega
      rw [if_neg e, if_neg e]
      refine ⟨(hf2 _ hi').1, (hf2 _ hi').2.1, ((hf2 _ hi').2.2.mono hB).other hg.size (fun k hn0 e' => ?_)⟩
      obtain ⟨k', e'', h1, h2⟩ := hhigh _ hi' hn0
      have hkk : k = k' := congrArg Addr.block (Option.some.inj (e'.symm.trans e''))
      refine hg.block k (by omega) (fun hk => ?_)
      have := (hown k hk.symm).2
      omega
  · rw [rs_cat_at] at hp ⊢
    by_cases e : i < rs.length
    · rw [if_pos e] at hp ⊢
      obtain ⟨k', e'', h1⟩ := hlow i (by omega) hp
      rcases hat with h | h
      · rw [← (hown g h).1]
        exact ha.1 i e hp
      · rw [e'']
        exact ne_block (by have := hb0.size; omega) hp
    · rw [if_neg e] at hp ⊢
      obtain ⟨k', e'', h1, h2⟩ := hhigh _ (by simp at hi; omega) hp
      rw [e'']
      exact ne_block (by omega) hp
  · rw [rs_cat_at] at hpi hpj ⊢
    rw [rs_cat_at]
    by_cases e : i < rs.length
    · rw [if_pos e] at hpi ⊢
      by_cases e' : j < rs.length
      · rw [if_pos e'] at hpj ⊢
        exact ha.2 i j e e' hij hpi hpj
      · rw [if_neg e'] at hpj ⊢
        obtain ⟨k', e'', h1, h2⟩ := hhigh _ (by simp at hj; omega) hpj
        obtain ⟨k2, e2, h3⟩ := hlow i (by omega) hpi
        rw [e'', e2]
        exact ne_block (by omega) hpi
    · rw [if_neg e] at hpi ⊢
      by_cases e' : j < rs.length
      · rw [if_pos e'] at hpj ⊢
        obtain ⟨k', e'', h1, h2⟩ := hhigh _ (by simp at hi; omega) hpi
        obtain ⟨k2, e2, h3⟩ := hlow j (by omega) hpj
        rw [e'', e2]
        exact ne_block (by omega) hpi
      · rw [if_neg e'] at hpj ⊢
        exact ha2 _ _ (by simp at hi; omega) (by simp at hj; omega) (by omega) hpi hpj

/-- append of cells of the call's own onto others. -/
theorem app_cells (W0 w : World) {ops : Array Oper} {rest : List Oper} {o : Oper} {a : Act} {Q : Exit → Act → World → Prop} (hgd : o.guard = none) (s x : Operand)
    (ho : o.op = .call { callee := .builtin .append, args := #[s, x], argTypes := #[25, 25] }) (B : Nat) (p : Option Addr) (n c : Nat) (cs : List Cel)
    (hs : a.eval s = .slice p n c) (hown : OwnC W0 B p n c cs) (hb0 : Below W0.heap.size W0 w) (hB : B ≤ W0.heap.size) (q : Option Addr) (m cq : Nat) (ds : List Cel) (hx : a.eval x = .slice q m cq) (hit : OwnC w W0.heap.size q m cq ds) (hm : 0 < m) (hlen : n + m ≤ 1000000000)
    (h : ∀ g n' cap w', OwnC w' B (some ⟨g, 0, none⟩) n' cap (cs ++ ds) → Below B w w' → Hid (n' = n + m) → wpList Try.prog ops Q rest (a.put o.dst (.slice (some ⟨g, 0, none⟩) n' cap)) w') : wpList Try.prog ops Q (o :: rest) a w := by
  obtain ⟨i0, hi, hz0, hz1, hz2⟩ := info_parts infoCell
  obtain ⟨hn, rs, hl, hr, hf, ha⟩ := hown
  obtain ⟨hn2, rs2, hl2, hr2, hf2, ha2⟩ := hit
  obtain ⟨gq, cq', hv, hbq, hgq⟩ := hr2.form hm
  simp only [Value.slice.injEq, true_and] at hv
  obtain ⟨rfl, rfl⟩ := hv
  refine wpList_append_lies w hgd s x 25 ho B 54 i0 (.agg #[.int .i64 0, .int .i64 0, .slice none 0 0]) 3 40 Try.underlying25 hi hz0 hz1 hz2 rfl (by decide) (.slice p n c) n (flat rs) hs (row_below hr hb0) ⟨gq, 0, none⟩ m cq (flat rs2) hx (by rw [flat_len]; omega) (hr2.cells rfl) (flat_one' rs2) hm (by unfold maxLen; omega) (by omega) (Nat.le_trans hB hb0.size) w.heap.size rfl ?_
  intro g cap w' hown' hgrow hat hlt
  subst hn2
  refine h g _ cap w' (ownC_grewL hn hl hr hf ha hb0 hB hl2 hf2 ha2.2 hown' hgrow hat) ((Below.refl _ _).grown hgrow (Nat.le_trans hB hb0.size) (fun k hk => ?_)) rfl
  exact (hr.lt k hk).1

theorem nil_str : (⟨#[91, 93]⟩ : ByteArray) = strOfNums [91, 93] := rfl
theorem l2atom_any (w : World) : Calls Try.prog 50 #[.string ⟨#[91, 93]⟩] w fun e w' => ∃ p, e = .returned (.slice p 1 1) ∧ CIn w' p [nilC] ∧ Below w.heap.size w w' := by
  obtain ⟨w1, cap1, hcv, hb1, ht⟩ := conv_bytes w [91, 93] (fun x hx => by simp at hx; omega) 9 Try.underlying9
  rw [← nil_str] at hcv
  have hcv' : (convert 9 50 (.string ⟨#[91, 93]⟩)).run Try.prog w = .ok (.slice (some ⟨w.heap.size, 0, none⟩) 2 cap1) w1 := hcv
  have hb : Below w1.heap.size w1 (w1.alloc (Obj.cells #[Value.int IntKind.i64 2, Value.int IntKind.i64 0, Value.slice (some ⟨w.heap.size, 0, none⟩) 2 cap1] 54)) := (Below.refl _ _).alloc (Nat.le_refl _) _
  have HX : Hid (Box3 (w1.alloc (Obj.cells #[Value.int IntKind.i64 2, Value.int IntKind.i64 0, Value.slice (some ⟨w.heap.size, 0, none⟩) 2 cap1] 54)) w1.heap.size (.int .i64 2) (.int .i64 0) (.slice (some ⟨w.heap.size, 0, none⟩) 2 cap1)) := Box3.of_block (t := 54) (heap_alloc_new _ _)
  have HT : Hid _ := (ht.below hb).bin
  have HB : Hid (Below w.heap.size w (w1.alloc (Obj.cells #[Value.int IntKind.i64 2, Value.int IntKind.i64 0, Value.slice (some ⟨w.heap.size, 0, none⟩) 2 cap1] 54))) := Below.on hb1 hb
  clear hb1 ht hcv hb
  go_enter Try.func50, Try.ntmps50
  go_wp2_with fail
  go_ret
  refine ⟨_, rfl, fun _ => ⟨w1.heap.size, 0, rfl, fun i hi => ?_⟩, HB.out⟩
  have hi0 : i = 0 := by simp at hi; omega
  subst hi0
  exact ⟨_, cap1, HX.out.1, HX.out.2.1, HX.out.2.2.1, HT.out⟩

theorem conv_dot (w : World) : (convert 50 50 (.slice (some ⟨w.heap.size, 0, none⟩) 1 1)).run Try.prog (w.alloc (.cells #[.int .u8 46] 5)) = .ok (.slice (some ⟨w.heap.size, 0, none⟩) 1 1) (w.alloc (.cells #[.int .u8 46] 5 (1, 2))) :=
  Lib.run_convert_bytes_const (P := Try.prog) w 50 5 #[.int .u8 46] 1 1 Try.underlying50 Try.underlying5
theorem dot_text (w : World) : OwnT (w.alloc (.cells #[.int .u8 46] 5 (1, 2))) w.heap.size (some ⟨w.heap.size, 0, none⟩) 1 1 [46] := ⟨rfl, fun _ => ⟨w.heap.size, rfl, Nat.le_refl _, by simp, fun i hi => by
  have hi0 : i = 0 := by omega
  subst hi0
  refine ⟨cell_of_row _ _ 0 _ _ _ (heap_alloc_new _ _), ?_⟩
  simp only [World.frozen?, heap_alloc_new]
  simp⟩⟩
/-- The cells of a list of terms. -/
def mkL (css : List (List Cel)) : List Cel := css.flatMap (fun cs => dot :: cs)
theorem mkL_take (css : List (List Cel)) (j : Nat) (h : j < css.length) : mkL (css.take (j + 1)) = mkL (css.take j) ++ [dot] ++ css.getD j [] := by
  rw [mkL, List.take_succ_eq_append_getElem h, List.flatMap_append, List.getD, List.getElem?_eq_getElem h]
  simp [mkL]
theorem mkL_len : ∀ css : List (List Cel), (mkL css).length = (css.map (fun cs => cs.length + 1)).sum
  | [] => rfl
  | c :: r => by
    have := mkL_len r
    simp only [mkL, List.flatMap_cons, List.map_cons, List.sum_cons, List.length_append, List.length_cons] at this ⊢
    omega

set_option maxRecDepth 100000 in
set_option maxHeartbeats 1000000 in
theorem l2list_any (css : List (List Cel)) (p q : Option Addr) (n c cq : Nat) (w : World) (hn : n = css.length) (hl : n ≤ 2000) (hne : ∀ i, i < css.length → 0 < (css.getD i []).length) (hb : css.length + tll css ≤ 1048576) (hsz : (mkL css).length ≤ 1000000) (hin : CCIn w p css) (hend : CIn w q [nilC]) :
    Calls Try.prog 49 #[.slice p n c, .slice q 1 cq] w fun e w' => ∃ r m cr, e = .returned (.slice r m cr) ∧ OwnC w' w.heap.size r m cr (mkL css ++ [nilC]) ∧ Below w.heap.size w w' := by
  have HI : Hid (CCIn w p css) := hin
  have HE : Hid (CIn w q [nilC]) := hend
  have HN : Hid (n = css.length) := hn
  have HNE : Hid _ := hne
  have hcs := conv_dot
  clear hin hend hn hne
  go_enter Try.func49, Try.ntmps49
  go_wp2_with fail
  go_loopw [5, 6] (fun s i wr => ∃ (j : Nat) (r : Option Addr) (m cr : Nat), j ≤ n ∧ m ≤ 1000000 ∧ i = .int .i64 j ∧ s = .slice r m cr ∧ Hid (OwnC wr w.heap.size r m cr (mkL (css.take j))) ∧ Hid (Below w.heap.size w wr)) (fun _ i _ => n - (intOf i).toNat)
  case atStart => exact ⟨0, none, 0, 0, Nat.zero_le _, by decide, rfl, rfl, OwnC.nil _ _, Below.refl _ _⟩
  case round =>
    obtain ⟨j, r, m, cr, hj, hm, rfl, rfl, HO, HB⟩ := hrel
    have hBs : w.heap.size ≤ wr.heap.size := HB.out.size
    by_cases hlt : j < n
    · have hjl : j < css.length := by rw [← HN.out]; exact hlt
      have hal : Below wr.heap.size wr (wr.alloc (.cells #[.int .u8 46] 5 (1, 2))) := (Below.refl _ _).alloc (Nat.le_refl _) _
      have HT0 : Hid (OwnT (wr.alloc (.cells #[.int .u8 46] 5 (1, 2))) wr.heap.size (some ⟨wr.heap.size, 0, none⟩) 1 1 [46]) := dot_text wr
      obtain ⟨b, o, rfl, hcss⟩ := HI.out (by omega)
      obtain ⟨qi, ci, x0, x1⟩ := hcss j hjl
      have HX1 : Hid (CIn w qi (css.getD j [])) := x1
      have hbj := tll_at css j hjl
      have hpos := HNE.out j hjl
      obtain ⟨li, eli⟩ : ∃ li, li = (css.getD j []).length := ⟨_, rfl⟩
      have HLI : Hid (li = (css.getD j []).length) := eli
      have hli : 0 < li := by omega
      have hli2 : li ≤ 1048576 := by omega
      rw [← eli] at x0
      have X0 : Hid (w.cell? ⟨b, o + j, none⟩ = some (.slice qi li ci)) := x0
      have HBJ : Hid ((css.getD j []).length + tl (css.getD j []) ≤ 1048576) := by show _ ≤ _; omega
      have HMK : Hid _ := mkL_take css j hjl
      have HML : Hid ((mkL (css.take (j + 1))).length ≤ 1000000) := by
        have h1 : mkL css = mkL (css.take (j + 1)) ++ mkL (css.drop (j + 1)) := by rw [mkL, mkL, mkL, ← List.flatMap_append, List.take_append_drop]
        have h2 := congrArg List.length h1
        rw [List.length_append] at h2
        show _ ≤ _
        omega
      clear hcss x1 hbj hpos eli x0
      have hal2 : Below (wr.alloc (.cells #[.int .u8 46] 5 (1, 2))).heap.size (wr.alloc (.cells #[.int .u8 46] 5 (1, 2))) ((wr.alloc (.cells #[.int .u8 46] 5 (1, 2))).alloc (Obj.cells #[Value.int IntKind.i64 3, Value.int IntKind.i64 2, Value.slice (some ⟨wr.heap.size, 0, none⟩) 1 1] 54)) := (Below.refl _ _).alloc (Nat.le_refl _) _
      have HBA : Hid (Below wr.heap.size wr ((wr.alloc (.cells #[.int .u8 46] 5 (1, 2))).alloc (Obj.cells #[Value.int IntKind.i64 3, Value.int IntKind.i64 2, Value.slice (some ⟨wr.heap.size, 0, none⟩) 1 1] 54))) := Below.on hal hal2
      have HTT : Hid (OwnT ((wr.alloc (.cells #[.int .u8 46] 5 (1, 2))).alloc (Obj.cells #[Value.int IntKind.i64 3, Value.int IntKind.i64 2, Value.slice (some ⟨wr.heap.size, 0, none⟩) 1 1] 54)) wr.heap.size (some ⟨wr.heap.size, 0, none⟩) 1 1 [46]) := HT0.out.below hal2
      have hnew := heap_alloc_new (wr.alloc (.cells #[.int .u8 46] 5 (1, 2))) (Obj.cells #[Value.int IntKind.i64 3, Value.int IntKind.i64 2, Value.slice (some ⟨wr.heap.size, 0, none⟩) 1 1] 54)
      have esz : (wr.alloc (.cells #[.int .u8 46] 5 (1, 2))).heap.size = wr.heap.size + 1 := by simp
      rw [esz] at hnew
      have HBX : Hid (Box3 ((wr.alloc (.cells #[.int .u8 46] 5 (1, 2))).alloc (Obj.cells #[Value.int IntKind.i64 3, Value.int IntKind.i64 2, Value.slice (some ⟨wr.heap.size, 0, none⟩) 1 1] 54)) (wr.heap.size + 1) (.int .i64 3) (.int .i64 2) (.slice (some ⟨wr.heap.size, 0, none⟩) 1 1)) := Box3.of_block (t := 54) hnew
      clear hal hal2 hnew esz HT0
      go_wp2_with (at_builtin; refine app_cell wr _ rfl _ _ rfl w.heap.size r m cr _ rfl HO.out HBA.out hBs ⟨wr.heap.size + 1, 0, none⟩ 1 rfl 3 2 (some ⟨wr.heap.size, 0, none⟩) 1 1 [46] HTT.out (news_rc HBX.out) (by omega) ?_; intro g1 n1 cap1 w2 hown2 hb2 hn1; have hB2 : Below w.heap.size w w2 := (HB.out.trans (HBA.out.mono hBs)).trans hb2; have y0 := (hB2.cell (World.block_lt_of_cell? _ _ X0.out)).trans X0.out)
      have HB2 : Hid (Below w.heap.size w w2) := hB2
      have HO2 : Hid (OwnC w2 w.heap.size (some ⟨g1, 0, none⟩) n1 cap1 (mkL (css.take j) ++ [dot])) := hown2
      have HN1 : Hid (n1 = m + 1) := hn1.out
      have hn1' : n1 ≤ 1000001 := by have := hn1.out; omega
      have HCP := l2copy_any qi li ci (css.getD j []) w2 HLI.out (by have := HBJ.out; omega) (HX1.out.below hB2)
      clear hown2 hb2 hB2
      refine HCP.mono ?_
      rintro e w3 ⟨q3, m3, c3, rfl, ho3, hb3⟩
      have HO3 : Hid (OwnC w3 w2.heap.size q3 m3 c3 (css.getD j [])) := ho3
      have HB3 : Hid (Below w2.heap.size w2 w3) := hb3
      have HM3 : Hid (m3 = li) := by show _ = _; rw [ho3.1, HLI.out]
      have hm3 : 0 < m3 := by have := HM3.out; omega
      have hm3' : m3 ≤ 1048576 := by have := HM3.out; omega
      have hBs2 : w.heap.size ≤ w2.heap.size := HB2.out.size
      clear ho3 hb3 HCP
      go_wp2_with (at_builtin; refine app_cells w2 w3 rfl _ _ rfl w.heap.size (some ⟨g1, 0, none⟩) n1 cap1 _ rfl HO2.out HB3.out hBs2 q3 m3 c3 _ rfl HO3.out hm3 (by omega) ?_; intro g4 n4 cap4 w4 hown4 hb4 hn4)
      have HO4 : Hid (OwnC w4 w.heap.size (some ⟨g4, 0, none⟩) n4 cap4 (mkL (css.take (j + 1)))) := by rw [HMK.out]; exact hown4
      have HB4 : Hid (Below w.heap.size w w4) := (Below.on HB2.out HB3.out).trans hb4
      have hn4' : n4 ≤ 1000000 := by rw [HO4.out.1]; exact HML.out
      clear hown4 hb4
      go_roundw
      case rel => exact ⟨j + 1, _, n4, cap4, by omega, hn4', by go_num, rfl, HO4, HB4⟩
      case measure => simp [intOf]; omega
    · obtain rfl : j = n := by omega
      have HCP := l2copy_any q 1 cq [nilC] wr rfl (by decide) (HE.out.below HB.out)
      have HOA : Hid (OwnC wr w.heap.size r m cr (mkL css)) := by have := HO.out; rwa [List.take_of_length_le (by rw [← HN.out]; exact Nat.le_refl _)] at this
      go_wp2_with fail
      refine HCP.mono ?_
      rintro e w3 ⟨q3, m3, c3, rfl, ho3, hb3⟩
      have HO3 : Hid (OwnC w3 wr.heap.size q3 m3 c3 [nilC]) := ho3
      have HB3 : Hid (Below wr.heap.size wr w3) := hb3
      have hm3 : m3 = 1 := ho3.1
      subst hm3
      clear ho3 hb3 HCP
      go_wp2_with (at_builtin; refine app_cells wr w3 rfl _ _ rfl w.heap.size r m cr _ rfl HOA.out HB3.out hBs q3 1 c3 _ rfl HO3.out (by decide) (by omega) ?_; intro g4 n4 cap4 w4 hown4 hb4 hn4)
      go_ret
      exact ⟨_, _, _, rfl, hown4, (Below.on HB.out HB3.out).trans hb4⟩

end Go.Proofs.Ytopdhjnpcpkmlaa
