/- Texts of LawFt. Own work of the verifier. -/
import Derived.Test.YtfgmenkoeflhaaaGreatDoorUqbx
namespace Go.Proofs.YtfgmenkoeflhaaaGreatDoor
open Go Go.RowKit
set_option linter.unusedVariables false
set_option linter.unusedSimpArgs false
theorem drop_tok (ts : List Tok) (i : Nat) (h : i < ts.length) : ts.drop i = ts.getD i Tok.none :: ts.drop (i + 1) := by
 rw [List.drop_eq_getElem_cons h]; simp [List.getD, h]
theorem emp_below {wr wz : World} {o : Obj} (hg : (wr.alloc o).grownBy wz (Value.ownBlock (.slice (some ⟨wr.heap.size, 0, none⟩) 0 0))) : Below wr.heap.size wr wz :=
 ((Below.refl _ _).alloc (Nat.le_refl _) _).grown hg (by simp) (fun k hk => by simp [Value.ownBlock] at hk; omega)
theorem quote_lenF (Z : List Int) (h : Z.length ≤ 100) : (quoteB Z).length ≤ 600 := by
 unfold quoteB
 rw [if_neg (by omega)]
 split
 ·omega
 ·have := q1s_len Z
  unfold quotedB
  simp only [List.length_cons, List.length_append, List.length_nil]
  omega
theorem quote_byteF {Z : List Int} (hb : Bytes Z) (h : Z.length ≤ 100) : Bytes (quoteB Z) ∧ 0 < (quoteB Z).length := by
 refine ⟨quote_byte hb, ?_⟩
 unfold quoteB
 rw [if_neg (by omega)]
 split
 ·rename_i hp
  unfold plainB at hp
  split at hp
  ·cases hp
  ·omega
 ·unfold quotedB; simp
theorem str_is {Z : List Int} (hb : Bytes Z) (l : List UInt8) : ((strOfNums Z).toList == l) = decide (Z = l.map (fun u => (u.toNat : Int))) := by
 rw [Bool.eq_iff_iff, beq_iff_eq, decide_eq_true_iff]; exact str_eq hb l
theorem ownS_some {w : World} {B : Nat} {p : Option Addr} {n c : Nat} {ys : List Int} (h : OwnS w B p n c ys) (hp : 0 < ys.length) : ∃ g, p = some ⟨g, 0, none⟩ := by
 rcases h.2.2 with ⟨_, h0⟩ | ⟨g, cap, cur, hv, _⟩
 ·have := h.1; omega
 ·simp only [Value.slice.injEq, true_and] at hv
  exact ⟨g, hv.1⟩
set_option maxRecDepth 100000 in
set_option maxHeartbeats 20000000 in
theorem lawFt_any (p : Option Addr) (c : Nat) (xs : List Int) (m : Int) (w : World) (hb : Bytes xs) (hc : xs.length ≤ c) (hlen : xs.length ≤ 9223372036854775807) (hx : BIn w p xs) (hE : LxEnv w m) :
  Calls Tryz.prog 3 #[.slice p xs.length c] w fun e w' => e = .returned (.bool true) ∧ Below w.heap.size w w' := by
 by_cases hbig : xs.length ≤ 1048576
 ·obtain ⟨n, en⟩ : ∃ n, n = xs.length := ⟨_, rfl⟩
  obtain ⟨X, eX⟩ : ∃ X, X = dlF xs := ⟨_, rfl⟩
  obtain ⟨Nm, eN⟩ : ∃ N, N = dqF xs := ⟨_, rfl⟩
  have hXg := dlF_good hb; have hNg := dqF_good hb; rw [← eX] at hXg; rw [← eN] at hNg
  have HDL : Hid (∀ W, Below w.heap.size w W → Calls Tryz.prog 4 #[.slice p n c] W fun e w' => ∃ q m cap, e = .returned (.slice q m cap) ∧ OwnR w' W.heap.size q m cap X ∧ Below W.heap.size W w') := fun W hW => by rw [eX]; exact drawLex_any p c n xs W hb hbig hc (hx.below hW) en
  have HDQ : Hid (∀ W, Below w.heap.size w W → Calls Tryz.prog 8 #[.slice p n c] W fun e w' => ∃ q m cap, e = .returned (.slice q m cap) ∧ OwnR w' W.heap.size q m cap Nm ∧ Below W.heap.size W w') := fun W hW => by rw [eN]; exact drawQuote_any p c n xs W hb hbig hc (hx.below hW) en
  have HIX : Hid (∀ (W : World) (B : Nat) (q : Option Addr) (k cap : Nat) (Z : List Int), Below w.heap.size w W → Bytes Z → Z.length ≤ 9000000000 → OwnR W B q k cap Z → Calls Tryz.prog 6 #[.slice q k cap] W (LexOut W (lexT Z))) := fun W B q k cap Z hW h1 h2 h3 => implLexR h3 h1 h2 (hE.below hW)
  have HSX : Hid (∀ (W : World) (B : Nat) (q : Option Addr) (k cap : Nat), OwnR W B q k cap X → Calls Tryz.prog 5 #[.slice q k cap] W (LexOut W (lexT X))) := fun W B q k cap h3 => specLexR h3 hXg.1 (by omega)
  have HQT : Hid (∀ (W : World) (B : Nat) (q : Option Addr) (k cap : Nat), Below w.heap.size w W → OwnR W B q k cap Nm → Calls Tryz.prog 9 #[.slice q k cap] W fun e w' => ∃ p' n' c', e = .returned (.slice p' n' c') ∧ OwnS w' W.heap.size p' n' c' (quoteB Nm) ∧ Below W.heap.size W w') := fun W B q k cap hW h3 => implQuoteR h3 hNg.1 (by omega) (hE.below hW)
  have HXG : Hid (Bytes X ∧ X.length ≤ 4000000000) := hXg; have HNG : Hid (Bytes Nm ∧ Nm.length ≤ 110) := hNg
  obtain ⟨ts, cd, at_, hts⟩ : ∃ ts cd at_, lexT X = (ts, cd, at_) := ⟨_, _, _, rfl⟩
  have HCH : Hid (cd = 0 → X.length ≤ 10000 ∧ Chain X 0 (-1) ts) := fun h => by have := lexT_chain hXg.1 (by rw [hts]; exact h); rw [hts] at this; exact this
  have HTSL : Hid (ts.length ≤ 2000000 ∧ ∀ i, i < ts.length → (ts.getD i Tok.none).2.length ≤ 2000000) := by
   have h1 := lexT_size hXg.1; rw [hts] at h1; have h1 : ts.length + ttl ts ≤ 2000000 := h1; exact ⟨by omega, fun i hi => by have := ttl_at ts i hi; omega⟩
  have HTS : Hid (lexT X = (ts, cd, at_)) := hts; rw [← en]
  have hn : n ≤ 1048576 := by omega
  clear hb hc hlen hx hE hbig en eX eN hXg hNg hts
  go_enter Tryz.func3, Tryz.ntmps3
  go_wp2_with fail; refine (HDL.out w (Below.refl _ _)).mono ?_; rintro e w1 ⟨q1, n1, c1, rfl, ho1, hb1⟩; have HB1 : Hid (Below w.heap.size w w1) := hb1; have HO1 : Hid (OwnR w1 w.heap.size q1 n1 c1 X) := ho1; obtain ⟨hn1, hc1, hc1', g1, eg1, hBg, hrow⟩ := ho1.row; subst eg1
  have HR1 : Hid (∀ W, Below w1.heap.size w1 W → Row W g1 X) := fun W hW => ⟨Nat.lt_of_lt_of_le hrow.1 hW.size, fun i hi => (hW.cell (p := ⟨g1, i, none⟩) hrow.1).trans (hrow.2 i hi)⟩
  have HN1 : Hid (n1 = X.length) := hn1
  have hn1l : n1 ≤ 4000000000 := by rw [hn1]; exact HXG.out.2
  clear ho1 hb1 hrow hBg hn1; go_wp2_with fail; refine (HSX.out w1 _ _ _ _ HO1.out).mono ?_; rintro e w2 ⟨p2, n2, c2, rfl, ho2, hb2⟩; rw [HTS.out] at ho2; rw [HTS.out]
  have HB2 : Hid (Below w.heap.size w w2 ∧ Below w1.heap.size w1 w2) := ⟨Below.on HB1.out hb2, hb2⟩
  have HN2 : Hid (n2 = ts.length) := ho2.1; clear ho2 hb2; go_wp2_with fail; refine (HDL.out w2 HB2.out.1).mono ?_; rintro e w3 ⟨q3, n3, c3, rfl, ho3, hb3⟩
  have HB3 : Hid (Below w.heap.size w w3 ∧ Below w1.heap.size w1 w3) := ⟨Below.on HB2.out.1 hb3, Below.on HB2.out.2 hb3⟩
  have HC3 := HIX.out w3 _ _ _ _ X HB3.out.1 HXG.out.1 (by have := HXG.out.2; omega) ho3; rw [HTS.out] at HC3; clear ho3 hb3; go_wp2_with fail; refine HC3.mono ?_; rintro e w4 ⟨pk, nk, ck, rfl, ho4, hb4⟩
  have HB4 : Hid (Below w.heap.size w w4 ∧ Below w1.heap.size w1 w4) := ⟨Below.on HB3.out.1 hb4, Below.on HB3.out.2 hb4⟩
  have hnk : nk = ts.length := ho4.1
  have HTK : Hid (∀ W, Below w4.heap.size w4 W → TIn W pk ts) := fun W hW => ho4.tin.below hW
  obtain rfl : n2 = nk := by have := HN2.out; omega
  have HNK : Hid (n2 = ts.length) := hnk
  have hnk2 : n2 ≤ 2000000 := by have := HTSL.out.1; omega
  have t1 : (cd != cd) = false := by simp
  have t2 : (at_ != at_) = false := by simp
  have t3 : ((n2 : Int) != (n2 : Int)) = false := by simp
  clear ho4 hb4 HC3 hnk HN2; go_wp2_with fail
  go_loopw [10, 11] (fun ve vi wr => ∃ (i e : Nat) (a : Int), i ≤ n2 ∧ e ≤ n1 ∧ ve = .int .i64 e ∧ vi = .int .i64 i ∧ Hid (cd = 0 → Chain X e a (ts.drop i)) ∧ Hid (Below w4.heap.size w4 wr)) (fun _ v _ => n2 + 1 - (intOf v).toNat)
  case atStart => exact ⟨0, 0, -1, Nat.zero_le _, Nat.zero_le _, rfl, rfl, fun h => (HCH.out h).2, Below.refl _ _⟩
  case round =>
   obtain ⟨i, e, a, hi, he, rfl, rfl, HC, HB⟩ := hrel
   have HBw : Hid (Below w.heap.size w wr ∧ Below w1.heap.size w1 wr) := ⟨Below.on HB4.out.1 HB.out, Below.on HB4.out.2 HB.out⟩
   have hi1 : (i : Int) ≤ (n2 : Int) := by omega
   by_cases hcd : cd = 0
   ·subst hcd
    have HX4 : Hid (X.length ≤ 10000) := (HCH.out rfl).1
    have hn1s : n1 ≤ 10000 := by rw [HN1.out]; exact HX4.out
    by_cases hlt : i < n2
    ·as_aux_lemma =>
      have hl2 : i < ts.length := by rw [← HNK.out]; exact hlt
      obtain ⟨p0, l, k, v, ys, hLay, hp0, hly, hnx, ht, hCh⟩ : ∃ (p0 l : Nat) (k v : Int) (ys : List Int), Lay X e p0 ∧ p0 < X.length ∧ layI X p0 = some 0 ∧ nextR X (decide (a = p0)) p0 = .ok (k, l, ys, v) ∧ ts.getD i Tok.none = ((k, (p0 : Int), (l : Int), v), ys) ∧ Chain X (p0 + l) (if k = 1 then ((p0 + l : Nat) : Int) else -1) (ts.drop (i + 1)) := by
       have h := HC.out rfl; rw [drop_tok ts i hl2] at h; exact h
      have hl1 := next_len HXG.out.1 hp0 hnx; have hfit := next_fit HXG.out.1 hp0 hnx; have hep := hLay.le
      have hyl : ys.length ≤ 2000000 := by have := HTSL.out.2 i hl2; rw [ht] at this; exact this
      have HNX : Hid (nextR X (decide (a = p0)) p0 = .ok (k, l, ys, v) ∧ layI X p0 = some 0 ∧ p0 < X.length) := ⟨hnx, hly, hp0⟩
      have HLY : Hid (Lay X e p0) := hLay; have HCH2 : Hid (Chain X (p0 + l) (if k = 1 then ((p0 + l : Nat) : Int) else -1) (ts.drop (i + 1))) := hCh; rw [← HN1.out] at hp0 hfit; have HTW : Hid (∀ W, Below w4.heap.size w4 W → TIn W pk ts) := HTK.out; obtain ⟨kb, ko, epk, _⟩ := HTK.out w4 (Below.refl _ _) (by omega); subst epk
      have HTA : Hid (∀ W, Below w4.heap.size w4 W → TAt W kb (ko + i * 5) ((k, (p0 : Int), (l : Int), v), ys)) := fun W hW => by
       obtain ⟨b', o', e', h'⟩ := HTK.out W hW (by omega); simp only [Option.some.injEq, Addr.mk.injEq, and_true] at e'; obtain ⟨rfl, rfl⟩ := e'; have := h' i hl2; rw [ht] at this; exact this
      obtain ⟨tq, tc, a0, a1, a2, a3, a4, a5⟩ := HTA.out wr HB.out; simp only at a0 a1 a2 a3 a4 a5
      have HCL : Hid (∀ W, Below wr.heap.size wr W → W.cell? ⟨kb, ko + i * 5, none⟩ = some (.int .i64 k) ∧ W.cell? ⟨kb, ko + i * 5 + 2, none⟩ = some (.int .i64 (l : Int)) ∧ W.cell? ⟨kb, ko + i * 5 + 3, none⟩ = some (.slice tq ys.length tc) ∧ W.cell? ⟨kb, ko + i * 5 + 4, none⟩ = some (.int .i64 v) ∧ BIn W tq ys) := fun W hW => ⟨(hW.cell (World.block_lt_of_cell? _ _ a0)).trans a0, (hW.cell (World.block_lt_of_cell? _ _ a2)).trans a2, (hW.cell (World.block_lt_of_cell? _ _ a3)).trans a3, (hW.cell (World.block_lt_of_cell? _ _ a4)).trans a4, a5.below hW⟩
      have hi0 : (0 : Int) ≤ (i : Int) := by omega
      have hlti : (i : Int) < (n2 : Int) := by omega
      have q1 : ¬ ((l : Int) < 1) := by omega
      have q2 : ¬ ((p0 : Int) < (e : Int)) := by omega
      have q3 : ¬ ((n1 : Int) < (p0 : Int) + (l : Int)) := by omega
      have q4 : (e : Int) ≤ (p0 : Int) := by omega
      have q5 : (p0 : Int) ≤ (c1 : Int) := by omega
      have qi : ((i : Int) == (n2 : Int)) = false := by simp; omega
      clear hnx hly hLay hCh ht a3 a4 a5 hep hl2; have HO_a := own_empty wr w.heap.size HBw.out.1.size; have HQ_a : Hid (BIn (wr.alloc (.cells #[] 5)) (some ⟨g1, e, none⟩) (cutL X e (p0 - e))) := bin_cut (HR1.out _ (Below.on HBw.out.2 ((Below.refl _ _).alloc (Nat.le_refl _) _))) (by rw [← HN1.out]; omega); have HOH_a : Hid _ := HO_a; clear HO_a; go_wp2_with (at_builtin; refine appR_bytes _ rfl _ _ rfl w.heap.size (some ⟨wr.heap.size, 0, none⟩) 0 0 [] (cutL X e (p0 - e)) (some ⟨g1, e, none⟩) (p0 - e) (c1 - e) (by rw [cut_len (by rw [← HN1.out]; omega)]) rfl HOH_a.out rfl HQ_a.out (by have := cut_short X e (p0 - e); have := HXG.out.2; omega) (by have := HBw.out.1.size; simp; omega) ?_; intro p_a n_a c_a w5 ho_a hg_a; have HB_a : Hid (Below w.heap.size w w5 ∧ Below w4.heap.size w4 w5 ∧ Below wr.heap.size wr w5) := ⟨Below.on HBw.out.1 (emp_below hg_a), Below.on HB.out (emp_below hg_a), emp_below hg_a⟩; have HC_a := HIX.out w5 _ _ _ _ (cutL X e (p0 - e)) HB_a.out.1 (cut_bytes HXG.out.1 _ _) (by have := cut_short X e (p0 - e); have := HXG.out.2; omega) (by rw [List.nil_append] at ho_a; exact ho_a); clear ho_a hg_a)
      rw [lex_none HX4.out (by rw [← HN1.out]; omega) HLY.out] at HC_a; refine HC_a.mono ?_; rintro e6 w6 ⟨p6, n6, c6, rfl, ho6, hb6⟩; obtain rfl : n6 = 0 := ho6.1
      have HB6 : Hid (Below w.heap.size w w6 ∧ Below w4.heap.size w4 w6) := ⟨Below.on HB_a.out.1 hb6, Below.on HB_a.out.2.1 hb6⟩
      have HBR6 : Hid (Below wr.heap.size wr w6) := Below.on HB_a.out.2.2 hb6; clear ho6 hb6 HC_a; have HBr6 : Hid (Below wr.heap.size wr w6) := HBR6.out; obtain ⟨d0, d2, d3, d4, d5⟩ := HCL.out w6 HBr6.out; have HD5 : Hid (BIn w6 tq ys) := d5; clear d5 a0 a1 a2; have HBw16 : Hid (Below w1.heap.size w1 w6) := Below.on HBw.out.2 HBr6.out
      obtain ⟨z, ez⟩ : ∃ z, z = X.getD p0 0 := ⟨_, rfl⟩
      have HZE : Hid (z = X.getD p0 0) := ez; clear ez
      have q6 : (p0 : Int) + (l : Int) ≤ (c1 : Int) := by omega
      have q7 : (p0 : Int) < (c1 : Int) := by omega
      have q8 : (0 : Int) ≤ (p0 : Int) := by omega
      have q9 : (p0 : Int) < (n1 : Int) := by omega
      by_cases hk6 : k = 6
      ·have b6 : (k == 6) = true := by simp [hk6]
       clear hk6
       as_aux_lemma =>
        go_wp2_with fail; go_roundw
        case rel => exact ⟨i + 1, p0 + l, _, by omega, by omega, by go_num, by go_num, fun _ => HCH2.out, HB6.out.2⟩
        case measure => simp [intOf]; omega
      ·have b6 : (k == 6) = false := by simpa using hk6
       by_cases hk7 : k = 7
       ·have b7 : (k == 7) = true := by simp [hk7]
        clear hk6 hk7
        as_aux_lemma =>
         go_wp2_with fail; go_roundw
         case rel => exact ⟨i + 1, p0 + l, _, by omega, by omega, by go_num, by go_num, fun _ => HCH2.out, HB6.out.2⟩
         case measure => simp [intOf]; omega
       ·have b7 : (k == 7) = false := by simpa using hk7
        have HO_b := own_empty w6 w.heap.size HB6.out.1.size; have HQ_b : Hid (BIn (w6.alloc (.cells #[] 5)) (some ⟨g1, p0, none⟩) (cutL X p0 ((p0 + l) - p0))) := bin_cut (HR1.out _ (Below.on HBw16.out ((Below.refl _ _).alloc (Nat.le_refl _) _))) (by rw [← HN1.out]; omega); have HOH_b : Hid _ := HO_b; clear HO_b; go_wp2_with (at_builtin; refine appR_bytes _ rfl _ _ rfl w.heap.size (some ⟨w6.heap.size, 0, none⟩) 0 0 [] (cutL X p0 ((p0 + l) - p0)) (some ⟨g1, p0, none⟩) ((p0 + l) - p0) (c1 - p0) (by rw [cut_len (by rw [← HN1.out]; omega)]) rfl HOH_b.out rfl HQ_b.out (by have := cut_short X p0 ((p0 + l) - p0); have := HXG.out.2; omega) (by have := HB6.out.1.size; simp; omega) ?_; intro p_b n_b c_b w7 ho_b hg_b; have HB_b : Hid (Below w.heap.size w w7 ∧ Below w4.heap.size w4 w7 ∧ Below w6.heap.size w6 w7) := ⟨Below.on HB6.out.1 (emp_below hg_b), Below.on HB6.out.2 (emp_below hg_b), emp_below hg_b⟩; have HC_b := HIX.out w7 _ _ _ _ (cutL X p0 ((p0 + l) - p0)) HB_b.out.1 (cut_bytes HXG.out.1 _ _) (by have := cut_short X p0 ((p0 + l) - p0); have := HXG.out.2; omega) (by rw [List.nil_append] at ho_b; exact ho_b); clear ho_b hg_b)
        by_cases hal : k = 1 ∧ l = 1 ∧ z = 46
        ·obtain ⟨hk1, hll, hz⟩ := hal
         have b1 : (k == 1) = true := by simp [hk1]
         have b2 : ((l : Int) == 1) = true := by simp [hll]
         have b3 : (z == 46) = true := by simp [hz]
         clear hk6 hk7 hk1 hll hz
         as_aux_lemma =>
          refine HC_b.mono ?_; rintro e8 w8 ⟨ow, on, oc, rfl, ho8, hb8⟩
          have HB8 : Hid (Below w4.heap.size w4 w8 ∧ Below w6.heap.size w6 w8) := ⟨Below.on HB_b.out.2.1 hb8, Below.on HB_b.out.2.2 hb8⟩
          have HBdr : Hid (Below w4.heap.size w4 w8.drew) := Below.on HB8.out.1 ((Below.refl _ _).drew)
          obtain ⟨f0, f2⟩ : w8.cell? ⟨kb, ko + i * 5, none⟩ = some (.int .i64 k) ∧ w8.cell? ⟨kb, ko + i * 5 + 2, none⟩ = some (.int .i64 (l : Int)) := ⟨(HB8.out.2.cell (World.block_lt_of_cell? _ _ d0)).trans d0, (HB8.out.2.cell (World.block_lt_of_cell? _ _ d2)).trans d2⟩
          have z0 : w8.cell? ⟨g1, p0, none⟩ = some (.int .u8 z) := by have h9 := (HR1.out w8 (Below.on HBw16.out HB8.out.2)).2 p0 (by rw [← HN1.out]; exact hp0); rw [← HZE.out] at h9; exact h9
          obtain ⟨c8, ec8⟩ : ∃ c8, c8 = (lexT (cutL X p0 (p0 + l - p0))).2.1 := ⟨_, rfl⟩
          obtain ⟨t8, et8⟩ : ∃ t8, t8 = (lexT (cutL X p0 (p0 + l - p0))).2.2 := ⟨_, rfl⟩
          rw [← ec8, ← et8]; clear HC_b ho8 hb8 d0 d2 d3 d4 ec8 et8; go_wp2_with fail; refine wp_region_held_drew (S := fun _ => True) (by kernel_rfl) trivial (fun hHeld => ?_); have hS0 : True := trivial; refine hTk (i := 0) (v := .bool true) (some 177) (fun o ho W hSw => ?y0) (by assumption) ?_
          case y0 => cases ho; simp [execOp, go_sem, Act.eval]
          simp only [Act.put, zzA, zzB, zzC]; refine hTk (i := 1) (v := .bool false) (some 178) (fun o ho W hSw => ?y1) (by assumption) ?_
          case y1 => cases ho; simp [execOp, go_sem, Act.eval]
          simp only [Act.put, zzA, zzB, zzC]; refine hTk (i := 2) (v := .bool false) (some 179) (fun o ho W hSw => ?y2) (by assumption) ?_
          case y2 => cases ho; simp [execOp, go_sem, Act.eval]
          simp only [Act.put, zzA, zzB, zzC]; refine hSk (i := 3) (some 180) (by assumption) ?_; refine hSk (i := 4) (some 181) (by assumption) ?_; refine hSk (i := 5) (some 182) (by assumption) ?_; refine hSk (i := 6) (some 183) (by assumption) ?_; simp only [Act.put, zzA, zzB, zzC]; refine hSk (i := 7) (some 184) (by assumption) ?_; refine hSk (i := 8) (some 185) (by assumption) ?_; refine hSk (i := 9) (some 186) (by assumption) ?_; refine hSk (i := 10) (some 187) (by assumption) ?_; simp only [Act.put, zzA, zzB, zzC]; refine hSk (i := 11) (some 188) (by assumption) ?_; refine hSk (i := 12) (some 189) (by assumption) ?_; refine hSk (i := 13) (some 190) (by assumption) ?_; refine hSk (i := 14) (some 191) (by assumption) ?_; simp only [Act.put, zzA, zzB, zzC]; refine hSk (i := 15) (some 192) (by assumption) ?_; refine hSk (i := 16) (some 193) (by assumption) ?_; refine hSk (i := 17) (some 194) (by assumption) ?_; refine hSk (i := 18) (some 195) (by assumption) ?_; simp only [Act.put, zzA, zzB, zzC]; refine hSk (i := 19) (some 196) (by assumption) ?_; refine hSk (i := 20) (some 197) (by assumption) ?_; refine hSk (i := 21) (some 198) (by assumption) ?_; refine hSk (i := 22) (some 199) (by assumption) ?_; simp only [Act.put, zzA, zzB, zzC]; refine hSk (i := 23) (some 200) (by assumption) ?_; refine hSk (i := 24) (some 201) (by assumption) ?_; refine hSk (i := 25) (some 202) (by assumption) ?_; refine hSk (i := 26) (some 203) (by assumption) ?_; simp only [Act.put, zzA, zzB, zzC]; refine hSk (i := 27) (some 204) (by assumption) ?_; refine hSk (i := 28) (some 205) (by assumption) ?_; refine hSk (i := 29) (some 206) (by assumption) ?_; refine hSk (i := 30) (some 207) (by assumption) ?_; simp only [Act.put, zzA, zzB, zzC]; refine hSk (i := 31) (some 208) (by assumption) ?_; refine hSk (i := 32) (some 209) (by assumption) ?_; refine hSk (i := 33) (some 210) (by assumption) ?_; refine hSk (i := 34) (some 211) (by assumption) ?_; simp only [Act.put, zzA, zzB, zzC]
          refine hSk (i := 35) (some 212) (by assumption) ?_; refine hSk (i := 36) (some 213) (by assumption) ?_; refine hSk (i := 37) (some 214) (by assumption) ?_; refine hSk (i := 38) (some 215) (by assumption) ?_; simp only [Act.put, zzA, zzB, zzC]; refine hSk (i := 39) (some 216) (by assumption) ?_; refine hSk (i := 40) (some 217) (by assumption) ?_; refine hSk (i := 41) (some 218) (by assumption) ?_; refine hSk (i := 42) (some 219) (by assumption) ?_; simp only [Act.put, zzA, zzB, zzC]; refine hSk (i := 43) (some 220) (by assumption) ?_; refine hSk (i := 44) (some 221) (by assumption) ?_; refine hSk (i := 45) (some 222) (by assumption) ?_; refine hSk (i := 46) (some 223) (by assumption) ?_; simp only [Act.put, zzA, zzB, zzC]; refine hTk (i := 47) (v := .bool false) (some 224) (fun o ho W hSw => ?y3) (by assumption) ?_
          case y3 => cases ho; simp [execOp, go_sem, Act.eval]
          simp only [Act.put, zzA, zzB, zzC]; refine wpAnyH_done (by kernel_rfl) ?_ _; go_wp2_with fail; go_roundw
          case rel => exact ⟨i + 1, p0 + l, _, by omega, by omega, by go_num, by go_num, fun _ => HCH2.out, HBdr.out⟩
          case measure => simp [intOf]; omega
        ·have hno : ¬ (k = 1 ∧ l = 1 ∧ byteI X p0 = 46) := fun h => hal ⟨h.1, h.2.1, by rw [HZE.out, ← byteI_lt HNX.out.2.2]; exact h.2.2⟩
         have HBB : Hid ((k == 1) = false ∨ ((k == 1) = true ∧ ((l : Int) == 1) = false) ∨ ((k == 1) = true ∧ ((l : Int) == 1) = true ∧ (z == 46) = false)) := by
          show _ ∨ _
          by_cases h1 : k = 1
          ·by_cases h2 : l = 1
           ·exact .inr (.inr ⟨by simp [h1], by simp [h2], by simpa using fun h3 => hal ⟨h1, h2, h3⟩⟩)
           ·exact .inr (.inl ⟨by simp [h1], by simp; omega⟩)
          ·exact .inl (by simpa using h1)
         clear hal
         as_aux_lemma =>
          have HLX := lex_one HXG.out.1 HX4.out HNX.out.2.2 HNX.out.2.1 HNX.out.1 hk6 hk7 hno
          have hpl : p0 + l - p0 = l := by omega
          rw [hpl, HLX] at HC_b; refine HC_b.mono ?_; rintro e8 w8 ⟨ow, on, oc, rfl, ho8, hb8⟩; obtain rfl : on = 1 := ho8.1; obtain ⟨ob, oo, rfl, hta⟩ := ho8.tin (by simp); obtain ⟨tq8, tc8, o0, o1, o2, o3, o4, o5⟩ := hta 0 (by simp); simp only [List.getD_cons_zero, Nat.zero_mul, Nat.add_zero] at o0 o1 o2 o3 o4 o5
          have HB8 : Hid (Below w4.heap.size w4 w8 ∧ Below w6.heap.size w6 w8) := ⟨Below.on HB_b.out.2.1 hb8, Below.on HB_b.out.2.2 hb8⟩
          obtain ⟨nys, enys⟩ : ∃ nys, nys = ys.length := ⟨_, rfl⟩
          rw [← enys] at o3 d3 hyl
          have HYS : Hid (nys = ys.length ∧ BIn w8 tq8 ys ∧ BIn w8 tq ys) := ⟨enys, o5, HD5.out.below HB8.out.2⟩
          obtain ⟨f0, f2, f3, f4⟩ : w8.cell? ⟨kb, ko + i * 5, none⟩ = some (.int .i64 k) ∧ w8.cell? ⟨kb, ko + i * 5 + 2, none⟩ = some (.int .i64 (l : Int)) ∧ w8.cell? ⟨kb, ko + i * 5 + 3, none⟩ = some (.slice tq nys tc) ∧ w8.cell? ⟨kb, ko + i * 5 + 4, none⟩ = some (.int .i64 v) := ⟨(HB8.out.2.cell (World.block_lt_of_cell? _ _ d0)).trans d0, (HB8.out.2.cell (World.block_lt_of_cell? _ _ d2)).trans d2, (HB8.out.2.cell (World.block_lt_of_cell? _ _ d3)).trans d3, (HB8.out.2.cell (World.block_lt_of_cell? _ _ d4)).trans d4⟩
          have z0 : w8.cell? ⟨g1, p0, none⟩ = some (.int .u8 z) := by have h9 := (HR1.out w8 (Below.on HBw16.out HB8.out.2)).2 p0 (by rw [← HN1.out]; exact hp0); rw [← HZE.out] at h9; exact h9
          have HSS : Hid (∀ W, Below w8.heap.size w8 W → (W.cell? ⟨kb, ko + i * 5, none⟩ = some (.int .i64 k) ∧ W.cell? ⟨kb, ko + i * 5 + 3, none⟩ = some (.slice tq nys tc) ∧ W.cell? ⟨kb, ko + i * 5 + 4, none⟩ = some (.int .i64 v)) ∧ (W.cell? ⟨ob, oo, none⟩ = some (.int .i64 k) ∧ W.cell? ⟨ob, oo + 3, none⟩ = some (.slice tq8 nys tc8) ∧ W.cell? ⟨ob, oo + 4, none⟩ = some (.int .i64 v))) := fun W hW => ⟨⟨(hW.cell (World.block_lt_of_cell? _ _ f0)).trans f0, (hW.cell (World.block_lt_of_cell? _ _ f3)).trans f3, (hW.cell (World.block_lt_of_cell? _ _ f4)).trans f4⟩, (hW.cell (World.block_lt_of_cell? _ _ o0)).trans o0, (hW.cell (World.block_lt_of_cell? _ _ o3)).trans o3, (hW.cell (World.block_lt_of_cell? _ _ o4)).trans o4⟩
          obtain ⟨wd, eD⟩ : ∃ Wd, Wd = World.drew w8 := ⟨_, rfl⟩
          have hbd : Below w8.heap.size w8 wd := by rw [eD]; exact (Below.refl _ _).drew
          have HDe : Hid (World.drew w8 = wd) := eD.symm; have HBd : Hid (Below w8.heap.size w8 wd) := hbd; have HBd4 : Hid (Below w4.heap.size w4 wd) := Below.on HB8.out.1 hbd; have HSB := sameBF_any tq8 tq nys tc8 tc ys wd HYS.out.1 (by omega) (HYS.out.2.1.below hbd) (HYS.out.2.2.below hbd); clear HLX HC_b ho8 hb8 hta o0 o1 o2 o3 o4 o5 enys eD hbd d0 d2 d3 d4 hno hk6 hk7 hpl
          rcases HBB.out with b1 | ⟨b1, b2⟩ | ⟨b1, b2, b3⟩
          all_goals clear HBB
          all_goals go_wp2_with fail
          all_goals as_aux_lemma =>
           refine wp_region_held_drew (S := (fun W => (W.cell? ⟨kb, ko + i * 5, none⟩ = some (.int .i64 k) ∧ W.cell? ⟨kb, ko + i * 5 + 3, none⟩ = some (.slice tq nys tc) ∧ W.cell? ⟨kb, ko + i * 5 + 4, none⟩ = some (.int .i64 v)) ∧ (W.cell? ⟨ob, oo, none⟩ = some (.int .i64 k) ∧ W.cell? ⟨ob, oo + 3, none⟩ = some (.slice tq8 nys tc8) ∧ W.cell? ⟨ob, oo + 4, none⟩ = some (.int .i64 v)))) (by kernel_rfl) ?_ (fun hHeld => ?_)
           ·rw [HDe.out]; exact HSS.out wd HBd.out
           rw [HDe.out]; have hS0 := HSS.out wd HBd.out; refine hTk (i := 0) (v := .bool false) (some 177) (fun o ho W hSw => ?y0) (by assumption) ?_
           case y0 => cases ho; simp [execOp, go_sem, Act.eval]
           simp only [Act.put, zzA, zzB, zzC]; refine hTk (i := 1) (v := .bool true) (some 178) (fun o ho W hSw => ?y1) (by assumption) ?_
           case y1 => cases ho; simp [execOp, go_sem, Act.eval]
           simp only [Act.put, zzA, zzB, zzC]; refine hTk (i := 2) (v := .bool true) (some 179) (fun o ho W hSw => ?y2) (by assumption) ?_
           case y2 => cases ho; simp [execOp, go_sem, Act.eval]
           simp only [Act.put, zzA, zzB, zzC]; refine hTk (i := 3) (v := .int .i64 0) (some 180) (fun o ho W hSw => ?y3) (by assumption) ?_
           case y3 => cases ho; simp [execOp, go_sem, Act.eval]
           simp only [Act.put, zzA, zzB, zzC]; refine hTk (i := 4) (v := .bool false) (some 181) (fun o ho W hSw => ?y4) (by assumption) ?_
           case y4 => cases ho; simp [execOp, go_sem, Act.eval]
           simp only [Act.put, zzA, zzB, zzC]; refine hTk (i := 5) (v := .bool false) (some 182) (fun o ho W hSw => ?y5) (by assumption) ?_
           case y5 => cases ho; simp [execOp, go_sem, Act.eval]
           simp only [Act.put, zzA, zzB, zzC]; refine hTk (i := 6) (v := .slice (some ⟨ob, oo, none⟩) 1 oc) (some 183) (fun o ho W hSw => ?y6) (by assumption) ?_
           case y6 => cases ho; simp [execOp, go_sem, Act.eval]
           simp only [Act.put, zzA, zzB, zzC]; refine hTk (i := 7) (v := .int .i64 1) (some 184) (fun o ho W hSw => ?y7) (by assumption) ?_
           case y7 => cases ho; simp [execOp, go_sem, Act.eval]
           simp only [Act.put, zzA, zzB, zzC]; refine hTk (i := 8) (v := .bool false) (some 185) (fun o ho W hSw => ?y8) (by assumption) ?_
           case y8 => cases ho; simp [execOp, go_sem, Act.eval]
           simp only [Act.put, zzA, zzB, zzC]; refine hTk (i := 9) (v := .bool false) (some 186) (fun o ho W hSw => ?y9) (by assumption) ?_
           case y9 => cases ho; simp [execOp, go_sem, Act.eval]
           simp only [Act.put, zzA, zzB, zzC]; refine hTk (i := 10) (v := .bool false) (some 187) (fun o ho W hSw => ?y10) (by assumption) ?_
           case y10 => cases ho; simp [execOp, go_sem, Act.eval]
           simp only [Act.put, zzA, zzB, zzC]; refine hTk (i := 11) (v := .slice (some ⟨ob, oo, none⟩) 1 oc) (some 188) (fun o ho W hSw => ?y11) (by assumption) ?_
           case y11 => cases ho; simp [execOp, go_sem, Act.eval]
           simp only [Act.put, zzA, zzB, zzC]; refine hTk (i := 12) (v := .pointer (some ⟨ob, oo, none⟩)) (some 189) (fun o ho W hSw => ?y12) (by assumption) ?_
           case y12 => cases ho; simp [execOp, go_sem, Act.eval]
           simp only [Act.put, zzA, zzB, zzC]; refine hTk (i := 13) (v := .pointer (some ⟨ob, oo, none⟩)) (some 190) (fun o ho W hSw => ?y13) (by assumption) ?_
           case y13 => cases ho; simp [execOp, go_sem, Act.eval]
           simp only [Act.put, zzA, zzB, zzC]; refine hTk (i := 14) (v := .int .i64 k) (some 191) (fun o ho W hSw => ?y14) (by assumption) ?_
           case y14 => cases ho; obtain ⟨⟨k0, k1, k2⟩, k3, k4, k5⟩ := hSw; simp [execOp, go_sem, Act.eval, k3]
           simp only [Act.put, zzA, zzB, zzC]; refine hTk (i := 15) (v := .slice (some ⟨kb, ko, none⟩) n2 ck) (some 192) (fun o ho W hSw => ?y15) (by assumption) ?_
           case y15 => cases ho; simp [execOp, go_sem, Act.eval]
           simp only [Act.put, zzA, zzB, zzC]; refine hTk (i := 16) (v := .int .i64 (i : Int)) (some 193) (fun o ho W hSw => ?y16) (by assumption) ?_
           case y16 => cases ho; simp [execOp, go_sem, Act.eval]
           simp only [Act.put, zzA, zzB, zzC]; refine hTk (i := 17) (v := .pointer (some ⟨kb, ko + i * 5, none⟩)) (some 194) (fun o ho W hSw => ?y17) (by assumption) ?_
           case y17 => cases ho; simp [execOp, go_sem, Act.eval, hi0, hlti, hlt]
           simp only [Act.put, zzA, zzB, zzC]; refine hTk (i := 18) (v := .pointer (some ⟨kb, ko + i * 5, none⟩)) (some 195) (fun o ho W hSw => ?y18) (by assumption) ?_
           case y18 => cases ho; simp [execOp, go_sem, Act.eval]
           simp only [Act.put, zzA, zzB, zzC]; refine hTk (i := 19) (v := .int .i64 k) (some 196) (fun o ho W hSw => ?y19) (by assumption) ?_
           case y19 => cases ho; obtain ⟨⟨k0, k1, k2⟩, k3, k4, k5⟩ := hSw; simp [execOp, go_sem, Act.eval, k0]
           simp only [Act.put, zzA, zzB, zzC]; refine hTk (i := 20) (v := .bool false) (some 197) (fun o ho W hSw => ?y20) (by assumption) ?_
           case y20 => cases ho; simp [execOp, go_sem, Act.eval]
           simp only [Act.put, zzA, zzB, zzC]; refine hTk (i := 21) (v := .bool false) (some 198) (fun o ho W hSw => ?y21) (by assumption) ?_
           case y21 => cases ho; simp [execOp, go_sem, Act.eval]
           simp only [Act.put, zzA, zzB, zzC]; refine hTk (i := 22) (v := .bool false) (some 199) (fun o ho W hSw => ?y22) (by assumption) ?_
           case y22 => cases ho; simp [execOp, go_sem, Act.eval]
           simp only [Act.put, zzA, zzB, zzC]; refine hTk (i := 23) (v := .slice (some ⟨ob, oo, none⟩) 1 oc) (some 200) (fun o ho W hSw => ?y23) (by assumption) ?_
           case y23 => cases ho; simp [execOp, go_sem, Act.eval]
           simp only [Act.put, zzA, zzB, zzC]; refine hTk (i := 24) (v := .pointer (some ⟨ob, oo, none⟩)) (some 201) (fun o ho W hSw => ?y24) (by assumption) ?_
           case y24 => cases ho; simp [execOp, go_sem, Act.eval]
           simp only [Act.put, zzA, zzB, zzC]; refine hTk (i := 25) (v := .pointer (some ⟨ob, oo + 4, none⟩)) (some 202) (fun o ho W hSw => ?y25) (by assumption) ?_
           case y25 => cases ho; simp [execOp, go_sem, Act.eval]
           simp only [Act.put, zzA, zzB, zzC]; refine hTk (i := 26) (v := .int .i64 v) (some 203) (fun o ho W hSw => ?y26) (by assumption) ?_
           case y26 => cases ho; obtain ⟨⟨k0, k1, k2⟩, k3, k4, k5⟩ := hSw; simp [execOp, go_sem, Act.eval, k5]
           simp only [Act.put, zzA, zzB, zzC]; refine hTk (i := 27) (v := .slice (some ⟨kb, ko, none⟩) n2 ck) (some 204) (fun o ho W hSw => ?y27) (by assumption) ?_
           case y27 => cases ho; simp [execOp, go_sem, Act.eval]
           simp only [Act.put, zzA, zzB, zzC]; refine hTk (i := 28) (v := .int .i64 (i : Int)) (some 205) (fun o ho W hSw => ?y28) (by assumption) ?_
           case y28 => cases ho; simp [execOp, go_sem, Act.eval]
           simp only [Act.put, zzA, zzB, zzC]; refine hTk (i := 29) (v := .pointer (some ⟨kb, ko + i * 5, none⟩)) (some 206) (fun o ho W hSw => ?y29) (by assumption) ?_
           case y29 => cases ho; simp [execOp, go_sem, Act.eval, hi0, hlti, hlt]
           simp only [Act.put, zzA, zzB, zzC]; refine hTk (i := 30) (v := .pointer (some ⟨kb, ko + i * 5 + 4, none⟩)) (some 207) (fun o ho W hSw => ?y30) (by assumption) ?_
           case y30 => cases ho; simp [execOp, go_sem, Act.eval]
           simp only [Act.put, zzA, zzB, zzC]; refine hTk (i := 31) (v := .int .i64 v) (some 208) (fun o ho W hSw => ?y31) (by assumption) ?_
           case y31 => cases ho; obtain ⟨⟨k0, k1, k2⟩, k3, k4, k5⟩ := hSw; simp [execOp, go_sem, Act.eval, k2]
           simp only [Act.put, zzA, zzB, zzC]; refine hTk (i := 32) (v := .bool false) (some 209) (fun o ho W hSw => ?y32) (by assumption) ?_
           case y32 => cases ho; simp [execOp, go_sem, Act.eval]
           simp only [Act.put, zzA, zzB, zzC]; refine hTk (i := 33) (v := .bool false) (some 210) (fun o ho W hSw => ?y33) (by assumption) ?_
           case y33 => cases ho; simp [execOp, go_sem, Act.eval]
           simp only [Act.put, zzA, zzB, zzC]; refine hTk (i := 34) (v := .bool false) (some 211) (fun o ho W hSw => ?y34) (by assumption) ?_
           case y34 => cases ho; simp [execOp, go_sem, Act.eval]
           simp only [Act.put, zzA, zzB, zzC]; refine hTk (i := 35) (v := .slice (some ⟨ob, oo, none⟩) 1 oc) (some 212) (fun o ho W hSw => ?y35) (by assumption) ?_
           case y35 => cases ho; simp [execOp, go_sem, Act.eval]
           simp only [Act.put, zzA, zzB, zzC]; refine hTk (i := 36) (v := .pointer (some ⟨ob, oo, none⟩)) (some 213) (fun o ho W hSw => ?y36) (by assumption) ?_
           case y36 => cases ho; simp [execOp, go_sem, Act.eval]
           simp only [Act.put, zzA, zzB, zzC]; refine hTk (i := 37) (v := .pointer (some ⟨ob, oo + 3, none⟩)) (some 214) (fun o ho W hSw => ?y37) (by assumption) ?_
           case y37 => cases ho; simp [execOp, go_sem, Act.eval]
           simp only [Act.put, zzA, zzB, zzC]; refine hTk (i := 38) (v := .slice tq8 nys tc8) (some 215) (fun o ho W hSw => ?y38) (by assumption) ?_
           case y38 => cases ho; obtain ⟨⟨k0, k1, k2⟩, k3, k4, k5⟩ := hSw; simp [execOp, go_sem, Act.eval, k4]
           simp only [Act.put, zzA, zzB, zzC]; refine hTk (i := 39) (v := .slice (some ⟨kb, ko, none⟩) n2 ck) (some 216) (fun o ho W hSw => ?y39) (by assumption) ?_
           case y39 => cases ho; simp [execOp, go_sem, Act.eval]
           simp only [Act.put, zzA, zzB, zzC]; refine hTk (i := 40) (v := .int .i64 (i : Int)) (some 217) (fun o ho W hSw => ?y40) (by assumption) ?_
           case y40 => cases ho; simp [execOp, go_sem, Act.eval]
           simp only [Act.put, zzA, zzB, zzC]; refine hTk (i := 41) (v := .pointer (some ⟨kb, ko + i * 5, none⟩)) (some 218) (fun o ho W hSw => ?y41) (by assumption) ?_
           case y41 => cases ho; simp [execOp, go_sem, Act.eval, hi0, hlti, hlt]
           simp only [Act.put, zzA, zzB, zzC]; refine hTk (i := 42) (v := .pointer (some ⟨kb, ko + i * 5 + 3, none⟩)) (some 219) (fun o ho W hSw => ?y42) (by assumption) ?_
           case y42 => cases ho; simp [execOp, go_sem, Act.eval]
           simp only [Act.put, zzA, zzB, zzC]; refine hTk (i := 43) (v := .slice tq nys tc) (some 220) (fun o ho W hSw => ?y43) (by assumption) ?_
           case y43 => cases ho; obtain ⟨⟨k0, k1, k2⟩, k3, k4, k5⟩ := hSw; simp [execOp, go_sem, Act.eval, k1]
           simp only [Act.put, zzA, zzB, zzC]; refine hCallE (i := 44) (f := 7) (args := #[.slice tq8 nys tc8, .slice tq nys tc]) (some 221) (by kernel_rfl) (by kernel_rfl) (by kernel_rfl) (fun o ho => ?c44) HSB ?k44 (fun ch w' hh => by cases hh.1) (fun w' hh => by cases hh.1)
           case c44 => cases ho; simp [execOp, go_sem, Act.eval]
           case k44 =>
            rintro u w9 ⟨hu, hb9⟩
            injection hu with hu
            subst hu
            have HB9 : Hid (Below w4.heap.size w4 w9 ∧ Below w8.heap.size w8 w9) := ⟨Below.on HBd4.out hb9, Below.on HBd.out hb9⟩
            have hS9 := HSS.out w9 HB9.out.2; refine ⟨hS9, ?_⟩; clear hb9 HSB hS0; simp only [Act.put, zzA, zzB, zzC]; refine hTk (i := 45) (v := .bool false) (some 222) (fun o ho W hSw => ?y45) (by assumption) ?_
            case y45 => cases ho; simp [execOp, go_sem, Act.eval]
            simp only [Act.put, zzA, zzB, zzC]; refine hTk (i := 46) (v := .bool false) (some 223) (fun o ho W hSw => ?y46) (by assumption) ?_
            case y46 => cases ho; simp [execOp, go_sem, Act.eval]
            simp only [Act.put, zzA, zzB, zzC]; refine hTk (i := 47) (v := .bool false) (some 224) (fun o ho W hSw => ?y47) (by assumption) ?_
            case y47 => cases ho; simp [execOp, go_sem, Act.eval]
            simp only [Act.put, zzA, zzB, zzC]; refine wpAnyH_done (by kernel_rfl) ?_ _; go_wp2_with fail; go_roundw
            case rel => exact ⟨i + 1, p0 + l, _, by omega, by omega, by go_num, by go_num, fun _ => HCH2.out, HB9.out.1⟩
            case measure => simp [intOf]; omega
    ·as_aux_lemma =>
      obtain rfl : i = n2 := by omega
      have HLY : Hid (Lay X e n1) := by
       have h := HC.out rfl; rw [HNK.out, List.drop_length] at h; rw [HN1.out]; exact h
      have hcs : (e = n1 ∧ e = c1) ∨ (e = n1 ∧ e < c1) ∨ e < n1 := by omega
      rcases hcs with ⟨en, ec⟩ | ⟨en2, ec2⟩ | en3
      all_goals first
       | (have _t := ec; subst en; subst ec
          have HBo : Hid (∀ o, Below w.heap.size w (wr.alloc o)) := fun o => Below.on HBw.out.1 ((Below.refl _ _).alloc (Nat.le_refl _) _)
          have HCe := HIX.out (wr.alloc (.cells #[] 5)) _ _ _ _ [] (HBo.out _) (fun x hx => by cases hx) (by simp) (own_empty wr w.heap.size HBw.out.1.size); rw [show lexT [] = ([], 0, 0) from rfl] at HCe; go_wp2_with fail; refine HCe.mono ?_; rintro e6 w6 ⟨p6, n6, c6, rfl, ho6, hb6⟩; obtain rfl : n6 = 0 := ho6.1; have HB6 : Hid (Below w.heap.size w w6) := Below.on (HBo.out _) hb6
          clear ho6 hb6 HCe)
       | (have _t := ec2; subst en2
          have HBo : Hid (∀ o, Below w.heap.size w (wr.alloc o)) := fun o => Below.on HBw.out.1 ((Below.refl _ _).alloc (Nat.le_refl _) _)
          have HCe := HIX.out (wr.alloc (.cells #[] 5)) _ _ _ _ [] (HBo.out _) (fun x hx => by cases hx) (by simp) (own_empty wr w.heap.size HBw.out.1.size); rw [show lexT [] = ([], 0, 0) from rfl] at HCe
          have hec2 : (e : Int) < (c1 : Int) := by omega
          go_wp2_with fail; refine HCe.mono ?_; rintro e6 w6 ⟨p6, n6, c6, rfl, ho6, hb6⟩; obtain rfl : n6 = 0 := ho6.1; have HB6 : Hid (Below w.heap.size w w6) := Below.on (HBo.out _) hb6
          clear ho6 hb6 HCe)
       | (have _t := en3
          have he1 : (e : Int) < (n1 : Int) := by omega
          have he2 : (e : Int) < (c1 : Int) := by omega
          have hc1i : (n1 : Int) ≤ (c1 : Int) := by omega
          have HO_a := own_empty wr w.heap.size HBw.out.1.size; have HQ_a : Hid (BIn (wr.alloc (.cells #[] 5)) (some ⟨g1, e, none⟩) (cutL X e (n1 - e))) := bin_cut (HR1.out _ (Below.on HBw.out.2 ((Below.refl _ _).alloc (Nat.le_refl _) _))) (by rw [← HN1.out]; omega); have HOH_a : Hid _ := HO_a; clear HO_a; go_wp2_with (at_builtin; refine appR_bytes _ rfl _ _ rfl w.heap.size (some ⟨wr.heap.size, 0, none⟩) 0 0 [] (cutL X e (n1 - e)) (some ⟨g1, e, none⟩) (n1 - e) (c1 - e) (by rw [cut_len (by rw [← HN1.out]; omega)]) rfl HOH_a.out rfl HQ_a.out (by have := cut_short X e (n1 - e); have := HXG.out.2; omega) (by have := HBw.out.1.size; simp; omega) ?_; intro p_a n_a c_a w5 ho_a hg_a; have HB_a : Hid (Below w.heap.size w w5 ∧ Below w4.heap.size w4 w5 ∧ Below wr.heap.size wr w5) := ⟨Below.on HBw.out.1 (emp_below hg_a), Below.on HB.out (emp_below hg_a), emp_below hg_a⟩; have HC_a := HIX.out w5 _ _ _ _ (cutL X e (n1 - e)) HB_a.out.1 (cut_bytes HXG.out.1 _ _) (by have := cut_short X e (n1 - e); have := HXG.out.2; omega) (by rw [List.nil_append] at ho_a; exact ho_a); clear ho_a hg_a)
          rw [lex_none HX4.out (by rw [← HN1.out]; omega) HLY.out] at HC_a; refine HC_a.mono ?_; rintro e6 w6 ⟨p6, n6, c6, rfl, ho6, hb6⟩; obtain rfl : n6 = 0 := ho6.1; have HB6 : Hid (Below w.heap.size w w6) := Below.on HB_a.out.1 hb6
          clear ho6 hb6 HC_a)
      all_goals as_aux_lemma =>
       go_wp2_with fail; refine (HDQ.out w6 (HB6.out)).mono ?_; rintro e wa ⟨qa, na, ca, rfl, hoa, hba⟩; have HBa : Hid (Below w.heap.size w wa) := Below.on (HB6.out) hba; have HOa : Hid (OwnR wa w6.heap.size qa na ca Nm) := hoa; have HNa : Hid (na = Nm.length) := hoa.1
       have hna : na ≤ 110 := by rw [hoa.1]; exact HNG.out.2
       clear hoa hba; go_wp2_with fail; refine (HDQ.out wa HBa.out).mono ?_; rintro e wb ⟨qb, nb, cb, rfl, hob, hbb⟩
       have HBb : Hid (Below w.heap.size w wb ∧ Below wa.heap.size wa wb) := ⟨Below.on HBa.out hbb, hbb⟩
       have HCb := HQT.out wb _ _ _ _ HBb.out.1 hob; clear hob hbb; go_wp2_with fail; refine HCb.mono ?_; rintro e wc ⟨qc, nc, cc, rfl, hoc, hbc⟩
       have HBc : Hid (Below w.heap.size w wc ∧ Below wa.heap.size wa wc) := ⟨Below.on HBb.out.1 hbc, Below.on HBb.out.2 hbc⟩
       have HOc : Hid (OwnS wc wb.heap.size qc nc cc (quoteB Nm)) := hoc; have HNc : Hid (nc = (quoteB Nm).length) := hoc.1; have HAc : Hid (BIn wc qa Nm) := HOa.out.bin.below HBc.out.2; clear hoc hbc HCb
       by_cases h100 : 100 < na
       ·have hq0 : nc = 0 := by rw [HNc.out]; unfold quoteB; rw [if_pos (by rw [← HNa.out]; exact h100)]; rfl
        subst hq0
        have h100' : (100 : Int) < (na : Int) := by omega
        go_wp2_with fail; go_ret; exact ⟨rfl, HBc.out.1⟩
       ·have h100' : ¬ (100 : Int) < (na : Int) := by omega
        have hcv := conv_str HAc.out na ca HNa.out 9 Tryz.underlying9
        obtain ⟨sn, esn⟩ : ∃ sn, sn = strOfNums Nm := ⟨_, rfl⟩
        rw [← esn] at hcv; have HSN : Hid (sn = strOfNums Nm) := esn
        have hncs : nc ≤ 1000 := by rw [HNc.out]; have := quote_lenF Nm (by have := HNa.out; omega); omega
        by_cases hs1 : Nm = [91, 93]
        ·have bs1 : (sn.toList == [91, 93]) = true := by rw [HSN.out, str_is HNG.out.1, hs1]; rfl
         have hqs : quoteB Nm = Nm := by rw [hs1]; rfl
         obtain rfl : nc = na := by rw [HNc.out, HNa.out, hqs]
         have HSB := sameBF_any qc qa nc cc ca Nm wc HNa.out (by omega) (by have := HOc.out.toT.bin; rw [hqs] at this; exact this) HAc.out; clear hs1 hqs esn; go_wp2_with fail; refine HSB.mono ?_; rintro e wd ⟨rfl, hbd⟩; have HBd : Hid (Below w.heap.size w wd) := Below.on HBc.out.1 hbd; clear hbd HSB; go_wp2_with fail; go_ret; exact ⟨rfl, HBd.out⟩
        ·by_cases hs2 : Nm = [123, 125]
         ·have bs1 : (sn.toList == [91, 93]) = false := by rw [HSN.out, str_is HNG.out.1, hs2]; rfl
          have bs2 : (sn.toList == [123, 125]) = true := by rw [HSN.out, str_is HNG.out.1, hs2]; rfl
          have hqs : quoteB Nm = Nm := by rw [hs2]; rfl
          obtain rfl : nc = na := by rw [HNc.out, HNa.out, hqs]
          have HSB := sameBF_any qc qa nc cc ca Nm wc HNa.out (by omega) (by have := HOc.out.toT.bin; rw [hqs] at this; exact this) HAc.out; clear hs1 hs2 hqs esn; go_wp2_with fail; refine HSB.mono ?_; rintro e wd ⟨rfl, hbd⟩; have HBd : Hid (Below w.heap.size w wd) := Below.on HBc.out.1 hbd; clear hbd HSB; go_wp2_with fail; go_ret; exact ⟨rfl, HBd.out⟩
         ·have bs1 : (sn.toList == [91, 93]) = false := by rw [HSN.out, str_is HNG.out.1]; exact decide_eq_false hs1
          have bs2 : (sn.toList == [123, 125]) = false := by rw [HSN.out, str_is HNG.out.1]; exact decide_eq_false hs2
          have hqb := quote_byteF (Z := Nm) HNG.out.1 (by have := HNa.out; omega); have hql := quote_lex HNG.out.1 (by have := HNa.out; omega) hs1 hs2; obtain ⟨gc, egc⟩ := ownS_some HOc.out hqb.2; subst egc; have HCd := HIX.out wc _ _ _ _ (quoteB Nm) HBc.out.1 hqb.1 (by have := HNc.out; omega) HOc.out.toR; rw [hql] at HCd; clear hs1 hs2 hqb hql esn; go_wp2_with fail; refine HCd.mono ?_; rintro e wd ⟨pd, nd, cd2, rfl, hod, hbd⟩
          have HBd : Hid (Below w.heap.size w wd ∧ Below wc.heap.size wc wd) := ⟨Below.on HBc.out.1 hbd, hbd⟩
          obtain rfl : nd = 1 := hod.1; obtain ⟨kb, ko, rfl, hta⟩ := hod.tin (by simp); obtain ⟨tq, tc, a0, a1, a2, a3, a4, a5⟩ := hta 0 (by simp); simp only [List.getD_cons_zero, Nat.zero_mul, Nat.add_zero] at a0 a1 a2 a3 a4 a5; have HSB := sameBF_any tq qa na tc ca Nm wd HNa.out (by omega) a5 (HAc.out.below HBd.out.2); rw [← HNa.out] at a3; rw [← HNc.out] at a2
          have HA2 : Hid (∀ W, Below wd.heap.size wd W → W.cell? ⟨kb, ko + 2, none⟩ = some (.int .i64 (nc : Int))) := fun W hW => (hW.cell (World.block_lt_of_cell? _ _ a2)).trans a2
          clear hbd hod hta a1 a4 a5 HCd; go_wp2_with fail; refine HSB.mono ?_; rintro e we ⟨rfl, hbe⟩; have HBe : Hid (Below w.heap.size w we) := Below.on HBd.out.1 hbe; have b2 := HA2.out we hbe; clear hbe HSB a0 a2 a3; go_wp2_with fail; go_ret; exact ⟨rfl, HBe.out⟩
   ·have bc : (cd == 0) = false := by simpa using hcd
    as_aux_lemma =>
     go_wp2_with fail; refine (HDQ.out wr (HBw.out.1)).mono ?_; rintro e wa ⟨qa, na, ca, rfl, hoa, hba⟩; have HBa : Hid (Below w.heap.size w wa) := Below.on (HBw.out.1) hba; have HOa : Hid (OwnR wa wr.heap.size qa na ca Nm) := hoa; have HNa : Hid (na = Nm.length) := hoa.1
     have hna : na ≤ 110 := by rw [hoa.1]; exact HNG.out.2
     clear hoa hba; go_wp2_with fail; refine (HDQ.out wa HBa.out).mono ?_; rintro e wb ⟨qb, nb, cb, rfl, hob, hbb⟩
     have HBb : Hid (Below w.heap.size w wb ∧ Below wa.heap.size wa wb) := ⟨Below.on HBa.out hbb, hbb⟩
     have HCb := HQT.out wb _ _ _ _ HBb.out.1 hob; clear hob hbb; go_wp2_with fail; refine HCb.mono ?_; rintro e wc ⟨qc, nc, cc, rfl, hoc, hbc⟩
     have HBc : Hid (Below w.heap.size w wc ∧ Below wa.heap.size wa wc) := ⟨Below.on HBb.out.1 hbc, Below.on HBb.out.2 hbc⟩
     have HOc : Hid (OwnS wc wb.heap.size qc nc cc (quoteB Nm)) := hoc; have HNc : Hid (nc = (quoteB Nm).length) := hoc.1; have HAc : Hid (BIn wc qa Nm) := HOa.out.bin.below HBc.out.2; clear hoc hbc HCb
     by_cases h100 : 100 < na
     ·have hq0 : nc = 0 := by rw [HNc.out]; unfold quoteB; rw [if_pos (by rw [← HNa.out]; exact h100)]; rfl
      subst hq0
      have h100' : (100 : Int) < (na : Int) := by omega
      go_wp2_with fail; go_ret; exact ⟨rfl, HBc.out.1⟩
     ·have h100' : ¬ (100 : Int) < (na : Int) := by omega
      have hcv := conv_str HAc.out na ca HNa.out 9 Tryz.underlying9
      obtain ⟨sn, esn⟩ : ∃ sn, sn = strOfNums Nm := ⟨_, rfl⟩
      rw [← esn] at hcv; have HSN : Hid (sn = strOfNums Nm) := esn
      have hncs : nc ≤ 1000 := by rw [HNc.out]; have := quote_lenF Nm (by have := HNa.out; omega); omega
      by_cases hs1 : Nm = [91, 93]
      ·have bs1 : (sn.toList == [91, 93]) = true := by rw [HSN.out, str_is HNG.out.1, hs1]; rfl
       have hqs : quoteB Nm = Nm := by rw [hs1]; rfl
       obtain rfl : nc = na := by rw [HNc.out, HNa.out, hqs]
       have HSB := sameBF_any qc qa nc cc ca Nm wc HNa.out (by omega) (by have := HOc.out.toT.bin; rw [hqs] at this; exact this) HAc.out; clear hs1 hqs esn; go_wp2_with fail; refine HSB.mono ?_; rintro e wd ⟨rfl, hbd⟩; have HBd : Hid (Below w.heap.size w wd) := Below.on HBc.out.1 hbd; clear hbd HSB; go_wp2_with fail; go_ret; exact ⟨rfl, HBd.out⟩
      ·by_cases hs2 : Nm = [123, 125]
       ·have bs1 : (sn.toList == [91, 93]) = false := by rw [HSN.out, str_is HNG.out.1, hs2]; rfl
        have bs2 : (sn.toList == [123, 125]) = true := by rw [HSN.out, str_is HNG.out.1, hs2]; rfl
        have hqs : quoteB Nm = Nm := by rw [hs2]; rfl
        obtain rfl : nc = na := by rw [HNc.out, HNa.out, hqs]
        have HSB := sameBF_any qc qa nc cc ca Nm wc HNa.out (by omega) (by have := HOc.out.toT.bin; rw [hqs] at this; exact this) HAc.out; clear hs1 hs2 hqs esn; go_wp2_with fail; refine HSB.mono ?_; rintro e wd ⟨rfl, hbd⟩; have HBd : Hid (Below w.heap.size w wd) := Below.on HBc.out.1 hbd; clear hbd HSB; go_wp2_with fail; go_ret; exact ⟨rfl, HBd.out⟩
       ·have bs1 : (sn.toList == [91, 93]) = false := by rw [HSN.out, str_is HNG.out.1]; exact decide_eq_false hs1
        have bs2 : (sn.toList == [123, 125]) = false := by rw [HSN.out, str_is HNG.out.1]; exact decide_eq_false hs2
        have hqb := quote_byteF (Z := Nm) HNG.out.1 (by have := HNa.out; omega); have hql := quote_lex HNG.out.1 (by have := HNa.out; omega) hs1 hs2; obtain ⟨gc, egc⟩ := ownS_some HOc.out hqb.2; subst egc; have HCd := HIX.out wc _ _ _ _ (quoteB Nm) HBc.out.1 hqb.1 (by have := HNc.out; omega) HOc.out.toR; rw [hql] at HCd; clear hs1 hs2 hqb hql esn; go_wp2_with fail; refine HCd.mono ?_; rintro e wd ⟨pd, nd, cd2, rfl, hod, hbd⟩
        have HBd : Hid (Below w.heap.size w wd ∧ Below wc.heap.size wc wd) := ⟨Below.on HBc.out.1 hbd, hbd⟩
        obtain rfl : nd = 1 := hod.1; obtain ⟨kb, ko, rfl, hta⟩ := hod.tin (by simp); obtain ⟨tq, tc, a0, a1, a2, a3, a4, a5⟩ := hta 0 (by simp); simp only [List.getD_cons_zero, Nat.zero_mul, Nat.add_zero] at a0 a1 a2 a3 a4 a5; have HSB := sameBF_any tq qa na tc ca Nm wd HNa.out (by omega) a5 (HAc.out.below HBd.out.2); rw [← HNa.out] at a3; rw [← HNc.out] at a2
        have HA2 : Hid (∀ W, Below wd.heap.size wd W → W.cell? ⟨kb, ko + 2, none⟩ = some (.int .i64 (nc : Int))) := fun W hW => (hW.cell (World.block_lt_of_cell? _ _ a2)).trans a2
        clear hbd hod hta a1 a4 a5 HCd; go_wp2_with fail; refine HSB.mono ?_; rintro e we ⟨rfl, hbe⟩; have HBe : Hid (Below w.heap.size w we) := Below.on HBd.out.1 hbe; have b2 := HA2.out we hbe; clear hbe HSB a0 a2 a3; go_wp2_with fail; go_ret; exact ⟨rfl, HBe.out⟩
 ·have h9 : 1048576 < xs.length := by omega
  obtain ⟨n, en⟩ : ∃ n, n = xs.length := ⟨_, rfl⟩
  rw [← en] at hlen h9 ⊢
  have h8 : (1048576 : Int) < (n : Int) := by omega
  clear hb hc hx hE hbig en
  go_enter Tryz.func3, Tryz.ntmps3
  go_wp2_with fail; go_ret; exact ⟨rfl, Below.refl _ _⟩
end Go.Proofs.YtfgmenkoeflhaaaGreatDoor
