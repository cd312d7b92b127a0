/- Texts of CeN, LawCc. Own work of the verifier. -/
import Derived.Test.YtickbkcpcgmlmaaGreatDoorUqbe
import Derived.Test.YtickbkcpcgmlmaaGreatDoorUqba
namespace Go.Proofs.YtickbkcpcgmlmaaGreatDoor
set_option linter.unusedVariables false
set_option maxRecDepth 100000
section
open Go Go.RowKit Go.Maps
set_option linter.unusedSimpArgs false
set_option maxHeartbeats 2000000 in
theorem implCc_any (cs : List Cel) (p : Option Addr) (w : World) (hxb : ∀ i, i < cs.length → Byte (cs.getD i Cel.none).2.2) (hl : cs.length ≤ 1000000000) (hin : CIn w p cs) (a a2 : Addr) (he : ErrAt w a a2) :
  Calls Tryz.prog 7 #[.slice p cs.length cs.length] w (CcOut cs w) := by
 have HIN : Hid (CIn w p cs) := hin
 have HFC : Hid (∀ W mb, Below w.heap.size w W → BuIn W mb 92 buTab → Calls Tryz.prog 25 #[.map (some mb), .slice p cs.length cs.length] W (FcOut W cs)) := fun W mb hW hM => fc_any cs p mb W hxb hl (HIN.out.below hW) hM
 have HER : Hid (ErrAt w a a2) := he
 obtain ⟨m, em⟩ : ∃ m, m = cs.length := ⟨_, rfl⟩
 have hm : m ≤ 1000000000 := by omega
 rw [← em] at HFC ⊢; clear hxb hl hin em HIN he; have HNB := newBuiltins_any w
 go_enter Tryz.func7, Tryz.ntmps7
 go_wp2_with fail; refine HNB.mono ?_; rintro e w1 ⟨mb, rfl, hM, hb1⟩; have HF := HFC.out w1 mb hb1 hM; have HB1 : Hid (Below w.heap.size w w1) := hb1; clear HNB HFC hM hb1; go_wp2_with fail; refine HF.mono ?_; rintro e w2 ⟨ha, p2, n2, cp2, hha, hb2, h | h⟩
 ·obtain ⟨rfl, hno⟩ := h
  have HO : Hid (∀ o, CcOut cs w (.returned (.tuple #[.slice none 0 0, .int .i64 1])) (w2.alloc o)) := fun o => ⟨none, 0, 0, (Below.on HB1.out hb2).alloc (Below.on HB1.out hb2).size _, .inl ⟨rfl, rfl, rfl, rfl, hno⟩⟩
  clear hno hb2 HF HER
  rcases hha with rfl | ⟨t, x, rfl⟩
  all_goals
   go_wp2_with fail; exact bodyPost_ret (v := .tuple #[.slice none 0 0, .int .i64 1]) (by simp [results, Tryz.results7, go_sem]) rfl (HO.out _)
 ·obtain ⟨rfl, hv, c, k, vs, h1, h2, h3, h4, h5, h6, h7, h8, h9, h10⟩ := h
  obtain ⟨t, x, rfl⟩ := h5.iface; have hb20 : Below w.heap.size w w2 := Below.on HB1.out hb2
  have hkl : k.cells.length + 1 ≤ 2000 := by rw [h1] at h4; simpa using h4
  obtain ⟨t1, t2, t3⟩ := tg_parts h2 h3 hkl
  have HCL : ∀ W, Below w2.heap.size w2 W → Calls Tryz.prog 170 #[.agg #[.iface t x, .slice p2 n2 cp2]] W fun e w' => ∃ q m c2, e = .returned (.slice q m c2) ∧ OwnI w' W.heap.size 3 q m c2 (classP (c, k)) ∧ Below W.heap.size W w' := fun W hW => by
   obtain ⟨f1, f2, f3, f4, f5, f6, f7, f8, f9⟩ := flat_parts h2 h3; have hvp := vs_parts (t := (c, k)) f3 f1 f9
   have hlc : k.cells.length + 1 = cs.length := by rw [h1]; simp
   have hren : renCells cs = cs := by rw [h1]; exact f2
   obtain ⟨s1, s2⟩ := own_seq hren
   have hcs : vsC cs = vsC ((kid0 (c, k)).1 :: (kid0 (c, k)).2.cells) ++ vsG (goalsT (kid1 (c, k))) := by rw [h1]; exact hvp
   rw [hcs] at s1 s2; have hvl := visits_len cs []; simp only [List.length_nil] at hvl
   have hgl : (goalsT (kid1 (c, k))).length ≤ 2001 := by
    unfold goalsT
    split
    ·simp
    ·have := conj_len _ (kid1 (c, k)).1 (kid1 (c, k)).2 (Nat.le_refl _); omega
   refine classes_any (kid0 (c, k)).1 (kid0 (c, k)).2 t x (goalsT (kid1 (c, k))) vs p2 n2 cp2 w1.heap.size W h6 (h5.below hW) h10 (h9.below hW) h7 (row_below h8 hW) s1 (by omega) (by omega) (fun g hg => ⟨?_, f5 g hg⟩) (by omega)
   unfold goalsT at hg
   split at hg
   ·cases hg
   ·have := conj_size _ _ _ (Nat.le_refl _) g hg
    omega
  have hgl : (goalsT (kid1 (c, k))).length ≤ 2000 := by
   obtain ⟨f1, f2, f3, f4, f5, f6, f7, f8, f9⟩ := flat_parts h2 h3
   unfold goalsT
   split
   ·simp
   ·have := conj_len _ (kid1 (c, k)).1 (kid1 (c, k)).2 (Nat.le_refl _); omega
  have hcap : n2 ≤ cp2 ∧ cp2 ≤ 9223372036854775807 := by
   rcases h8.2 with ⟨hv2, _⟩ | ⟨g', cap', cur, hv2, _, _, hle', hmx, _⟩
   ·simp only [Value.slice.injEq] at hv2; omega
   ·simp only [Value.slice.injEq, true_and] at hv2
    rw [hv2.2]; exact ⟨hle', hmx⟩
  have f4 := (flat_parts h2 h3).2.2.2.1; have hbV : Below w2.heap.size w2 (w2.alloc (.cells #[.iface t x, .slice p2 n2 cp2] 59)) := new_lowK w2 _; have HC := compiled_any (w2.alloc (.cells #[.iface t x, .slice p2 n2 cp2] 59)) (kid0 (c, k)) t x (goalsT (kid1 (c, k))) p2 n2 cp2 (classP (c, k)) a2 (HER.out.below (Below.on hb20 hbV)).beyond (h5.below hbV) t2 f4 ((gsIn_of h7 h8 h9).below hbV) h7 t3 (by omega) hcap.1 hcap.2 t1 (class3 (c, k)) (fun W hW => HCL W (Below.on hbV hW)); have eT : ccK (classP (c, k)) 5000 (kid0 (c, k)) (goalsT (kid1 (c, k))) = ccT (c, k) := rfl; rw [eT] at HC; have hbW := Below.on hb20 hbV
  have HCO : Hid (∀ W, Below (w2.alloc (.cells #[.iface t x, .slice p2 n2 cp2] 59)).heap.size (w2.alloc (.cells #[.iface t x, .slice p2 n2 cp2] 59)) W → Calls Tryz.prog 27 #[efV a2] W fun e w' => e = .returned (.int .i64 3) ∧ w' = W) := fun W hW => codeBeyond (HER.out.below (Below.on hbW hW))
  have HBG : Hid (∀ W, Below (w2.alloc (.cells #[.iface t x, .slice p2 n2 cp2] 59)).heap.size (w2.alloc (.cells #[.iface t x, .slice p2 n2 cp2] 59)) W → ccBig (c, k) = true → CcOut cs w (.returned (.tuple #[.slice none 0 0, .int .i64 3])) W) := fun W hW hbg => ⟨none, 0, 0, Below.on hbW hW, .inr ⟨hv, c, k, h1, h2, h3, .inl ⟨hbg, rfl, rfl, rfl, rfl⟩⟩⟩
  have HOK : Hid (∀ W q m c2, Below (w2.alloc (.cells #[.iface t x, .slice p2 n2 cp2] 59)).heap.size (w2.alloc (.cells #[.iface t x, .slice p2 n2 cp2] 59)) W → ccBig (c, k) = false → OwnIv [] W (w2.alloc (.cells #[.iface t x, .slice p2 n2 cp2] 59)).heap.size q m c2 (ccT (c, k)).out → CcOut cs w (.returned (.tuple #[.slice q m c2, .int .i64 0])) W) := fun W q m c2 hW hbg ho => ⟨q, m, c2, Below.on hbW hW, .inr ⟨hv, c, k, h1, h2, h3, .inr ⟨hbg, rfl, ho.mono hbW.size⟩⟩⟩
  clear hv h1 h2 h3 h4 h5 h6 h7 h8 h9 h10 hb2 hb20 hha HCL HF HB1 t1 t2 t3 hkl hgl hcap f4 hbV hbW eT HER; go_wp2_with fail; refine HC.mono ?_; rintro e w3 ⟨hb3, ⟨hbg, rfl⟩ | ⟨hbg, q, m2, c2, rfl, ho⟩⟩
  ·have HO : Hid _ := HBG.out w3 hb3 hbg
   have HCW := HCO.out w3 hb3; clear HC hb3 hbg HBG HOK HCO; go_wp2_with fail; refine HCW.mono ?_; rintro e w4 ⟨rfl, hw4⟩; rw [hw4]; clear HCW hw4; go_wp2_with fail; exact bodyPost_ret (v := .tuple #[.slice none 0 0, .int .i64 3]) (by simp [results, Tryz.results7, go_sem]) rfl HO.out
  ·have HO : Hid _ := HOK.out w3 q m2 c2 hb3 hbg ho
   clear HC hb3 hbg ho HBG HOK HCO; go_wp2_with fail; exact bodyPost_ret (v := .tuple #[.slice q m2 c2, .int .i64 0]) (by simp [results, Tryz.results7, go_sem]) rfl HO.out
end
section
open Go Go.RowKit
theorem endC_posK {k : Int} (h : 0 ≤ k) (cs : List Cel) : ¬ endC k cs < 0 := by simp only [endC, kAt]; omega
theorem endIv_pos {k : Int} (h : 0 ≤ k) (ts : List Iv) : 0 ≤ endIv k ts := by simp only [endIv, kI]; omega
theorem cc_both (cs : List Cel) (hxb : ∀ i, i < cs.length → Byte (cs.getD i Cel.none).2.2) (hl : cs.length + tl cs ≤ 1048576) (a a2 : Addr) : ∃ (ts : List Iv) (N : Nat) (cd : Int), N = ts.length ∧ (ts.length ≤ 20000 ∧ ts.length + szIs ts ≤ 100000000) ∧ (∀ i, i < ts.length → (ts.getD i Iv.zero).K = [] ∧ (ts.getD i Iv.zero).L = []) ∧
  (∀ (p : Option Addr) (w : World), CIn w p cs → Calls Tryz.prog 5 #[.slice p cs.length cs.length] w fun e w' => ∃ q c2, e = .returned (.tuple #[.slice q N c2, .int .i64 cd]) ∧ OwnIv [] w' w.heap.size q N c2 ts ∧ Below w.heap.size w w') ∧
  (∀ (p : Option Addr) (w : World), CIn w p cs → ErrAt w a a2 → Calls Tryz.prog 7 #[.slice p cs.length cs.length] w fun e w' => ∃ q c2, e = .returned (.tuple #[.slice q N c2, .int .i64 cd]) ∧ OwnIv [] w' w.heap.size q N c2 ts ∧ Below w.heap.size w w') := by
 have fin : ∀ (ts : List Iv) (cd : Int), (ts.length ≤ 20000 ∧ (∀ i ∈ ts, i.c.2.2.length ≤ 100 ∧ i.K = [] ∧ i.L = [])) → (∀ (w : World) e w', CcOut cs w e w' → ∃ q c2, e = .returned (.tuple #[.slice q ts.length c2, .int .i64 cd]) ∧ OwnIv [] w' w.heap.size q ts.length c2 ts ∧ Below w.heap.size w w') → ∃ (ts : List Iv) (N : Nat) (cd : Int), N = ts.length ∧ (ts.length ≤ 20000 ∧ ts.length + szIs ts ≤ 100000000) ∧ (∀ i, i < ts.length → (ts.getD i Iv.zero).K = [] ∧ (ts.getD i Iv.zero).L = []) ∧
   (∀ (p : Option Addr) (w : World), CIn w p cs → Calls Tryz.prog 5 #[.slice p cs.length cs.length] w fun e w' => ∃ q c2, e = .returned (.tuple #[.slice q N c2, .int .i64 cd]) ∧ OwnIv [] w' w.heap.size q N c2 ts ∧ Below w.heap.size w w') ∧
   (∀ (p : Option Addr) (w : World), CIn w p cs → ErrAt w a a2 → Calls Tryz.prog 7 #[.slice p cs.length cs.length] w fun e w' => ∃ q c2, e = .returned (.tuple #[.slice q N c2, .int .i64 cd]) ∧ OwnIv [] w' w.heap.size q N c2 ts ∧ Below w.heap.size w w') := fun ts cd h1 h2 => by
  have h3 := szIs_small ts h1.2; refine ⟨ts, ts.length, cd, rfl, ⟨h1.1, by omega⟩, fun i hi => ?_, fun p w h => (specCc_any cs p w hxb hl h).mono fun e w' h => h2 w e w' h, fun p w h he => (implCc_any cs p w hxb (by omega) h a a2 he).mono fun e w' h => h2 w e w' h⟩; rw [List.getD_eq_getElem?_getD, List.getElem?_eq_getElem hi]; exact (h1.2 _ (List.getElem_mem hi)).2
 by_cases hg : validB cs = true ∧ ∀ c k, cs = c :: k.cells → (Fo.node c k .nil).ok → flatB (c, k) = true
 ·obtain ⟨c, k, ex, hok, hlx⟩ := tree_of hxb hg.1
  have hf := hg.2 c k ex hok
  have hkl : k.cells.length + 1 ≤ 2000 := by rw [ex] at hlx; simpa using hlx
  obtain ⟨t1, t2, t3⟩ := tg_parts hok hf hkl
  cases hbg : ccBig (c, k) with
  | true =>
    refine fin [] 3 ⟨Nat.zero_le _, fun i hi => by cases hi⟩ fun w e w' h => ?_
    obtain ⟨q, m, c2, hb, h | ⟨hv, c', k', e', ok', hf', h⟩⟩ := h
    ·exact absurd hg h.2.2.2.2
    ·obtain ⟨rfl, rfl⟩ := tree_one (ex.symm.trans e') hok ok'
     rcases h with ⟨_, he, rfl, rfl, rfl⟩ | ⟨hn, _⟩
     ·exact ⟨none, 0, he, OwnIv.nil _ _ _, hb⟩
     ·rw [hbg] at hn; cases hn
  | false =>
    have hsm : (ccT (c, k)).out.length ≤ 20000 := by
     unfold ccBig at hbg
     rw [Bool.or_eq_false_iff] at hbg; have := of_decide_eq_false hbg.1
     omega
    refine fin (ccT (c, k)).out 0 ⟨hsm, tx_ccK _ _ _ _ t2.tx fun g hgm => (t3 g hgm).1.tx⟩ fun w e w' h => ?_
    obtain ⟨q, m, c2, hb, h | ⟨hv, c', k', e', ok', hf', h⟩⟩ := h
    ·exact absurd hg h.2.2.2.2
    ·obtain ⟨rfl, rfl⟩ := tree_one (ex.symm.trans e') hok ok'
     rcases h with ⟨hn, _⟩ | ⟨_, he, ho⟩
     ·rw [hbg] at hn; cases hn
     ·have hm := ho.1
      subst hm; exact ⟨q, c2, he, ho, hb⟩
 ·refine fin [] 1 ⟨Nat.zero_le _, fun i hi => by cases hi⟩ fun w e w' h => ?_
  obtain ⟨q, m, c2, hb, h | ⟨hv, c', k', e', ok', hf', h⟩⟩ := h
  ·obtain ⟨he, rfl, rfl, rfl, _⟩ := h
   exact ⟨none, 0, he, OwnIv.nil _ _ _, hb⟩
  ·refine absurd ⟨hv, fun c k ex hok => ?_⟩ hg
   obtain ⟨rfl, rfl⟩ := tree_one (ex.symm.trans e') hok ok'; exact hf'
set_option maxHeartbeats 1000000 in
theorem lawCc_any (p : Option Addr) (cap : Nat) (cs : List Cel) (w : World) (hin : CArg w p cs) (a a2 : Addr) (he : ErrAt w a a2) :
  Calls Tryz.prog 3 #[.slice p cs.length cap] w fun e w' => e = .returned (.bool true) ∧ Below w.heap.size w w' := by
 have HI : Hid (CArg w p cs) := hin; have HER : Hid (ErrAt w a a2) := he; have HS := szCellS_any p cap cs 1048576 w (Nat.le_refl _) hin.len hin.text hin.lies; have HBY : Hid (∀ i, i < cs.length → Byte (cs.getD i Cel.none).2.2) := hin.byte; clear hin he
 by_cases hn : cs.length + tl cs ≤ 1048576
 ·obtain ⟨r, er⟩ : ∃ r : Nat, szR 1048576 (cs.length + tl cs) = r := ⟨1048576 - (cs.length + tl cs), by rw [szR, if_pos hn]; omega⟩
  rw [er] at HS; clear er; obtain ⟨ts, N, cd, hNt, hzl, hno, hsp, him⟩ := cc_both cs HBY.out hn a a2
  have HZL : Hid ((ts.length ≤ 20000 ∧ ts.length + szIs ts ≤ 100000000) ∧ N = ts.length ∧ ∀ i, i < ts.length → (ts.getD i Iv.zero).K = [] ∧ (ts.getD i Iv.zero).L = []) := ⟨hzl, hNt, hno⟩
  have hN : N ≤ 20000 := by omega
  have HSP : Hid (∀ (p : Option Addr) (w : World), CIn w p cs → Calls Tryz.prog 5 #[.slice p cs.length cs.length] w fun e w' => ∃ q c2, e = .returned (.tuple #[.slice q N c2, .int .i64 cd]) ∧ OwnIv [] w' w.heap.size q N c2 ts ∧ Below w.heap.size w w') := hsp; have HIM : Hid (∀ (p : Option Addr) (w : World), CIn w p cs → ErrAt w a a2 → Calls Tryz.prog 7 #[.slice p cs.length cs.length] w fun e w' => ∃ q c2, e = .returned (.tuple #[.slice q N c2, .int .i64 cd]) ∧ OwnIv [] w' w.heap.size q N c2 ts ∧ Below w.heap.size w w') := him; clear hzl hsp him HBY hNt hno
  go_enter Tryz.func3, Tryz.ntmps3
  go_wp2_with fail; refine HS.mono ?_; rintro e w0 ⟨rfl, hb⟩; have HA0 : Hid (Below w.heap.size w w0) := hb; clear hb HS; go_wp2_with fail; refine (toCellS_any p cap cs w0 hn (HI.out.below HA0.out).lies).mono ?_; rintro e w1 ⟨rfl, ho1, hb⟩; have HC1 : Hid (CIn w1 (some ⟨w0.heap.size, 0, none⟩) cs) := ho1.cin; have HA1 : Hid (Below w.heap.size w w1) := Below.on HA0.out hb; clear ho1 hb; go_wp2_with fail; refine (HSP.out _ w1 HC1.out).mono ?_; rintro e w2 ⟨p2, c2, rfl, ho2, hb⟩; have HZ2 : Hid (OwnIv [] w2 w1.heap.size p2 N c2 ts) := ho2; have HA2 : Hid (Below w.heap.size w w2) := Below.on HA1.out hb; clear ho2 hb HC1; go_wp2_with fail; refine (toCellS_any p cap cs w2 hn (HI.out.below HA2.out).lies).mono ?_; rintro e w3 ⟨rfl, ho3, hb⟩; have HX3 : Hid (OwnCU w3 w2.heap.size w3.heap.size (some ⟨w2.heap.size, 0, none⟩) cs.length cs.length cs) := ho3.up; have HA3 : Hid (Below w.heap.size w w3) := Below.on HA2.out hb
  have HB3 : Hid (Below w2.heap.size w2 w3) := hb; clear ho3 hb; go_wp2_with fail; refine (HIM.out _ w3 HX3.out.toC.cin (HER.out.below HA3.out)).mono ?_; rintro e w4 ⟨p4, c4, rfl, ho4, hb⟩; have HG4 : Hid (OwnIv [] w4 w3.heap.size p4 N c4 ts) := ho4; have HX4 : Hid (OwnCU w4 w2.heap.size w3.heap.size (some ⟨w2.heap.size, 0, none⟩) cs.length cs.length cs) := HX3.out.below hb; have HA4 : Hid (Below w.heap.size w w4) := Below.on HA3.out hb; have HB4 : Hid (Below w2.heap.size w2 w4) := Below.on HB3.out hb; have HS4 : Hid (w3.heap.size ≤ w4.heap.size) := hb.size; clear ho4 hb HX3; go_wp2_with fail; refine (eqInsS_any p4 p2 N c4 c2 ts w4 HZL.out.2.1 HZL.out.1.2 (OwnIv.lies HG4.out) (OwnIv.lies (OwnIv.below HZ2.out HB4.out))).mono ?_; rintro e w5 ⟨rfl, hb⟩; have HG5 : Hid (OwnIv [] w5 w3.heap.size p4 N c4 ts) := OwnIv.below HG4.out hb; have HX5 : Hid (OwnCU w5 w2.heap.size w3.heap.size (some ⟨w2.heap.size, 0, none⟩) cs.length cs.length cs) := HX4.out.below hb
  have HA5 : Hid (Below w.heap.size w w5) := Below.on HA4.out hb; have HB5 : Hid (Below w2.heap.size w2 w5) := Below.on HB4.out hb; have HS5 : Hid (w3.heap.size ≤ w5.heap.size) := Nat.le_trans HS4.out hb.size; clear hb HG4 HX4; go_wp2_with fail; refine (toCellS_any p cap cs w5 hn (HI.out.below HA5.out).lies).mono ?_; rintro e w6 ⟨rfl, ho6, hb⟩; have HC6 : Hid (CIn w6 (some ⟨w5.heap.size, 0, none⟩) cs) := ho6.cin; have HG6 : Hid (OwnIv [] w6 w3.heap.size p4 N c4 ts) := OwnIv.below HG5.out hb; have HX6 : Hid (OwnCU w6 w2.heap.size w3.heap.size (some ⟨w2.heap.size, 0, none⟩) cs.length cs.length cs) := HX5.out.below hb; have HA6 : Hid (Below w.heap.size w w6) := Below.on HA5.out hb; have HB6 : Hid (Below w2.heap.size w2 w6) := Below.on HB5.out hb; have HS6 : Hid (w3.heap.size ≤ w6.heap.size) := Nat.le_trans HS5.out hb.size; clear ho6 hb HG5 HX5; go_wp2_with fail; refine (eqCellS_any _ _ _ _ cs cs w6 (by omega) (by omega) HX6.out.toC.cin HC6.out).mono ?_
  rintro e w7 ⟨rfl, hb⟩; have HG7 : Hid (OwnIv [] w7 w3.heap.size p4 N c4 ts) := OwnIv.below HG6.out hb; have HX7 : Hid (OwnCU w7 w2.heap.size w3.heap.size (some ⟨w2.heap.size, 0, none⟩) cs.length cs.length cs) := HX6.out.below hb; have HA7 : Hid (Below w.heap.size w w7) := Below.on HA6.out hb; have HB7 : Hid (Below w2.heap.size w2 w7) := Below.on HB6.out hb; have HS7 : Hid (w3.heap.size ≤ w7.heap.size) := Nat.le_trans HS6.out hb.size; clear hb HG6 HX6 HC6
  have ht : decide (cs = cs) = true := by simp
  rw [ht]; clear ht; go_wp2_with fail; refine (markCells_any w2.heap.size w3.heap.size _ _ _ 1 cs w7 (by decide) (by decide) (by omega) HX7.out).mono ?_; rintro e w8 ⟨rfl, ho8, hk⟩; have HG8 : Hid (OwnIv [] w8 w3.heap.size p4 N c4 ts) := OwnIv.of HG7.out hk.size (fun k h1 h2 => hk.block k h2 (.inr h1)); have HA8 : Hid (Below w.heap.size w w8) := HA7.out.trans (hk.below HA2.out.size HA7.out.size); have HB8 : Hid (Below w2.heap.size w2 w8) := HB7.out.trans (hk.below (Nat.le_refl _) HB7.out.size); have HS8 : Hid (w3.heap.size ≤ w8.heap.size) := Nat.le_trans HS7.out hk.size; clear ho8 hk HG7 HX7
  obtain ⟨kk, ekk⟩ : ∃ kk, kk = endC 1 cs := ⟨_, rfl⟩
  have hkk : ¬ kk < 0 := by rw [ekk]; exact endC_posK (by decide) cs
  rw [← ekk]; clear ekk; go_wp2_with fail; refine (eqInsS_any p4 p2 N c4 c2 ts w8 HZL.out.2.1 HZL.out.1.2 (OwnIv.lies HG8.out) (OwnIv.lies (OwnIv.below HZ2.out HB8.out))).mono ?_; rintro e w9 ⟨rfl, hb⟩; have HG9 : Hid (OwnIv [] w9 w3.heap.size p4 N c4 ts) := OwnIv.below HG8.out hb; have HA9 : Hid (Below w.heap.size w w9) := Below.on HA8.out hb; have HB9 : Hid (Below w2.heap.size w2 w9) := Below.on HB8.out hb; have HS9 : Hid (w3.heap.size ≤ w9.heap.size) := Nat.le_trans HS8.out hb.size; clear hb HG8; go_wp2_with fail; refine (markIv_any w3.heap.size p4 N c4 1 ts w9 (by decide) (by decide) HZL.out.1.2 HG9.out).mono ?_; rintro e w10 ⟨rfl, ho10, hb⟩; have HH10 : Hid (OwnIv [] w10 w3.heap.size p4 N c4 (markI 1 ts)) := ho10; have HA10 : Hid (Below w.heap.size w w10) := HA9.out.trans (hb.mono HA3.out.size); have HB10 : Hid (Below w2.heap.size w2 w10) := HB9.out.trans (hb.mono HB3.out.size); clear hb ho10 HG9
  have HHD : Hid (∀ W, OwnIv [] W w3.heap.size p4 N c4 (markI 1 ts) → Calls Tryz.prog 12 #[.slice p4 N c4, .int .i64 1] W fun e w' => e = .returned (.int .i64 (endIv 1 ts)) ∧ w' = W) := fun W hW => heldIv_any p4 N c4 1 ts W (by decide) (by decide) HZL.out.1.2 HZL.out.2.1 HZL.out.2.2 ⟨_, hW⟩
  obtain ⟨ee, eee⟩ : ∃ ee, ee = endIv 1 ts := ⟨_, rfl⟩
  have hm0 : ¬ (ee < 0) := by rw [eee]; have := endIv_pos (k := 1) (by decide) ts; omega
  rw [← eee] at HHD ⊢; clear eee; go_wp2_with fail; refine (HHD.out w10 HH10.out).mono ?_; rintro e w11 ⟨rfl, hw11⟩; rw [hw11]; clear hw11; go_wp2_with fail; refine (toCellS_any p cap cs _ hn (HI.out.below HA10.out).lies).mono ?_; rintro e w12 ⟨rfl, ho12, hb⟩; have HC12 : Hid (CIn w12 _ cs) := ho12.cin; have HH12 : Hid (OwnIv [] w12 w3.heap.size p4 N c4 (markI 1 ts)) := OwnIv.below HH10.out hb; have HA12 : Hid (Below w.heap.size w w12) := Below.on HA10.out hb; have HB12 : Hid (Below w2.heap.size w2 w12) := Below.on HB10.out hb; clear ho12 hb HH10; go_wp2_with fail; refine (HIM.out _ w12 HC12.out (HER.out.below HA12.out)).mono ?_; rintro e w13 ⟨p13, c13, rfl, ho13, hb⟩; have HH13 : Hid (OwnIv [] w13 w3.heap.size p4 N c4 (markI 1 ts)) := OwnIv.below HH12.out hb; have HG13 : Hid (OwnIv [] w13 w12.heap.size p13 N c13 ts) := ho13; have HA13 : Hid (Below w.heap.size w w13) := Below.on HA12.out hb
  have HB13 : Hid (Below w2.heap.size w2 w13) := Below.on HB12.out hb; clear ho13 hb HH12 HC12; go_wp2_with fail; refine (eqInsS_any p13 p2 N c13 c2 ts w13 HZL.out.2.1 HZL.out.1.2 (OwnIv.lies HG13.out) (OwnIv.lies (OwnIv.below HZ2.out HB13.out))).mono ?_; rintro e w14 ⟨rfl, hb⟩; have HH14 : Hid (OwnIv [] w14 w3.heap.size p4 N c4 (markI 1 ts)) := OwnIv.below HH13.out hb; have HA14 : Hid (Below w.heap.size w w14) := Below.on HA13.out hb; clear hb HH13; go_wp2_with fail; refine (HHD.out w14 HH14.out).mono ?_; rintro e w15 ⟨rfl, hw15⟩; rw [hw15]; clear hw15; go_wp2_with fail; go_ret; exact ⟨rfl, HA14.out⟩
 ·have er : szR 1048576 (cs.length + tl cs) = -1 := by rw [szR, if_neg hn]
  rw [er] at HS; clear er HBY
  go_enter Tryz.func3, Tryz.ntmps3
  go_wp2_with (go_at_call 4; refine HS.mono ?_; rintro e w0 ⟨rfl, hb0⟩); go_ret; exact ⟨rfl, hb0⟩
end
end Go.Proofs.YtickbkcpcgmlmaaGreatDoor
