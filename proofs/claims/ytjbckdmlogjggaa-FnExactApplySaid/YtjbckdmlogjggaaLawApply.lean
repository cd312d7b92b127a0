/- The law FnExactApply, walked. Own work of the verifier. Made by wip/draft/law5.py. -/
import Derived.Test.YtjbckdmlogjggaaAp5
import Derived.Test.YtjbckdmlogjggaaBD3
namespace Go.Proofs.Ytjbckdmlogjggaa
open Go Go.RowKit
set_option linter.unusedVariables false

theorem validFrom_text : ∀ (cs : List Cel) (m : Int), validFrom m cs = true → ∀ c ∈ cs, c.2.2.length ≤ 100
  | [], _, _, c, hc => by cases hc
  | a :: r, m, h, c, hc => by
    simp only [validFrom] at h
    by_cases hd : m = 0 ∨ cellB a.1 a.2.1 a.2.2.length = false
    · rw [if_pos hd] at h; cases h
    · rw [if_neg hd] at h
      rcases List.mem_cons.1 hc with rfl | hc
      · have h2 : cellB c.1 c.2.1 c.2.2.length = true := by
          cases hb : cellB c.1 c.2.1 c.2.2.length with
          | true => rfl
          | false => exact absurd (.inr hb) hd
        simp only [cellB, decide_eq_true_eq] at h2
        omega
      · exact validFrom_text r _ h c hc
theorem validB_text {cs : List Cel} (h : validB cs = true) : ∀ c ∈ cs, c.2.2.length ≤ 100 := by
  simp only [validB, Bool.and_eq_true] at h
  exact validFrom_text cs 1 h.2
theorem tl_le : ∀ cs : List Cel, (∀ c ∈ cs, c.2.2.length ≤ 100) → tl cs ≤ 100 * cs.length
  | [], _ => by simp [tl]
  | a :: r, h => by
    have h1 := tl_le r (fun c hc => h c (by simp [hc]))
    have h2 := h a (by simp)
    simp only [tl, List.length_cons]
    omega
theorem applyR_size (bs : List Bnd) (cs : List Cel) : (applyR bs cs).1.length + tl (applyR bs cs).1 ≤ 300000 := by
  unfold applyR
  split
  · rename_i hv
    split
    · rename_i hl
      have hb := substFrom_mem bs (-1) (by have := hv.1; simp only [substB, Bool.and_eq_true] at this; exact this.2)
      have ht : ∀ c ∈ applyC bs cs, c.2.2.length ≤ 100 := fun c hc => by
        obtain ⟨d, hd, hcd⟩ := List.mem_flatMap.1 hc
        have hone : c ∈ [d] → c.2.2.length ≤ 100 := fun h => by
          rw [List.mem_singleton.1 h]
          exact validB_text hv.2 d hd
        unfold sub1 at hcd
        split at hcd
        · split at hcd
          · rename_i t hlk
            exact validB_text (hb _ (look_mem hlk)).2.2 c hcd
          · exact hone hcd
        · exact hone hcd
      have := tl_le _ ht
      show (applyC bs cs).length + tl (applyC bs cs) ≤ 300000
      omega
    · simp [tl]
  · simp [tl]
theorem endC_pos5 {k : Int} (h : 0 ≤ k) (cs : List Cel) : ¬ endC k cs < 0 := by rw [endC_eq]; omega

set_option maxRecDepth 100000 in
set_option maxHeartbeats 1000000 in
theorem lawApply_any (p q : Option Addr) (cap cap' : Nat) (bs : List Bnd) (cs : List Cel) (w : World) (hin : BdArg w p bs) (hw : ∀ i, i < bs.length → -9223372036854775808 ≤ (bs.getD i Bnd.zero).1 ∧ (bs.getD i Bnd.zero).1 ≤ 9223372036854775807) (hin' : CArg w q cs) :
    Calls Try.prog 5 #[.slice p bs.length cap, .slice q cs.length cap'] w fun e w' => e = .returned (.bool true) ∧ Below w.heap.size w w' := by
  have HI : Hid (BdArg w p bs) := hin
  have HJ : Hid (CArg w q cs) := hin'
  have HS := szBd_any p cap bs 1048576 w (Nat.le_refl _) hin
  have HBX : Hid (∀ i, i < bs.length → ∀ j, j < (bs.getD i Bnd.zero).2.length → Byte ((bs.getD i Bnd.zero).2.getD j Cel.none).2.2) := fun i hi j hj => (hin.item i hi).2.2 j hj
  have HBY : Hid (∀ i, i < cs.length → Byte (cs.getD i Cel.none).2.2) := hin'.byte
  have HW : Hid _ := hw
  have hlen1 := hin.len
  have hlen2 := hin'.len
  clear hin hin' hw
  by_cases hn : bs.length + tll (trm bs) ≤ 1048576
  · obtain ⟨r, er, hr⟩ : ∃ r : Nat, szR 1048576 (bs.length + tll (trm bs)) = r ∧ r ≤ 1048576 := ⟨1048576 - (bs.length + tll (trm bs)), by rw [szR, if_pos hn]; omega, by omega⟩
    rw [er] at HS
    clear er
    have HS2 : Hid (∀ W, Below w.heap.size w W → Calls Try.prog 7 #[.slice q cs.length cap', .int .i64 r] W fun e w' => e = .returned (.int .i64 (szR r (cs.length + tl cs))) ∧ Below W.heap.size W w') := fun W hW => szCellS_any q cap' cs r W hr HJ.out.len HJ.out.text (HJ.out.below hW).lies
    by_cases hm0 : cs.length + tl cs ≤ r
    · obtain ⟨r2, er2⟩ : ∃ r2 : Nat, szR r (cs.length + tl cs) = r2 := ⟨r - (cs.length + tl cs), by rw [szR, if_pos hm0]; omega⟩
      rw [er2] at HS2
      clear er2
      have hm : cs.length + tl cs ≤ 1048576 := by omega
      obtain ⟨zs, ezs⟩ : ∃ zs, zs = (applyR bs cs).1 := ⟨_, rfl⟩
      obtain ⟨code, ecode⟩ : ∃ code, code = (applyR bs cs).2 := ⟨_, rfl⟩
      have HZL : Hid (zs.length + tl zs ≤ 300000) := by show _ ≤ _; rw [ezs]; exact applyR_size bs cs
      have HSP : Hid (∀ (p q : Option Addr) (w : World), BdIn w p bs → CIn w q cs → Calls Try.prog 15 #[.slice p bs.length bs.length, .slice q cs.length cs.length] w fun e w' => ∃ q m c2, e = .returned (.tuple #[.slice q m c2, .int .i64 code]) ∧ OwnC w' w.heap.size q m c2 zs ∧ Below w.heap.size w w') := fun p q w h h' => by rw [ezs, ecode]; exact specApply_any bs cs p q bs.length cs.length bs.length w rfl rfl HW.out hn hm h h'
      have HIM : Hid (∀ (p q : Option Addr) (w : World), BdIn w p bs → TightBd w p bs → CIn w q cs → Calls Try.prog 17 #[.slice p bs.length bs.length, .slice q cs.length cs.length] w fun e w' => ∃ q m c2, e = .returned (.tuple #[.slice q m c2, .int .i64 code]) ∧ OwnC w' w.heap.size q m c2 zs ∧ Below w.heap.size w w') := fun p q w h ht h' => by rw [ezs, ecode]; exact implApply_any bs cs p q bs.length cs.length w rfl rfl HBX.out HBY.out hn (by omega) h ht h'
      clear ezs ecode HBX HBY HW hm0 hr hlen1 hlen2
      go_enter Try.func5, Try.ntmps5
      go_wp2_with fail
      refine (HS).mono ?_
      rintro e w0 ⟨rfl, hb⟩
      have HA0 : Hid (Below w.heap.size w w0) := hb
      clear hb HS
      go_wp2_with fail
      refine (HS2.out w0 HA0.out).mono ?_
      rintro e w1 ⟨rfl, hb⟩
      have HA1 : Hid (Below w.heap.size w w1) := Below.on HA0.out hb
      clear hb HA0
      go_wp2_with fail
      refine (toBd_any p cap bs w1 hn (HI.out.below HA1.out)).mono ?_
      rintro e w2 ⟨rfl, ho, ht, hb⟩
      have HA2 : Hid (Below w.heap.size w w2) := Below.on HA1.out hb
      have HP2 : Hid (BdIn w2 (some ⟨w1.heap.size, 0, none⟩) bs) := ho.bdin
      clear ho ht hb
      go_wp2_with fail
      refine (toCellS_any q cap' cs w2 hm (HJ.out.below HA2.out).lies).mono ?_
      rintro e w3 ⟨rfl, ho, hb⟩
      have HA3 : Hid (Below w.heap.size w w3) := Below.on HA2.out hb
      have HP3 : Hid (BdIn w3 (some ⟨w1.heap.size, 0, none⟩) bs) := HP2.out.below hb
      have HQ3 : Hid (CIn w3 (some ⟨w2.heap.size, 0, none⟩) cs) := ho.cin
      clear ho hb
      go_wp2_with fail
      refine (HSP.out _ _ w3 HP3.out HQ3.out).mono ?_
      rintro e w4 ⟨p4, n4, c4, rfl, ho, hb⟩
      have HA4 : Hid (Below w.heap.size w w4) := Below.on HA3.out hb
      have HB4 : Hid (Below w4.heap.size w4 w4) := Below.refl _ _
      have HZ4 : Hid (CIn w4 p4 zs ∧ n4 = zs.length) := ⟨ho.cin, ho.1⟩
      clear ho hb HP3 HQ3
      go_wp2_with fail
      refine (toBd_any p cap bs w4 hn (HI.out.below HA4.out)).mono ?_
      rintro e w5 ⟨rfl, ho, ht, hb⟩
      have HA5 : Hid (Below w.heap.size w w5) := Below.on HA4.out hb
      have HB5 : Hid (Below w4.heap.size w4 w5) := Below.on HB4.out hb
      have HX5 : Hid (OwnBB w5 w4.heap.size w5.heap.size (some ⟨w4.heap.size, 0, none⟩) bs.length bs.length bs) := ho
      have HT5 : Hid (TightBd w5 (some ⟨w4.heap.size, 0, none⟩) bs) := ht
      have HS5 : Hid (w5.heap.size ≤ w5.heap.size) := Nat.le_refl _
      clear ho ht hb
      go_wp2_with fail
      refine (toCellS_any q cap' cs w5 hm (HJ.out.below HA5.out).lies).mono ?_
      rintro e w6 ⟨rfl, ho, hb⟩
      have HA6 : Hid (Below w.heap.size w w6) := Below.on HA5.out hb
      have HB6 : Hid (Below w4.heap.size w4 w6) := Below.on HB5.out hb
      have HX6 : Hid (OwnBB w6 w4.heap.size w5.heap.size (some ⟨w4.heap.size, 0, none⟩) bs.length bs.length bs) := HX5.out.below hb
      have HT6 : Hid (TightBd w6 (some ⟨w4.heap.size, 0, none⟩) bs) := HT5.out.below hb
      have HS6 : Hid (w5.heap.size ≤ w6.heap.size) := Nat.le_trans HS5.out hb.size
      have HY6 : Hid (OwnCU w6 w5.heap.size w6.heap.size (some ⟨w5.heap.size, 0, none⟩) cs.length cs.length cs) := ho.up
      have HR6 : Hid (w6.heap.size ≤ w6.heap.size) := Nat.le_refl _
      clear ho hb
      go_wp2_with fail
      refine (HIM.out _ _ w6 HX6.out.bdin HT6.out HY6.out.toC.cin).mono ?_
      rintro e w7 ⟨p7, n7, c7, rfl, ho, hb⟩
      have HA7 : Hid (Below w.heap.size w w7) := Below.on HA6.out hb
      have HB7 : Hid (Below w4.heap.size w4 w7) := Below.on HB6.out hb
      have HX7 : Hid (OwnBB w7 w4.heap.size w5.heap.size (some ⟨w4.heap.size, 0, none⟩) bs.length bs.length bs) := HX6.out.below hb
      have HS7 : Hid (w5.heap.size ≤ w7.heap.size) := Nat.le_trans HS6.out hb.size
      have HY7 : Hid (OwnCU w7 w5.heap.size w6.heap.size (some ⟨w5.heap.size, 0, none⟩) cs.length cs.length cs) := HY6.out.below hb
      have HR7 : Hid (w6.heap.size ≤ w7.heap.size) := Nat.le_trans HR6.out hb.size
      have HG7 : Hid (OwnCU w7 w6.heap.size w7.heap.size p7 n7 c7 zs) := ho.up
      have HN7 : Hid (n7 = zs.length) := ho.1
      clear ho hb HT6
      go_wp2_with fail
      rw [HN7.out, HZ4.out.2]
      refine (eqCellS_any p7 p4 c7 c4 zs zs w7 (by have := HZL.out; omega) (by have := HZL.out; omega) HG7.out.toC.cin (HZ4.out.1.below HB7.out)).mono ?_
      rintro e w8 ⟨rfl, hb⟩
      have HA8 : Hid (Below w.heap.size w w8) := Below.on HA7.out hb
      have HB8 : Hid (Below w4.heap.size w4 w8) := Below.on HB7.out hb
      have HX8 : Hid (OwnBB w8 w4.heap.size w5.heap.size (some ⟨w4.heap.size, 0, none⟩) bs.length bs.length bs) := HX7.out.below hb
      have HS8 : Hid (w5.heap.size ≤ w8.heap.size) := Nat.le_trans HS7.out hb.size
      have HY8 : Hid (OwnCU w8 w5.heap.size w6.heap.size (some ⟨w5.heap.size, 0, none⟩) cs.length cs.length cs) := HY7.out.below hb
      have HR8 : Hid (w6.heap.size ≤ w8.heap.size) := Nat.le_trans HR7.out hb.size
      have HG8 : Hid (OwnCU w8 w6.heap.size w7.heap.size p7 n7 c7 zs) := HG7.out.below hb
      have ht : decide (zs = zs) = true := by simp
      rw [ht, ← HN7.out]
      clear ht hb
      go_wp2_with fail
      refine (toBd_any p cap bs w8 hn (HI.out.below HA8.out)).mono ?_
      rintro e w9 ⟨rfl, ho, ht, hb⟩
      have HA9 : Hid (Below w.heap.size w w9) := Below.on HA8.out hb
      have HB9 : Hid (Below w4.heap.size w4 w9) := Below.on HB8.out hb
      have HX9 : Hid (OwnBB w9 w4.heap.size w5.heap.size (some ⟨w4.heap.size, 0, none⟩) bs.length bs.length bs) := HX8.out.below hb
      have HS9 : Hid (w5.heap.size ≤ w9.heap.size) := Nat.le_trans HS8.out hb.size
      have HY9 : Hid (OwnCU w9 w5.heap.size w6.heap.size (some ⟨w5.heap.size, 0, none⟩) cs.length cs.length cs) := HY8.out.below hb
      have HR9 : Hid (w6.heap.size ≤ w9.heap.size) := Nat.le_trans HR8.out hb.size
      have HG9 : Hid (OwnCU w9 w6.heap.size w7.heap.size p7 n7 c7 zs) := HG8.out.below hb
      have HP9 : Hid (BdIn w9 (some ⟨w8.heap.size, 0, none⟩) bs) := ho.bdin
      clear ho ht hb
      go_wp2_with fail
      refine (eqBd_any _ _ _ _ _ _ bs w9 rfl rfl (by omega) HX9.out.bdin HP9.out).mono ?_
      rintro e w10 ⟨rfl, hb⟩
      have HA10 : Hid (Below w.heap.size w w10) := Below.on HA9.out hb
      have HB10 : Hid (Below w4.heap.size w4 w10) := Below.on HB9.out hb
      have HX10 : Hid (OwnBB w10 w4.heap.size w5.heap.size (some ⟨w4.heap.size, 0, none⟩) bs.length bs.length bs) := HX9.out.below hb
      have HS10 : Hid (w5.heap.size ≤ w10.heap.size) := Nat.le_trans HS9.out hb.size
      have HY10 : Hid (OwnCU w10 w5.heap.size w6.heap.size (some ⟨w5.heap.size, 0, none⟩) cs.length cs.length cs) := HY9.out.below hb
      have HR10 : Hid (w6.heap.size ≤ w10.heap.size) := Nat.le_trans HR9.out hb.size
      have HG10 : Hid (OwnCU w10 w6.heap.size w7.heap.size p7 n7 c7 zs) := HG9.out.below hb
      clear hb HP9
      go_wp2_with fail
      refine (toCellS_any q cap' cs w10 hm (HJ.out.below HA10.out).lies).mono ?_
      rintro e w11 ⟨rfl, ho, hb⟩
      have HA11 : Hid (Below w.heap.size w w11) := Below.on HA10.out hb
      have HB11 : Hid (Below w4.heap.size w4 w11) := Below.on HB10.out hb
      have HX11 : Hid (OwnBB w11 w4.heap.size w5.heap.size (some ⟨w4.heap.size, 0, none⟩) bs.length bs.length bs) := HX10.out.below hb
      have HS11 : Hid (w5.heap.size ≤ w11.heap.size) := Nat.le_trans HS10.out hb.size
      have HY11 : Hid (OwnCU w11 w5.heap.size w6.heap.size (some ⟨w5.heap.size, 0, none⟩) cs.length cs.length cs) := HY10.out.below hb
      have HR11 : Hid (w6.heap.size ≤ w11.heap.size) := Nat.le_trans HR10.out hb.size
      have HG11 : Hid (OwnCU w11 w6.heap.size w7.heap.size p7 n7 c7 zs) := HG10.out.below hb
      have HQ11 : Hid (CIn w11 (some ⟨w10.heap.size, 0, none⟩) cs) := ho.cin
      clear ho hb
      go_wp2_with fail
      refine (eqCellS_any _ _ _ _ cs cs w11 (by omega) (by omega) HY11.out.toC.cin HQ11.out).mono ?_
      rintro e w12 ⟨rfl, hb⟩
      have HA12 : Hid (Below w.heap.size w w12) := Below.on HA11.out hb
      have HB12 : Hid (Below w4.heap.size w4 w12) := Below.on HB11.out hb
      have HX12 : Hid (OwnBB w12 w4.heap.size w5.heap.size (some ⟨w4.heap.size, 0, none⟩) bs.length bs.length bs) := HX11.out.below hb
      have HS12 : Hid (w5.heap.size ≤ w12.heap.size) := Nat.le_trans HS11.out hb.size
      have HY12 : Hid (OwnCU w12 w5.heap.size w6.heap.size (some ⟨w5.heap.size, 0, none⟩) cs.length cs.length cs) := HY11.out.below hb
      have HR12 : Hid (w6.heap.size ≤ w12.heap.size) := Nat.le_trans HR11.out hb.size
      have HG12 : Hid (OwnCU w12 w6.heap.size w7.heap.size p7 n7 c7 zs) := HG11.out.below hb
      have ht : decide (cs = cs) = true := by simp
      rw [ht]
      clear ht hb HQ11
      go_wp2_with fail
      refine (markBd_any w4.heap.size w5.heap.size _ _ _ 1 bs w12 (by decide) (by decide) (by omega) HX12.out).mono ?_
      rintro e w13 ⟨rfl, ho, hk⟩
      have HA13 : Hid (Below w.heap.size w w13) := HA12.out.trans (hk.below HA4.out.size HA12.out.size)
      have HB13 : Hid (Below w4.heap.size w4 w13) := HB12.out.trans (hk.below (Nat.le_refl _) HB12.out.size)
      have HS13 : Hid (w5.heap.size ≤ w13.heap.size) := Nat.le_trans HS12.out hk.size
      have HY13 : Hid (OwnCU w13 w5.heap.size w6.heap.size (some ⟨w5.heap.size, 0, none⟩) cs.length cs.length cs) := HY12.out.keep hk (.inr (Nat.le_refl _))
      have HR13 : Hid (w6.heap.size ≤ w13.heap.size) := Nat.le_trans HR12.out hk.size
      have HG13 : Hid (OwnCU w13 w6.heap.size w7.heap.size p7 n7 c7 zs) := HG12.out.keep hk (.inr HS6.out)
      obtain ⟨k1, ek1⟩ : ∃ k, k = endB 1 bs := ⟨_, rfl⟩
      have hk1 : 0 ≤ k1 ∧ k1 ≤ 10000000 := by rw [ek1]; have := kB_bound bs bs.length 1; simp only [endB]; omega
      rw [← ek1]
      clear ek1 ho hk HX12
      go_wp2_with fail
      refine (markCells_any w5.heap.size w6.heap.size _ _ _ k1 cs w13 hk1.1 hk1.2 (by omega) HY13.out).mono ?_
      rintro e w14 ⟨rfl, ho, hk⟩
      have HA14 : Hid (Below w.heap.size w w14) := HA13.out.trans (hk.below HA5.out.size HA13.out.size)
      have HB14 : Hid (Below w4.heap.size w4 w14) := HB13.out.trans (hk.below HB5.out.size HB13.out.size)
      have HS14 : Hid (w5.heap.size ≤ w14.heap.size) := Nat.le_trans HS13.out hk.size
      have HR14 : Hid (w6.heap.size ≤ w14.heap.size) := Nat.le_trans HR13.out hk.size
      have HG14 : Hid (OwnCU w14 w6.heap.size w7.heap.size p7 n7 c7 zs) := HG13.out.keep hk (.inr (Nat.le_refl _))
      obtain ⟨k2, ek2⟩ : ∃ k, k = endC k1 cs := ⟨_, rfl⟩
      have hk2 : ¬ k2 < 0 := by rw [ek2]; exact endC_pos5 hk1.1 cs
      rw [← ek2]
      clear ek2 ho hk HY13 hk1
      go_wp2_with fail
      rw [HN7.out]
      refine (eqCellS_any p7 p4 c7 c4 zs zs w14 (by have := HZL.out; omega) (by have := HZL.out; omega) HG14.out.toC.cin (HZ4.out.1.below HB14.out)).mono ?_
      rintro e w15 ⟨rfl, hb⟩
      have HA15 : Hid (Below w.heap.size w w15) := Below.on HA14.out hb
      have HB15 : Hid (Below w4.heap.size w4 w15) := Below.on HB14.out hb
      have HS15 : Hid (w5.heap.size ≤ w15.heap.size) := Nat.le_trans HS14.out hb.size
      have HR15 : Hid (w6.heap.size ≤ w15.heap.size) := Nat.le_trans HR14.out hb.size
      have HG15 : Hid (OwnCU w15 w6.heap.size w7.heap.size p7 n7 c7 zs) := HG14.out.below hb
      have ht : decide (zs = zs) = true := by simp
      rw [ht, ← HN7.out]
      clear ht hb
      go_wp2_with fail
      refine (markCells_any w6.heap.size w7.heap.size p7 n7 c7 1 zs w15 (by decide) (by decide) (by have := HZL.out; omega) HG15.out).mono ?_
      rintro e w16 ⟨rfl, ho, hk⟩
      have HA16 : Hid (Below w.heap.size w w16) := HA15.out.trans (hk.below HA6.out.size HA15.out.size)
      have HB16 : Hid (Below w4.heap.size w4 w16) := HB15.out.trans (hk.below HB6.out.size HB15.out.size)
      have HS16 : Hid (w5.heap.size ≤ w16.heap.size) := Nat.le_trans HS15.out hk.size
      have HR16 : Hid (w6.heap.size ≤ w16.heap.size) := Nat.le_trans HR15.out hk.size
      have HH16 : Hid (CIn w16 p7 (markC 1 zs)) := ho.toC.cin
      obtain ⟨mm, emm⟩ : ∃ mm, mm = endC 1 zs := ⟨_, rfl⟩
      have hmm : ¬ mm < 0 := by rw [emm]; exact endC_pos5 (by decide) zs
      have HMM : Hid (mm = endC 1 zs) := emm
      rw [← emm]
      clear emm ho hk HG15
      go_wp2_with fail
      refine (heldCells_any p7 n7 c7 1 zs w16 (by decide) (by decide) (by have := HZL.out; omega) HN7.out HH16.out).mono ?_
      rintro e wh ⟨rfl, hwh⟩
      rw [hwh, ← HMM.out]
      clear hwh
      go_wp2_with fail
      refine (toBd_any p cap bs w16 hn (HI.out.below HA16.out)).mono ?_
      rintro e w17 ⟨rfl, ho, ht, hb⟩
      have HA17 : Hid (Below w.heap.size w w17) := Below.on HA16.out hb
      have HB17 : Hid (Below w4.heap.size w4 w17) := Below.on HB16.out hb
      have HS17 : Hid (w5.heap.size ≤ w17.heap.size) := Nat.le_trans HS16.out hb.size
      have HR17 : Hid (w6.heap.size ≤ w17.heap.size) := Nat.le_trans HR16.out hb.size
      have HH17 : Hid (CIn w17 p7 (markC 1 zs)) := HH16.out.below hb
      have HP17 : Hid (BdIn w17 (some ⟨w16.heap.size, 0, none⟩) bs) := ho.bdin
      have HT17 : Hid (TightBd w17 (some ⟨w16.heap.size, 0, none⟩) bs) := ht
      clear ho ht hb
      go_wp2_with fail
      refine (toCellS_any q cap' cs w17 hm (HJ.out.below HA17.out).lies).mono ?_
      rintro e w18 ⟨rfl, ho, hb⟩
      have HA18 : Hid (Below w.heap.size w w18) := Below.on HA17.out hb
      have HB18 : Hid (Below w4.heap.size w4 w18) := Below.on HB17.out hb
      have HS18 : Hid (w5.heap.size ≤ w18.heap.size) := Nat.le_trans HS17.out hb.size
      have HR18 : Hid (w6.heap.size ≤ w18.heap.size) := Nat.le_trans HR17.out hb.size
      have HH18 : Hid (CIn w18 p7 (markC 1 zs)) := HH17.out.below hb
      have HP18 : Hid (BdIn w18 (some ⟨w16.heap.size, 0, none⟩) bs) := HP17.out.below hb
      have HT18 : Hid (TightBd w18 (some ⟨w16.heap.size, 0, none⟩) bs) := HT17.out.below hb
      have HQ18 : Hid (CIn w18 (some ⟨w17.heap.size, 0, none⟩) cs) := ho.cin
      clear ho hb
      go_wp2_with fail
      refine (HIM.out _ _ w18 HP18.out HT18.out HQ18.out).mono ?_
      rintro e w19 ⟨p19, n19, c19, rfl, ho, hb⟩
      have HA19 : Hid (Below w.heap.size w w19) := Below.on HA18.out hb
      have HB19 : Hid (Below w4.heap.size w4 w19) := Below.on HB18.out hb
      have HS19 : Hid (w5.heap.size ≤ w19.heap.size) := Nat.le_trans HS18.out hb.size
      have HR19 : Hid (w6.heap.size ≤ w19.heap.size) := Nat.le_trans HR18.out hb.size
      have HH19 : Hid (CIn w19 p7 (markC 1 zs)) := HH18.out.below hb
      have HG19 : Hid (CIn w19 p19 zs ∧ n19 = zs.length) := ⟨ho.cin, ho.1⟩
      clear ho hb HP18 HT18 HQ18
      go_wp2_with fail
      rw [HG19.out.2, HN7.out]
      refine (eqCellS_any p19 p4 c19 c4 zs zs w19 (by have := HZL.out; omega) (by have := HZL.out; omega) HG19.out.1 (HZ4.out.1.below HB19.out)).mono ?_
      rintro e w20 ⟨rfl, hb⟩
      have HA20 : Hid (Below w.heap.size w w20) := Below.on HA19.out hb
      have HB20 : Hid (Below w4.heap.size w4 w20) := Below.on HB19.out hb
      have HS20 : Hid (w5.heap.size ≤ w20.heap.size) := Nat.le_trans HS19.out hb.size
      have HR20 : Hid (w6.heap.size ≤ w20.heap.size) := Nat.le_trans HR19.out hb.size
      have HH20 : Hid (CIn w20 p7 (markC 1 zs)) := HH19.out.below hb
      have ht : decide (zs = zs) = true := by simp
      rw [ht]
      clear ht hb
      go_wp2_with fail
      refine (heldCells_any p7 zs.length c7 1 zs w20 (by decide) (by decide) (by have := HZL.out; omega) rfl HH20.out).mono ?_
      rintro e wh ⟨rfl, hwh⟩
      rw [hwh, ← HMM.out]
      clear hwh
      go_wp2_with fail
      go_ret
      exact ⟨rfl, HA20.out⟩
    · have er2 : szR r (cs.length + tl cs) = -1 := by rw [szR, if_neg hm0]
      rw [er2] at HS2
      clear er2 HBX HBY HW
      go_enter Try.func5, Try.ntmps5
      go_wp2_with fail
      refine HS.mono ?_
      rintro e w0 ⟨rfl, hb⟩
      have HA0 : Hid (Below w.heap.size w w0) := hb
      clear hb HS
      go_wp2_with fail
      refine (HS2.out w0 HA0.out).mono ?_
      rintro e w1 ⟨rfl, hb⟩
      have HA1 : Hid (Below w.heap.size w w1) := Below.on HA0.out hb
      clear hb
      go_wp2_with fail
      go_ret
      exact ⟨rfl, HA1.out⟩
  · have er : szR 1048576 (bs.length + tll (trm bs)) = -1 := by rw [szR, if_neg hn]
    rw [er] at HS
    clear er HBX HBY HW
    go_enter Try.func5, Try.ntmps5
    go_wp2_with fail
    refine HS.mono ?_
    rintro e w0 ⟨rfl, hb0⟩
    go_wp2_with fail
    go_ret
    exact ⟨rfl, hb0⟩

end Go.Proofs.Ytjbckdmlogjggaa
