/- The law FnExactAddOp, walked. Own work of the verifier. -/
import Derived.Test.YtbfhpnacoigfkaaOpsS3
import Derived.Test.YtbfhpnacoigfkaaMarkO
import Derived.Test.YtbfhpnacoigfkaaLawTab
namespace Go.Proofs.Ytbfhpnacoigfkaa
open Go Go.RowKit
set_option linter.unusedVariables false

theorem tl_filter (f : Cel → Bool) : ∀ cs : List Cel, tl (cs.filter f) ≤ tl cs
  | [] => Nat.le_refl _
  | c :: r => by
    have := tl_filter f r
    rw [List.filter_cons]
    split
    · simp only [tl]; omega
    · simp only [tl]; omega
theorem tl_putL (o : Cel) : ∀ (d : Bool) (cs : List Cel), (putL o d cs).length ≤ cs.length + 1 ∧ tl (putL o d cs) ≤ tl cs + o.2.2.length
  | d, [] => by cases d <;> simp [putL, tl]
  | d, x :: r => by
    have ih := tl_putL o d r
    rw [putL]
    split
    · simp only [tl, List.length_cons]; omega
    · split
      · rw [putL_done]
        have h1 := tl_filter (fun x => decide (keyC x ≠ keyC o)) r
        have h2 := List.length_filter_le (fun x => decide (keyC x ≠ keyC o)) r
        simp only [tl, List.length_cons]; omega
      · simp only [tl, List.length_cons]; omega
theorem addR_size (cs : List Cel) (k n : Int) (xs : List Int) : (addR cs k n xs).1.length ≤ cs.length + 1 ∧ tl (addR cs k n xs).1 ≤ tl cs + xs.length := by
  unfold addR
  split
  · simp [tl]
  · split
    · simp [tl]
    · split
      · simp [tl]
      · exact tl_putL (k, n, xs) _ cs
theorem endO_pos {k : Int} (h : 0 ≤ k) (cs : List Cel) : ¬ endO k cs < 0 := by simp only [endO, kAt]; omega
theorem mem_byte {cs : List Cel} (h : ∀ i, i < cs.length → ∀ x ∈ (cs.getD i Cel.none).2.2, 0 ≤ x ∧ x < 256) : ∀ x ∈ cs, Byte x.2.2 := fun x hx => by
  obtain ⟨i, hi, rfl⟩ := List.mem_iff_getElem.1 hx
  have := h i hi
  rw [List.getD, List.getElem?_eq_getElem hi] at this
  exact this

set_option maxRecDepth 100000 in
set_option maxHeartbeats 4000000 in
theorem lawAdd_any (p : Option Addr) (cap : Nat) (cs : List Cel) (k n : Int) (q : Option Addr) (cq : Nat) (xs : List Int) (w : World) (hin : OArg w p cs) (hxl : xs.length ≤ 9223372036854775807) (hx : BIn w q xs) (hxb : Byte xs) :
    Calls Try.prog 4 #[.slice p cs.length cap, .int .i64 k, .int .i64 n, .slice q xs.length cq] w fun e w' => e = .returned (.bool true) ∧ Below w.heap.size w w' := by
  have HI : Hid (OArg w p cs) := hin
  have HX : Hid (BIn w q xs) := hx
  have HS := szOpS_any p cap cs 1048576 w (Nat.le_refl _) hin.len hin.text hin.lies
  have HBY : Hid (∀ x ∈ cs, Byte x.2.2) := mem_byte hin.byte
  have HXB : Hid (Byte xs) := hxb
  clear hin hx hxb
  by_cases hxn : xs.length ≤ 1048576
  · have hxn' : ¬ (1048576 : Int) < xs.length := by omega
    by_cases hn : cs.length + tl cs ≤ 1048576
    · obtain ⟨r, er⟩ : ∃ r : Nat, szR 1048576 (cs.length + tl cs) = r := ⟨1048576 - (cs.length + tl cs), by rw [szR, if_pos hn]; omega⟩
      rw [er] at HS
      clear er
      have hsz := addR_size cs k n xs
      have HSP : Hid (∀ (p q : Option Addr) (w : World), OIn w p cs → BIn w q xs → Calls Try.prog 10 #[.slice p cs.length cs.length, .int .i64 k, .int .i64 n, .slice q xs.length xs.length] w (SpecE w (addR cs k n xs))) := fun p q w h1 h2 => specAdd_any p cs.length cs k n q xs.length xs w (by omega) h1 (by omega) h2
      have HIM : Hid (∀ (p q : Option Addr) (w : World), OIn w p cs → BIn w q xs → Calls Try.prog 12 #[.slice p cs.length cs.length, .int .i64 k, .int .i64 n, .slice q xs.length xs.length] w (AddE w (addR cs k n xs))) := fun p q w h1 h2 => implAdd_any p cs.length cs k n q xs.length xs w (by omega) h1 HBY.out HXB.out (by omega) h2
      obtain ⟨⟨zs, kc⟩, ezs⟩ : ∃ z, z = addR cs k n xs := ⟨_, rfl⟩
      rw [← ezs] at HSP HIM hsz
      have HZL : Hid (zs.length + tl zs ≤ 3000000) := by show _ ≤ _; simp only at hsz; omega
      clear ezs HBY HXB hsz
      go_enter Try.func4, Try.ntmps4
      go_wp2_with fail
      refine (HS).mono ?_
      rintro e w0 ⟨rfl, hb⟩
      have HA0 : Hid (Below w.heap.size w w0) := hb
      clear hb HS
      go_wp2_with fail
      refine (toOpS_any p cap cs w0 hn (HI.out.below HA0.out).lies).mono ?_
      rintro e w1 ⟨rfl, ho1, hb⟩
      have HC1 : Hid (OIn w1 (some ⟨w0.heap.size, 0, none⟩) cs) := ho1.oin
      have HA1 : Hid (Below w.heap.size w w1) := Below.on HA0.out hb
      clear ho1 hb
      go_wp2_with fail
      refine (toByteS_any q cq xs w1 hxn (HX.out.below HA1.out)).mono ?_
      rintro e w2 ⟨rfl, ho2, hb⟩
      have HC2 : Hid (OIn w2 (some ⟨w0.heap.size, 0, none⟩) cs) := HC1.out.below hb
      have HD2 : Hid (BIn w2 (some ⟨w1.heap.size, 0, none⟩) xs) := (OwnS.of_row ho2).bin
      have HA2 : Hid (Below w.heap.size w w2) := Below.on HA1.out hb
      clear ho2 hb HC1
      go_wp2_with fail
      refine (HSP.out _ _ w2 HC2.out HD2.out).mono ?_
      rintro e w3 ⟨p3, n3, c3, rfl, hn3, ho3, hb⟩
      have HZ3 : Hid (OIn w3 p3 zs ∧ n3 = zs.length) := ⟨ho3, hn3⟩
      have HA3 : Hid (Below w.heap.size w w3) := Below.on HA2.out hb
      clear ho3 hb hn3 HC2 HD2
      go_wp2_with fail
      refine (toOpS_any p cap cs w3 hn (HI.out.below HA3.out).lies).mono ?_
      rintro e w4 ⟨rfl, ho4, hb⟩
      have HX4 : Hid (OwnOU w4 w3.heap.size w4.heap.size (some ⟨w3.heap.size, 0, none⟩) cs.length cs.length cs) := ho4.up
      have HA4 : Hid (Below w.heap.size w w4) := Below.on HA3.out hb
      have HB4 : Hid (Below w3.heap.size w3 w4) := hb
      clear ho4 hb
      go_wp2_with fail
      refine (toByteS_any q cq xs w4 hxn (HX.out.below HA4.out)).mono ?_
      rintro e w5 ⟨rfl, ho5, hb⟩
      have HY5 : Hid (OwnT w5 w4.heap.size (some ⟨w4.heap.size, 0, none⟩) xs.length xs.length xs) := (OwnS.of_row ho5).toT
      have HT5 : Hid (w4.heap.size < w5.heap.size) := (ho5.lt w4.heap.size rfl).2
      have HA5 : Hid (Below w.heap.size w w5) := Below.on HA4.out hb
      have HB5 : Hid (Below w3.heap.size w3 w5) := Below.on HB4.out hb
      have HX5 : Hid (OwnOU w5 w3.heap.size w4.heap.size (some ⟨w3.heap.size, 0, none⟩) cs.length cs.length cs) := HX4.out.below hb
      clear ho5 hb HX4
      go_wp2_with fail
      refine (HIM.out _ _ w5 HX5.out.toO.oin HY5.out.bin).mono ?_
      rintro e w6 ⟨p6, n6, c6, rfl, ho6, hb⟩
      have HG6 : Hid (OwnOU w6 w5.heap.size w6.heap.size p6 n6 c6 zs) := ho6.up
      have HN6 : Hid (n6 = zs.length) := ho6.1
      have HA6 : Hid (Below w.heap.size w w6) := Below.on HA5.out hb
      have HB6 : Hid (Below w3.heap.size w3 w6) := Below.on HB5.out hb
      have HX6 : Hid (OwnOU w6 w3.heap.size w4.heap.size (some ⟨w3.heap.size, 0, none⟩) cs.length cs.length cs) := HX5.out.below hb
      have HY6 : Hid (OwnT w6 w4.heap.size (some ⟨w4.heap.size, 0, none⟩) xs.length xs.length xs) := HY5.out.below hb
      have HS6 : Hid (w6.heap.size ≤ w6.heap.size) := Nat.le_refl _
      have HS56 : Hid (w5.heap.size ≤ w6.heap.size) := hb.size
      clear ho6 hb HX5 HY5
      go_wp2_with fail
      rw [HN6.out, HZ3.out.2]
      refine (eqOpS_any p6 p3 c6 c3 zs zs w6 (by have := HZL.out; omega) (by have := HZL.out; omega) (HG6.out.toO.oin) (HZ3.out.1.below HB6.out)).mono ?_
      rintro e w7 ⟨rfl, hb⟩
      have ht : decide (zs = zs) = true := by simp
      rw [ht, ← HN6.out]
      clear ht
      have HA7 : Hid (Below w.heap.size w w7) := Below.on HA6.out hb
      have HB7 : Hid (Below w3.heap.size w3 w7) := Below.on HB6.out hb
      have HX7 : Hid (OwnOU w7 w3.heap.size w4.heap.size (some ⟨w3.heap.size, 0, none⟩) cs.length cs.length cs) := HX6.out.below hb
      have HY7 : Hid (OwnT w7 w4.heap.size (some ⟨w4.heap.size, 0, none⟩) xs.length xs.length xs) := HY6.out.below hb
      have HG7 : Hid (OwnOU w7 w5.heap.size w6.heap.size p6 n6 c6 zs) := HG6.out.below hb
      have HS7 : Hid (w6.heap.size ≤ w7.heap.size) := Nat.le_trans HS6.out hb.size
      clear hb
      go_wp2_with fail
      refine (toOpS_any p cap cs w7 hn (HI.out.below HA7.out).lies).mono ?_
      rintro e w8 ⟨rfl, ho8, hb⟩
      have HC8 : Hid (OIn w8 (some ⟨w7.heap.size, 0, none⟩) cs) := ho8.oin
      have HA8 : Hid (Below w.heap.size w w8) := Below.on HA7.out hb
      have HB8 : Hid (Below w3.heap.size w3 w8) := Below.on HB7.out hb
      have HX8 : Hid (OwnOU w8 w3.heap.size w4.heap.size (some ⟨w3.heap.size, 0, none⟩) cs.length cs.length cs) := HX7.out.below hb
      have HY8 : Hid (OwnT w8 w4.heap.size (some ⟨w4.heap.size, 0, none⟩) xs.length xs.length xs) := HY7.out.below hb
      have HG8 : Hid (OwnOU w8 w5.heap.size w6.heap.size p6 n6 c6 zs) := HG7.out.below hb
      have HS8 : Hid (w6.heap.size ≤ w8.heap.size) := Nat.le_trans HS7.out hb.size
      clear ho8 hb
      go_wp2_with fail
      refine (eqOpS_any _ _ _ _ cs cs w8 (by omega) (by omega) HX8.out.toO.oin HC8.out).mono ?_
      rintro e w9 ⟨rfl, hb⟩
      have HA9 : Hid (Below w.heap.size w w9) := Below.on HA8.out hb
      have HB9 : Hid (Below w3.heap.size w3 w9) := Below.on HB8.out hb
      have HX9 : Hid (OwnOU w9 w3.heap.size w4.heap.size (some ⟨w3.heap.size, 0, none⟩) cs.length cs.length cs) := HX8.out.below hb
      have HY9 : Hid (OwnT w9 w4.heap.size (some ⟨w4.heap.size, 0, none⟩) xs.length xs.length xs) := HY8.out.below hb
      have HG9 : Hid (OwnOU w9 w5.heap.size w6.heap.size p6 n6 c6 zs) := HG8.out.below hb
      have HS9 : Hid (w6.heap.size ≤ w9.heap.size) := Nat.le_trans HS8.out hb.size
      clear hb HC8
      have ht : decide (cs = cs) = true := by simp
      rw [ht]
      clear ht
      go_wp2_with fail
      refine (toByteS_any q cq xs w9 hxn (HX.out.below HA9.out)).mono ?_
      rintro e w10 ⟨rfl, ho10, hb⟩
      have HD10 : Hid (BIn w10 (some ⟨w9.heap.size, 0, none⟩) xs) := (OwnS.of_row ho10).bin
      have HA10 : Hid (Below w.heap.size w w10) := Below.on HA9.out hb
      have HB10 : Hid (Below w3.heap.size w3 w10) := Below.on HB9.out hb
      have HX10 : Hid (OwnOU w10 w3.heap.size w4.heap.size (some ⟨w3.heap.size, 0, none⟩) cs.length cs.length cs) := HX9.out.below hb
      have HY10 : Hid (OwnT w10 w4.heap.size (some ⟨w4.heap.size, 0, none⟩) xs.length xs.length xs) := HY9.out.below hb
      have HG10 : Hid (OwnOU w10 w5.heap.size w6.heap.size p6 n6 c6 zs) := HG9.out.below hb
      have HS10 : Hid (w6.heap.size ≤ w10.heap.size) := Nat.le_trans HS9.out hb.size
      clear ho10 hb
      go_wp2_with fail
      refine (eqByteS_any _ _ _ _ xs xs w10 (by omega) (by omega) HY10.out.bin HD10.out).mono ?_
      rintro e w11 ⟨rfl, m11, rfl⟩
      have hb : Below w10.heap.size w10 (w10.drewN m11) := below_drewN (Below.refl _ _) m11
      have HA11 : Hid (Below w.heap.size w (w10.drewN m11)) := Below.on HA10.out hb
      have HB11 : Hid (Below w3.heap.size w3 (w10.drewN m11)) := Below.on HB10.out hb
      have HX11 : Hid (OwnOU (w10.drewN m11) w3.heap.size w4.heap.size (some ⟨w3.heap.size, 0, none⟩) cs.length cs.length cs) := HX10.out.below hb
      have HY11 : Hid (OwnT (w10.drewN m11) w4.heap.size (some ⟨w4.heap.size, 0, none⟩) xs.length xs.length xs) := HY10.out.below hb
      have HG11 : Hid (OwnOU (w10.drewN m11) w5.heap.size w6.heap.size p6 n6 c6 zs) := HG10.out.below hb
      have HS11 : Hid (w6.heap.size ≤ (w10.drewN m11).heap.size) := Nat.le_trans HS10.out hb.size
      clear hb HD10
      have ht : decide (xs = xs) = true := by simp
      rw [ht]
      clear ht
      go_wp2_with fail
      refine (markOps_any w3.heap.size w4.heap.size _ _ _ 1 cs (w10.drewN m11) (by decide) (by decide) (by omega) HX11.out).mono ?_
      rintro e w12 ⟨rfl, ho12, hk⟩
      have HG12 : Hid (OwnOU w12 w5.heap.size w6.heap.size p6 n6 c6 zs) := HG11.out.keep hk (.inr (Nat.le_trans (Nat.le_refl _) (Nat.le_of_lt HT5.out)))
      have HY12 : Hid (OwnT w12 w4.heap.size (some ⟨w4.heap.size, 0, none⟩) xs.length xs.length xs) := HY11.out.other hk.size (fun g hn0 e => hk.block g ((HY11.out.tb (e ▸ tb_of hn0)).2.2) (.inr (HY11.out.tb (e ▸ tb_of hn0)).2.1))
      have HA12 : Hid (Below w.heap.size w w12) := HA11.out.trans (hk.below HA3.out.size HA11.out.size)
      have HB12 : Hid (Below w3.heap.size w3 w12) := HB11.out.trans (hk.below (Nat.le_refl _) HB11.out.size)
      have HS12 : Hid (w6.heap.size ≤ w12.heap.size) := Nat.le_trans HS11.out hk.size
      clear ho12 hk HG11 HX11 HY11
      obtain ⟨kk, ekk⟩ : ∃ kk, kk = endO 1 cs := ⟨_, rfl⟩
      have hkk : 0 ≤ kk ∧ kk ≤ 10000000 := by rw [ekk]; have := tl_take_le cs cs.length; simp only [endO, kAt]; omega
      rw [← ekk]
      clear ekk
      go_wp2_with fail
      refine (markT_any w4.heap.size (some ⟨w4.heap.size, 0, none⟩) xs.length xs.length kk xs w12 hkk.1 (by omega) (by omega) HY12.out).mono ?_
      rintro e w13 ⟨rfl, ho13, hg⟩
      have hk : Keep w4.heap.size w5.heap.size w12 w13 := Keep.of_grown hg (fun j hj => by have h1 := (HY12.out.tb hj).1; have h2 := congrArg Addr.block (Option.some.inj h1); simp only at h2; have := HT5.out; omega)
      have HG13 : Hid (OwnOU w13 w5.heap.size w6.heap.size p6 n6 c6 zs) := HG12.out.keep hk (.inr (Nat.le_refl _))
      have HA13 : Hid (Below w.heap.size w w13) := HA12.out.trans (hk.below HA4.out.size HA12.out.size)
      have HB13 : Hid (Below w3.heap.size w3 w13) := HB12.out.trans (hk.below HB4.out.size HB12.out.size)
      have HS13 : Hid (w6.heap.size ≤ w13.heap.size) := Nat.le_trans HS12.out hk.size
      have hkk2 : ¬ (kk + (xs.length : Int) < 0) := by omega
      clear ho13 hk hg HG12 HY12
      go_wp2_with fail
      rw [HN6.out]
      refine (eqOpS_any p6 p3 c6 c3 zs zs w13 (by have := HZL.out; omega) (by have := HZL.out; omega) (HG13.out.toO.oin) (HZ3.out.1.below HB13.out)).mono ?_
      rintro e w14 ⟨rfl, hb⟩
      have ht : decide (zs = zs) = true := by simp
      rw [ht, ← HN6.out]
      clear ht
      have HA14 : Hid (Below w.heap.size w w14) := Below.on HA13.out hb
      have HB14 : Hid (Below w3.heap.size w3 w14) := Below.on HB13.out hb
      have HG14 : Hid (OwnOU w14 w5.heap.size w6.heap.size p6 n6 c6 zs) := HG13.out.below hb
      have HS14 : Hid (w6.heap.size ≤ w14.heap.size) := Nat.le_trans HS13.out hb.size
      clear hb
      go_wp2_with fail
      refine (markOps_any w5.heap.size w6.heap.size p6 n6 c6 1 zs w14 (by decide) (by decide) (by have := HZL.out; omega) HG14.out).mono ?_
      rintro e w15 ⟨rfl, ho15, hg⟩
      have hb : Below w5.heap.size w14 w15 := hg.below (Nat.le_refl _) (Nat.le_trans HS56.out HS14.out)
      have HH15 : Hid (OIn w15 p6 (markO 1 zs)) := ho15.toO.oin
      have HA15 : Hid (Below w.heap.size w w15) := HA14.out.trans (hb.mono HA5.out.size)
      have HB15 : Hid (Below w3.heap.size w3 w15) := HB14.out.trans (hb.mono HB5.out.size)
      clear hb hg ho15 HG14
      obtain ⟨mm, emm⟩ : ∃ mm, mm = endO 1 zs := ⟨_, rfl⟩
      have hm0 : ¬ mm < 0 := by rw [emm]; exact endO_pos (by decide) zs
      have HMM : Hid (mm = endO 1 zs) := emm
      rw [← emm]
      clear emm
      go_wp2_with fail
      refine (heldOps_any p6 n6 c6 1 zs w15 (by decide) (by decide) (by have := HZL.out; omega) HN6.out HH15.out).mono ?_
      rintro e w16 ⟨rfl, rfl⟩
      rw [← HMM.out]
      go_wp2_with fail
      refine (toOpS_any p cap cs _ hn (HI.out.below HA15.out).lies).mono ?_
      rintro e w17 ⟨rfl, ho17, hb⟩
      have HC17 : Hid (OIn w17 _ cs) := ho17.oin
      have HA17 : Hid (Below w.heap.size w w17) := Below.on HA15.out hb
      have HB17 : Hid (Below w3.heap.size w3 w17) := Below.on HB15.out hb
      have HH17 : Hid (OIn w17 p6 (markO 1 zs)) := HH15.out.below hb
      clear ho17 hb HH15
      go_wp2_with fail
      refine (toByteS_any q cq xs w17 hxn (HX.out.below HA17.out)).mono ?_
      rintro e w18 ⟨rfl, ho18, hb⟩
      have HD18 : Hid (BIn w18 _ xs) := (OwnS.of_row ho18).bin
      have HC18 : Hid (OIn w18 _ cs) := HC17.out.below hb
      have HA18 : Hid (Below w.heap.size w w18) := Below.on HA17.out hb
      have HB18 : Hid (Below w3.heap.size w3 w18) := Below.on HB17.out hb
      have HH18 : Hid (OIn w18 p6 (markO 1 zs)) := HH17.out.below hb
      clear ho18 hb HH17 HC17
      go_wp2_with fail
      refine (HIM.out _ _ w18 HC18.out HD18.out).mono ?_
      rintro e w19 ⟨p19, n19, c19, rfl, ho19, hb⟩
      have HG19 : Hid (OIn w19 p19 zs ∧ n19 = zs.length) := ⟨ho19.oin, ho19.1⟩
      have HA19 : Hid (Below w.heap.size w w19) := Below.on HA18.out hb
      have HB19 : Hid (Below w3.heap.size w3 w19) := Below.on HB18.out hb
      have HH19 : Hid (OIn w19 p6 (markO 1 zs)) := HH18.out.below hb
      clear ho19 hb HH18 HC18 HD18
      go_wp2_with fail
      rw [HG19.out.2, HN6.out]
      refine (eqOpS_any p19 p3 c19 c3 zs zs w19 (by have := HZL.out; omega) (by have := HZL.out; omega) (HG19.out.1) (HZ3.out.1.below HB19.out)).mono ?_
      rintro e w20 ⟨rfl, hb⟩
      have ht : decide (zs = zs) = true := by simp
      rw [ht]
      clear ht
      have HA20 : Hid (Below w.heap.size w w20) := Below.on HA19.out hb
      have HH20 : Hid (OIn w20 p6 (markO 1 zs)) := HH19.out.below hb
      clear hb
      go_wp2_with fail
      refine (heldOps_any p6 zs.length c6 1 zs w20 (by decide) (by decide) (by have := HZL.out; omega) rfl HH20.out).mono ?_
      rintro e w21 ⟨rfl, rfl⟩
      rw [← HMM.out]
      go_wp2_with fail
      go_ret
      exact ⟨rfl, HA20.out⟩
    · have er : szR 1048576 (cs.length + tl cs) = -1 := by rw [szR, if_neg hn]
      rw [er] at HS
      clear er HBY HXB
      go_enter Try.func4, Try.ntmps4
      go_wp2_with (go_at_call 5; refine HS.mono ?_; rintro e w0 ⟨rfl, hb0⟩)
      go_ret
      exact ⟨rfl, hb0⟩
  · have hxn' : (1048576 : Int) < xs.length := by omega
    clear HS HBY HXB
    go_enter Try.func4, Try.ntmps4
    go_wp2_with fail
    go_ret
    exact ⟨rfl, Below.refl _ _⟩

end Go.Proofs.Ytbfhpnacoigfkaa
