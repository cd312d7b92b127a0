/- Texts of LawFe3. Own work of the verifier. -/
import Derived.Test.YtkklidpnkofipaaGreatDoorUqax
namespace Go.Proofs.YtkklidpnkofipaaGreatDoor
open Go Go.RowKit
set_option linter.unusedVariables false
set_option linter.unusedSimpArgs false
set_option maxRecDepth 100000 in
set_option maxHeartbeats 16000000 in
theorem lawFe_bad (p : Option Addr) (cap n : Nat) (xs : List Int) (pm : Option Addr) (capm nm : Nat) (ms : List Int) (a a2 : Addr) (w : World) (hx : CodeIn w p cap n xs) (hy : CodeIn w pm capm nm ms) (hg : FeW w a a2) (T : List Cel) (hT : evD (xs.take 500) = T) (hv : validB T = false) :
  Calls Tryz.prog 3 #[.slice p n cap, .slice pm nm capm] w fun e w' => e = .returned (.bool true) ∧ Below w.heap.size w w' := by
 have HX : Hid (CodeIn w p cap n xs) := hx; have HY : Hid (CodeIn w pm capm nm ms) := hy; have HGW : Hid (FeW w a a2) := hg
 have HDR : Hid (∀ W, Below w.heap.size w W → Calls Tryz.prog 4 #[.slice p n cap] W fun e w' => ∃ q m c, e = .returned (.slice q m c) ∧ TmC w' q m c T ∧ Below W.heap.size W w') := fun W hW => by
  rw [← hT]
  exact (drawEval_any p cap n xs W hx.byt hx.small hx.room (hx.bin.below hW) hx.len).mono fun e w' h => by
   obtain ⟨q, m, c, rfl, ho, hb⟩ := h; exact ⟨q, m, c, rfl, ho.tmc, hb⟩
 have elz : 0 = ([] : List Cel).length := rfl
 have hl2 : T.length ≤ 1000000000 := by rw [← hT]; have := (evD_fine (xs.take 500)).1; omega
 have HSE : Hid (∀ W q m c, Below w.heap.size w W → TmC W q m c T → Calls Tryz.prog 5 #[.slice q m c] W fun e w' => ∃ q' c', e = .returned (.tuple #[.slice q' 0 c', .int .i64 1]) ∧ CIn w' q' ([] : List Cel) ∧ Below W.heap.size W w') := fun W q m c hW h => by
  have h1 := h.1; subst h1
  refine (specEval_bad q c T W hl2 hv h.2.1).mono fun e w' hh => ?_
  obtain ⟨q', m', c', rfl, hm, hc, hb⟩ := hh; obtain rfl : m' = 0 := hm; exact ⟨q', c', rfl, hc, hb⟩
 have HIE : Hid (∀ W q m c, Below w.heap.size w W → TmC W q m c T → Calls Tryz.prog 6 #[.slice q m c] W fun e w' => ∃ q' c', e = .returned (.tuple #[.slice q' 0 c', .int .i64 1]) ∧ TmC w' q' 0 c' ([] : List Cel) ∧ Below W.heap.size W w') := fun W q m c hW h => by
  have h1 := h.1; subst h1
  refine (implEval_bad q c T W hl2 hv h.2.1).mono fun e w' hh => ?_
  obtain ⟨q', m', c', rfl, ho, hb⟩ := hh; have ht := ho.tmc; obtain rfl : m' = 0 := ht.1; exact ⟨q', c', rfl, ht, hb⟩
 have HST : Hid (∀ W q1 c1 q2 c2, CIn W q1 ([] : List Cel) → CIn W q2 ([] : List Cel) → Calls Tryz.prog 7 #[.slice q1 0 c1, .slice q2 0 c2] W fun e w' => e = .returned (.bool true) ∧ Below W.heap.size W w') := fun W q1 c1 q2 c2 h1 h2 => by
  refine (sameT_any q1 q2 c1 c2 ([] : List Cel) ([] : List Cel) W (by simp [tl]) (by simp [tl]) h1 h2).mono fun e w' h => ?_
  obtain ⟨rfl, hb⟩ := h; exact ⟨by simp, hb⟩
 have HDF : Hid (∀ W, Below w.heap.size w W → Calls Tryz.prog 8 #[] W fun e w' => ∃ p0 n0 c0, e = .returned (.slice p0 n0 c0) ∧ BuW w' a a2 p0 n0 c0 ∧ Below W.heap.size W w') := fun W hW => (hg.below hW).ops
 have d1 : n ≤ 1048576 := by have := hx.len; have := hx.small; omega
 have d2 : nm ≤ 1048576 := by have := hy.len; have := hy.small; omega
 have HLS : Hid (Below w.heap.size w w) := Below.refl _ _; clear hx hy hg hT hv elz hl2
 go_enter Tryz.func3, Tryz.ntmps3
 go_wp2_with fail
 -- the term, its value by both
 have HB : Hid (Below w.heap.size w w) := Below.refl _ _; refine (HDR.out w (Below.refl _ _)).mono ?_; rintro e w1 ⟨q1, m1, c1, rfl, h1, hb⟩; have HB : Hid (Below w.heap.size w w1) := Below.on HB.out hb; have HT1 : Hid (TmC w1 q1 m1 c1 T) := h1; clear hb h1; go_wp2_with fail; refine (HSE.out w1 q1 m1 c1 HB.out HT1.out).mono ?_; rintro e w2 ⟨q2, c2, rfl, h2, hb⟩; have HB : Hid (Below w.heap.size w w2) := Below.on HB.out hb; have HT1 : Hid (TmC w2 q1 m1 c1 T) := HT1.out.below hb; have HZ2 : Hid (CIn w2 q2 ([] : List Cel)) := h2; clear hb h2; go_wp2_with fail; refine (HDR.out w2 HB.out).mono ?_; rintro e w3 ⟨q3, m3, c3, rfl, h3, hb⟩; have HB : Hid (Below w.heap.size w w3) := Below.on HB.out hb; have HZ2 : Hid (CIn w3 q2 ([] : List Cel)) := HZ2.out.below hb; have HT3 : Hid (TmC w3 q3 m3 c3 T) := h3; clear hb h3; go_wp2_with fail; refine (HIE.out w3 q3 m3 c3 HB.out HT3.out).mono ?_; rintro e w4 ⟨q4, c4, rfl, h4, hb⟩
 have HB : Hid (Below w.heap.size w w4) := Below.on HB.out hb; have HZ2 : Hid (CIn w4 q2 ([] : List Cel)) := HZ2.out.below hb; have HT3 : Hid (TmC w4 q3 m3 c3 T) := HT3.out.below hb; have HZ4 : Hid (TmC w4 q4 0 c4 ([] : List Cel)) := h4; clear hb h4; go_wp2_with fail; refine (HST.out w4 q4 c4 q2 c2 HZ4.out.2.1 HZ2.out).mono ?_; rintro e w5 ⟨rfl, hb⟩; have HB : Hid (Below w.heap.size w w5) := Below.on HB.out hb; have HZ2 : Hid (CIn w5 q2 ([] : List Cel)) := HZ2.out.below hb; have HZ4 : Hid (TmC w5 q4 0 c4 ([] : List Cel)) := HZ4.out.below hb; clear hb; go_wp2_with fail; refine (HDF.out w5 HB.out).mono ?_; rintro e w6 ⟨p0, n0, c0, rfl, h6, hb⟩; have HB : Hid (Below w.heap.size w w6) := Below.on HB.out hb; have HZ2 : Hid (CIn w6 q2 ([] : List Cel)) := HZ2.out.below hb; have HZ4 : Hid (TmC w6 q4 0 c4 ([] : List Cel)) := HZ4.out.below hb; have HBW : Hid (BuW w6 a a2 p0 n0 c0) := h6; clear hb h6
 have HT : Hid (∀ i W, i ≤ 100 → Below w.heap.size w W → Calls Tryz.prog 11 #[.slice pm nm capm, .int .i64 ((i : Nat) : Int)] W fun e w' => e = .returned (.int .i64 (tkL ms i)) ∧ w' = W) := fun i W hi hW => take_anyL pm capm nm ms i W HY.out.byt HY.out.len HY.out.small hi (HY.out.bin.below hW)
 obtain ⟨y0, ey0⟩ : ∃ y, y = tkL ms 0 := ⟨_, rfl⟩
 obtain ⟨y1, ey1⟩ : ∃ y, y = tkL ms 1 := ⟨_, rfl⟩
 obtain ⟨y2, ey2⟩ : ∃ y, y = tkL ms 2 := ⟨_, rfl⟩
 obtain ⟨y3, ey3⟩ : ∃ y, y = tkL ms 3 := ⟨_, rfl⟩
 obtain ⟨y4, ey4⟩ : ∃ y, y = tkL ms 4 := ⟨_, rfl⟩
 have r0 := tkL_rng HY.out.byt 0; have r1 := tkL_rng HY.out.byt 1; have r2 := tkL_rng HY.out.byt 2; have r3 := tkL_rng HY.out.byt 3; have r4 := tkL_rng HY.out.byt 4; rw [← ey0] at r0; rw [← ey1] at r1; rw [← ey2] at r2; rw [← ey3] at r3; rw [← ey4] at r4; have HT0 := HT.out 0 w6 (by decide) HB.out; have HT1 := HT.out 1 w6 (by decide) HB.out; have HT2 := HT.out 2 w6 (by decide) HB.out; have HT3 := HT.out 3 w6 (by decide) HB.out; have HT4 := HT.out 4 w6 (by decide) HB.out; rw [← ey0] at HT0; rw [← ey1] at HT1; rw [← ey2] at HT2; rw [← ey3] at HT3; rw [← ey4] at HT4; clear ey0 ey1 ey2 ey3 ey4; have p0 := ab_rng r0 r1 r2; have p1 := b_rng r3 r4; obtain ⟨r0a, r0b⟩ := r0; obtain ⟨r1a, r1b⟩ := r1; obtain ⟨r2a, r2b⟩ := r2; obtain ⟨r3a, r3b⟩ := r3; obtain ⟨r4a, r4b⟩ := r4; obtain ⟨p0a, p0b⟩ := p0; obtain ⟨p1a, p1b⟩ := p1
 have wp0 : wrap64 ((y0 - 128) * (y1 + 1)) = (y0 - 128) * (y1 + 1) := by unfold wrap64; omega
 have wp1 : wrap64 ((y3 - 128) * (y4 % 4 + 1)) = (y3 - 128) * (y4 % 4 + 1) := by unfold wrap64; omega
 go_wp2_with fail; refine HT0.mono ?_; rintro e wt ⟨rfl, hwt⟩; rw [hwt]; clear hwt wt; go_wp2_with fail; refine HT1.mono ?_; rintro e wt ⟨rfl, hwt⟩; rw [hwt]; clear hwt wt; go_wp2_with fail; refine HT2.mono ?_; rintro e wt ⟨rfl, hwt⟩; rw [hwt]; clear hwt wt; go_wp2_with fail; refine HT3.mono ?_; rintro e wt ⟨rfl, hwt⟩; rw [hwt]; clear hwt wt; go_wp2_with fail; refine HT4.mono ?_; rintro e wt ⟨rfl, hwt⟩; rw [hwt]; clear hwt wt; go_wp2_with fail
 obtain ⟨av, ea⟩ : ∃ av, av = (y0 - 128) * (y1 + 1) + y2 := ⟨_, rfl⟩
 obtain ⟨bv, eb⟩ : ∃ bv, bv = (y3 - 128) * (y4 % 4 + 1) := ⟨_, rfl⟩
 have hav : -40000 ≤ av ∧ av ≤ 40000 := by omega
 have hbv : -600 ≤ bv ∧ bv ≤ 600 := by omega
 rw [← ea, ← eb]
 obtain ⟨wN, eN⟩ : ∃ wN, wN = w6.alloc (.cells #[.string ⟨#[43]⟩, .string ⟨#[45]⟩, .string ⟨#[42]⟩, .string ⟨#[47, 47]⟩, .string ⟨#[109, 111, 100]⟩, .string ⟨#[114, 101, 109]⟩] 9) := ⟨_, rfl⟩
 obtain ⟨nb, enb⟩ : ∃ nb, nb = w6.heap.size := ⟨_, rfl⟩
 have hrN : wN.heap[nb]? = some (.cells #[.string ⟨#[43]⟩, .string ⟨#[45]⟩, .string ⟨#[42]⟩, .string ⟨#[47, 47]⟩, .string ⟨#[109, 111, 100]⟩, .string ⟨#[114, 101, 109]⟩] 9) := by rw [eN, enb]; exact heap_alloc_new _ _
 have hbN : Below w.heap.size w wN := by rw [eN]; exact HB.out.alloc HB.out.size _
 have HRN : Hid (∀ W, Below wN.heap.size wN W → W.heap[nb]? = some (.cells #[.string ⟨#[43]⟩, .string ⟨#[45]⟩, .string ⟨#[42]⟩, .string ⟨#[47, 47]⟩, .string ⟨#[109, 111, 100]⟩, .string ⟨#[114, 101, 109]⟩] 9)) := fun W hW => (hW.block _ (Array.getElem?_eq_some_iff.1 hrN).1).trans hrN
 have HBN : Hid (Below w.heap.size w wN) := hbN
 have HEN : Hid (∀ W, Below wN.heap.size wN W → etG W) := fun W hW => (HGW.out.below (Below.on hbN hW)).et
 have HIN : Hid (InB av ∧ InB bv ∧ (-40000 ≤ av ∧ av ≤ 40000) ∧ (-600 ≤ bv ∧ bv ≤ 600)) := ⟨by unfold InB; omega, by unfold InB; omega, hav, hbv⟩
 obtain ⟨ha1, ha2⟩ := hav; obtain ⟨hb1, hb2⟩ := hbv
 have hqq : (av.tdiv bv).natAbs ≤ av.natAbs := by rw [Int.natAbs_tdiv]; exact Nat.div_le_self _ _
 have wm2 : wrap64 (av * bv) = av * bv := by
  have := (opVal_in HIN.out.2.2.1 HIN.out.2.2.2 2 (by decide) (by omega)).2
  have h2 : opVal 2 av bv = av * bv := by simp [opVal]
  rw [h2] at this
  unfold InB at this
  unfold wrap64
  omega
 have wm3 : wrap64 (av.tdiv bv) = av.tdiv bv := by unfold wrap64; omega
 rw [← eN, ← enb]; clear eN enb hrN hbN ea eb wp0 wp1 p0a p0b p1a p1b r0a r0b r1a r1b r2a r2b r3a r3b r4a r4b HT0 HT1 HT2 HT3 HT4 hqq
 go_loopw [20] (fun i wr => ∃ (j : Nat), j ≤ 6 ∧ i = .int .i64 j ∧ Hid (Below wN.heap.size wN wr)) (fun i _ => 6 - (intOf i).toNat)
 case atStart => exact ⟨0, by decide, rfl, Below.refl _ _⟩
 case round =>
  obtain ⟨j, hj, rfl, HBR⟩ := hrel
  by_cases hlt : j < 6
  ·rcases (by omega : j = 0 ∨ j = 1 ∨ j = 2 ∨ j = 3 ∨ j = 4 ∨ j = 5) with rfl | rfl | rfl | rfl | rfl | rfl
   ·have hk : ((0 : Nat) : Int) = 0 := rfl
    rw [hk]; clear hk; obtain ⟨ho1, ho2⟩ := opVal_in HIN.out.2.2.1 HIN.out.2.2.2 0 (by decide) (fun h => absurd h (by decide))
    have hvv : opVal 0 av bv = av + bv := by simp [opVal]
    rw [hvv] at ho1 ho2; have HV : Hid (evZ (evT (opT (opS 0) av bv)) = ([(1, av + bv, [])], 0)) := opT_val (opS_two 0 (by decide)) ho1 ho2; clear ho1 ho2 hvv
    have hst : strOfNums (opS 0) = ⟨#[43]⟩ := by rfl
    have HPR : Hid (∀ W q1 m1 c1 q2 m2 c2, TmIn W q1 m1 c1 [(1, av, [])] → TmIn W q2 m2 c2 [(1, bv, [])] → Calls Tryz.prog 12 #[.string ⟨#[43]⟩, .slice q1 m1 c1, .slice q2 m2 c2] W fun e w' => ∃ q m c, e = .returned (.slice q m c) ∧ TmC w' q m c (opT (opS 0) av bv).cs ∧ Below W.heap.size W w') := fun W q1 m1 c1 q2 m2 c2 h1 h2 => by
     have := pair_num 0 (by decide) av bv h1 h2; rw [hst] at this; exact this
    clear hst; go_wp2_with fail; refine wp_region_held_drew (S := fun W => Below wN.heap.size wN W) (by kernel_rfl) ?_ (fun hHeld => ?_)
    ·exact HBR.out.trans (Below.refl _ _).drew
    refine hTk (i := 0) (v := .slice (some ⟨nb, 0, none⟩) 6 6) (some 222) (fun o ho W hSw => ?y1000) (by assumption) ?_
    case y1000 => cases ho; simp [execOp, go_sem, Act.eval]
    simp only [Act.put, zzA, zzB, zzC]; refine hTk (i := 1) (v := .int .i64 0) (some 223) (fun o ho W hSw => ?y1001) (by assumption) ?_
    case y1001 => cases ho; simp [execOp, go_sem, Act.eval]
    simp only [Act.put, zzA, zzB, zzC]; refine hTk (i := 2) (v := .pointer (some ⟨nb, 0, none⟩)) (some 224) (fun o ho W hSw => ?y1002) (by assumption) ?_
    case y1002 => cases ho; simp [execOp, go_sem, Act.eval]
    simp only [Act.put, zzA, zzB, zzC]; refine hTk (i := 3) (v := .string ⟨#[43]⟩) (some 225) (fun o ho W hSw => ?y1003) (by assumption) ?_
    case y1003 =>
     cases ho
     have sN := cell_of_row _ _ 0 _ _ _ (HRN.out W hSw)
     simp [execOp, go_sem, Act.eval, sN]
    simp only [Act.put, zzA, zzB, zzC]; refine hTk (i := 4) (v := .int .i64 av) (some 226) (fun o ho W hSw => ?y1004) (by assumption) ?_
    case y1004 => cases ho; simp [execOp, go_sem, Act.eval]
    simp only [Act.put, zzA, zzB, zzC]; refine hTk (i := 6) (v := .int .i64 bv) (some 228) (fun o ho W hSw => ?y1005) (by assumption) ?_
    case y1005 => cases ho; simp [execOp, go_sem, Act.eval]
    simp only [Act.put, zzA, zzB, zzC]; refine hCallE (i := 5) (f := 13) (args := #[.int .i64 av]) (some 227) (by kernel_rfl) (by kernel_rfl) (by kernel_rfl) (fun o ho => ?c1006) (number_any av _) ?k1006 (fun ch w' hh => by obtain ⟨_, _, _, h, _⟩ := hh; cases h) (fun w' hh => by obtain ⟨_, _, _, h, _⟩ := hh; cases h)
    case c1006 => cases ho; simp [execOp, go_sem, Act.eval]
    case k1006 =>
     rintro uA wA ⟨qa, ma, ca, hu, hta, hb⟩; obtain rfl := Ending.returned.inj hu; have hBA : Below wN.heap.size wN wA := (HBR.out.trans (Below.refl _ _).drew).trans (hb.mono (by simpa using HBR.out.size)); clear hu hb; refine ⟨hBA, ?_⟩; simp only [Act.put, zzA, zzB, zzC]; refine hCallE (i := 7) (f := 13) (args := #[.int .i64 bv]) (some 229) (by kernel_rfl) (by kernel_rfl) (by kernel_rfl) (fun o ho => ?c1007) (number_any bv _) ?k1007 (fun ch w' hh => by obtain ⟨_, _, _, h, _⟩ := hh; cases h) (fun w' hh => by obtain ⟨_, _, _, h, _⟩ := hh; cases h)
     case c1007 => cases ho; simp [execOp, go_sem, Act.eval]
     case k1007 =>
      rintro uB wB ⟨qb, mb, cb, hu, htb, hb⟩; obtain rfl := Ending.returned.inj hu; have hBB : Below wN.heap.size wN wB := Below.on hBA hb; have hta := hta.below hb; clear hu hb hBA; refine ⟨hBB, ?_⟩; simp only [Act.put, zzA, zzB, zzC]; refine hCallE (i := 8) (f := 12) (args := #[.string ⟨#[43]⟩, .slice qa ma ca, .slice qb mb cb]) (some 230) (by kernel_rfl) (by kernel_rfl) (by kernel_rfl) (fun o ho => ?c1008) (HPR.out _ qa ma ca qb mb cb hta htb) ?k1008 (fun ch w' hh => by obtain ⟨_, _, _, h, _⟩ := hh; cases h) (fun w' hh => by obtain ⟨_, _, _, h, _⟩ := hh; cases h)
      case c1008 => cases ho; simp [execOp, go_sem, Act.eval]
      case k1008 =>
       rintro uC wC ⟨qc, mc, cc, hu, htc, hb⟩; obtain rfl := Ending.returned.inj hu; have hBC : Below wN.heap.size wN wC := Below.on hBB hb; clear hu hb hBB hta htb; refine ⟨hBC, ?_⟩; simp only [Act.put, zzA, zzB, zzC]; refine hCallE (i := 9) (f := 6) (args := #[.slice qc mc cc]) (some 231) (by kernel_rfl) (by kernel_rfl) (by kernel_rfl) (fun o ho => ?c1009) (evOp (HEN.out _ hBC) 0 (by decide) HIN.out.1 HIN.out.2.1 htc) ?k1009 (fun ch w' hh => by obtain ⟨_, _, _, h, _⟩ := hh; cases h) (fun w' hh => by obtain ⟨_, _, _, h, _⟩ := hh; cases h)
       case c1009 => cases ho; simp [execOp, go_sem, Act.eval]
       case k1009 =>
        rintro uD wD ⟨qd, md, cd, hu, htd, hb⟩; rw [HV.out] at hu htd; obtain rfl : md = 1 := htd.1; obtain rfl := Ending.returned.inj hu; have hBD : Below wN.heap.size wN wD := Below.on hBC hb; have HD : Hid (CIn wD qd [(1, av + bv, [])]) := htd.cin; clear hu hb hBC htc htd; refine ⟨hBD, ?_⟩; simp only [Act.put, zzA, zzB, zzC]; refine hTk (i := 10) (v := .tuple #[.slice qd 1 cd, .int .i64 0]) (some 221) (fun o ho W hSw => ?y1010) (by assumption) ?_
        case y1010 => cases ho; simp [execOp, go_sem, Act.eval]
        simp only [Act.put, zzA, zzB, zzC]; refine hTk (i := 11) (v := .slice qd 1 cd) (some 232) (fun o ho W hSw => ?y1011) (by assumption) ?_
        case y1011 => cases ho; simp [execOp, go_sem, Act.eval]
        simp only [Act.put, zzA, zzB, zzC]; refine hTk (i := 12) (v := .int .i64 0) (some 233) (fun o ho W hSw => ?y1012) (by assumption) ?_
        case y1012 => cases ho; simp [execOp, go_sem, Act.eval]
        simp only [Act.put, zzA, zzB, zzC]; refine hTk (i := 13) (v := .slice qd 1 cd) (some 24) (fun o ho W hSw => ?y1013) (by assumption) ?_
        case y1013 => cases ho; simp [execOp, go_sem, Act.eval]
        simp only [Act.put, zzA, zzB, zzC]; refine hTk (i := 14) (v := .int .i64 0) (some 25) (fun o ho W hSw => ?y1014) (by assumption) ?_
        case y1014 => cases ho; simp [execOp, go_sem, Act.eval]
        simp only [Act.put, zzA, zzB, zzC]; refine wpAnyH_done (by kernel_rfl) ?_ _
        change Exit.then _ _ _ _ wD
        have HBD : Hid (Below wN.heap.size wN wD) := hBD; clear hBD; go_wp2_with fail; refine (number_any _ wD).mono ?_; rintro e wE ⟨qe, me, ce, rfl, hte, hb⟩; obtain rfl : me = 1 := hte.1; have HBE : Hid (Below wN.heap.size wN wE) := Below.on HBD.out hb; have hdE := HD.out.below hb; have HSS := sameT_any qd qe cd ce [(1, av + bv, [])] [(1, av + bv, [])] wE (by simp [tl]) (by simp [tl]) hdE hte.2.1; clear hte hb hdE; go_wp2_with fail; refine HSS.mono ?_; rintro e wF ⟨he, hb⟩
        have he' : e = .returned (.bool true) := by rw [he]; simp
        subst he'; have HBF : Hid (Below wN.heap.size wN wF) := Below.on HBE.out hb; clear hb HSS he; go_wp2_with fail; go_roundw
        case rel => exact ⟨1, by decide, by go_num, HBF⟩
        case measure => simp [intOf]
   ·have hk : ((1 : Nat) : Int) = 1 := rfl
    rw [hk]; clear hk; obtain ⟨ho1, ho2⟩ := opVal_in HIN.out.2.2.1 HIN.out.2.2.2 1 (by decide) (fun h => absurd h (by decide))
    have hvv : opVal 1 av bv = av - bv := by simp [opVal]
    rw [hvv] at ho1 ho2; have HV : Hid (evZ (evT (opT (opS 1) av bv)) = ([(1, av - bv, [])], 0)) := opT_val (opS_two 1 (by decide)) ho1 ho2; clear ho1 ho2 hvv
    have hst : strOfNums (opS 1) = ⟨#[45]⟩ := by rfl
    have HPR : Hid (∀ W q1 m1 c1 q2 m2 c2, TmIn W q1 m1 c1 [(1, av, [])] → TmIn W q2 m2 c2 [(1, bv, [])] → Calls Tryz.prog 12 #[.string ⟨#[45]⟩, .slice q1 m1 c1, .slice q2 m2 c2] W fun e w' => ∃ q m c, e = .returned (.slice q m c) ∧ TmC w' q m c (opT (opS 1) av bv).cs ∧ Below W.heap.size W w') := fun W q1 m1 c1 q2 m2 c2 h1 h2 => by
     have := pair_num 1 (by decide) av bv h1 h2; rw [hst] at this; exact this
    clear hst; go_wp2_with fail; refine wp_region_held_drew (S := fun W => Below wN.heap.size wN W) (by kernel_rfl) ?_ (fun hHeld => ?_)
    ·exact HBR.out.trans (Below.refl _ _).drew
    refine hTk (i := 0) (v := .slice (some ⟨nb, 0, none⟩) 6 6) (some 222) (fun o ho W hSw => ?y1100) (by assumption) ?_
    case y1100 => cases ho; simp [execOp, go_sem, Act.eval]
    simp only [Act.put, zzA, zzB, zzC]; refine hTk (i := 1) (v := .int .i64 1) (some 223) (fun o ho W hSw => ?y1101) (by assumption) ?_
    case y1101 => cases ho; simp [execOp, go_sem, Act.eval]
    simp only [Act.put, zzA, zzB, zzC]; refine hTk (i := 2) (v := .pointer (some ⟨nb, 1, none⟩)) (some 224) (fun o ho W hSw => ?y1102) (by assumption) ?_
    case y1102 => cases ho; simp [execOp, go_sem, Act.eval]
    simp only [Act.put, zzA, zzB, zzC]; refine hTk (i := 3) (v := .string ⟨#[45]⟩) (some 225) (fun o ho W hSw => ?y1103) (by assumption) ?_
    case y1103 =>
     cases ho
     have sN := cell_of_row _ _ 1 _ _ _ (HRN.out W hSw)
     simp [execOp, go_sem, Act.eval, sN]
    simp only [Act.put, zzA, zzB, zzC]; refine hTk (i := 4) (v := .int .i64 av) (some 226) (fun o ho W hSw => ?y1104) (by assumption) ?_
    case y1104 => cases ho; simp [execOp, go_sem, Act.eval]
    simp only [Act.put, zzA, zzB, zzC]; refine hTk (i := 6) (v := .int .i64 bv) (some 228) (fun o ho W hSw => ?y1105) (by assumption) ?_
    case y1105 => cases ho; simp [execOp, go_sem, Act.eval]
    simp only [Act.put, zzA, zzB, zzC]; refine hCallE (i := 5) (f := 13) (args := #[.int .i64 av]) (some 227) (by kernel_rfl) (by kernel_rfl) (by kernel_rfl) (fun o ho => ?c1106) (number_any av _) ?k1106 (fun ch w' hh => by obtain ⟨_, _, _, h, _⟩ := hh; cases h) (fun w' hh => by obtain ⟨_, _, _, h, _⟩ := hh; cases h)
    case c1106 => cases ho; simp [execOp, go_sem, Act.eval]
    case k1106 =>
     rintro uA wA ⟨qa, ma, ca, hu, hta, hb⟩; obtain rfl := Ending.returned.inj hu; have hBA : Below wN.heap.size wN wA := (HBR.out.trans (Below.refl _ _).drew).trans (hb.mono (by simpa using HBR.out.size)); clear hu hb; refine ⟨hBA, ?_⟩; simp only [Act.put, zzA, zzB, zzC]; refine hCallE (i := 7) (f := 13) (args := #[.int .i64 bv]) (some 229) (by kernel_rfl) (by kernel_rfl) (by kernel_rfl) (fun o ho => ?c1107) (number_any bv _) ?k1107 (fun ch w' hh => by obtain ⟨_, _, _, h, _⟩ := hh; cases h) (fun w' hh => by obtain ⟨_, _, _, h, _⟩ := hh; cases h)
     case c1107 => cases ho; simp [execOp, go_sem, Act.eval]
     case k1107 =>
      rintro uB wB ⟨qb, mb, cb, hu, htb, hb⟩; obtain rfl := Ending.returned.inj hu; have hBB : Below wN.heap.size wN wB := Below.on hBA hb; have hta := hta.below hb; clear hu hb hBA; refine ⟨hBB, ?_⟩; simp only [Act.put, zzA, zzB, zzC]; refine hCallE (i := 8) (f := 12) (args := #[.string ⟨#[45]⟩, .slice qa ma ca, .slice qb mb cb]) (some 230) (by kernel_rfl) (by kernel_rfl) (by kernel_rfl) (fun o ho => ?c1108) (HPR.out _ qa ma ca qb mb cb hta htb) ?k1108 (fun ch w' hh => by obtain ⟨_, _, _, h, _⟩ := hh; cases h) (fun w' hh => by obtain ⟨_, _, _, h, _⟩ := hh; cases h)
      case c1108 => cases ho; simp [execOp, go_sem, Act.eval]
      case k1108 =>
       rintro uC wC ⟨qc, mc, cc, hu, htc, hb⟩; obtain rfl := Ending.returned.inj hu; have hBC : Below wN.heap.size wN wC := Below.on hBB hb; clear hu hb hBB hta htb; refine ⟨hBC, ?_⟩; simp only [Act.put, zzA, zzB, zzC]; refine hCallE (i := 9) (f := 6) (args := #[.slice qc mc cc]) (some 231) (by kernel_rfl) (by kernel_rfl) (by kernel_rfl) (fun o ho => ?c1109) (evOp (HEN.out _ hBC) 1 (by decide) HIN.out.1 HIN.out.2.1 htc) ?k1109 (fun ch w' hh => by obtain ⟨_, _, _, h, _⟩ := hh; cases h) (fun w' hh => by obtain ⟨_, _, _, h, _⟩ := hh; cases h)
       case c1109 => cases ho; simp [execOp, go_sem, Act.eval]
       case k1109 =>
        rintro uD wD ⟨qd, md, cd, hu, htd, hb⟩; rw [HV.out] at hu htd; obtain rfl : md = 1 := htd.1; obtain rfl := Ending.returned.inj hu; have hBD : Below wN.heap.size wN wD := Below.on hBC hb; have HD : Hid (CIn wD qd [(1, av - bv, [])]) := htd.cin; clear hu hb hBC htc htd; refine ⟨hBD, ?_⟩; simp only [Act.put, zzA, zzB, zzC]; refine hTk (i := 10) (v := .tuple #[.slice qd 1 cd, .int .i64 0]) (some 221) (fun o ho W hSw => ?y1110) (by assumption) ?_
        case y1110 => cases ho; simp [execOp, go_sem, Act.eval]
        simp only [Act.put, zzA, zzB, zzC]; refine hTk (i := 11) (v := .slice qd 1 cd) (some 232) (fun o ho W hSw => ?y1111) (by assumption) ?_
        case y1111 => cases ho; simp [execOp, go_sem, Act.eval]
        simp only [Act.put, zzA, zzB, zzC]; refine hTk (i := 12) (v := .int .i64 0) (some 233) (fun o ho W hSw => ?y1112) (by assumption) ?_
        case y1112 => cases ho; simp [execOp, go_sem, Act.eval]
        simp only [Act.put, zzA, zzB, zzC]; refine hTk (i := 13) (v := .slice qd 1 cd) (some 24) (fun o ho W hSw => ?y1113) (by assumption) ?_
        case y1113 => cases ho; simp [execOp, go_sem, Act.eval]
        simp only [Act.put, zzA, zzB, zzC]; refine hTk (i := 14) (v := .int .i64 0) (some 25) (fun o ho W hSw => ?y1114) (by assumption) ?_
        case y1114 => cases ho; simp [execOp, go_sem, Act.eval]
        simp only [Act.put, zzA, zzB, zzC]; refine wpAnyH_done (by kernel_rfl) ?_ _
        change Exit.then _ _ _ _ wD
        have HBD : Hid (Below wN.heap.size wN wD) := hBD; clear hBD; go_wp2_with fail; refine (number_any _ wD).mono ?_; rintro e wE ⟨qe, me, ce, rfl, hte, hb⟩; obtain rfl : me = 1 := hte.1; have HBE : Hid (Below wN.heap.size wN wE) := Below.on HBD.out hb; have hdE := HD.out.below hb; have HSS := sameT_any qd qe cd ce [(1, av - bv, [])] [(1, av - bv, [])] wE (by simp [tl]) (by simp [tl]) hdE hte.2.1; clear hte hb hdE; go_wp2_with fail; refine HSS.mono ?_; rintro e wF ⟨he, hb⟩
        have he' : e = .returned (.bool true) := by rw [he]; simp
        subst he'; have HBF : Hid (Below wN.heap.size wN wF) := Below.on HBE.out hb; clear hb HSS he; go_wp2_with fail; go_roundw
        case rel => exact ⟨2, by decide, by go_num, HBF⟩
        case measure => simp [intOf]
   ·have hk : ((2 : Nat) : Int) = 2 := rfl
    rw [hk]; clear hk; obtain ⟨ho1, ho2⟩ := opVal_in HIN.out.2.2.1 HIN.out.2.2.2 2 (by decide) (fun h => absurd h (by decide))
    have hvv : opVal 2 av bv = av * bv := by simp [opVal]
    rw [hvv] at ho1 ho2; have HV : Hid (evZ (evT (opT (opS 2) av bv)) = ([(1, av * bv, [])], 0)) := opT_val (opS_two 2 (by decide)) ho1 ho2; clear ho1 ho2 hvv
    have hst : strOfNums (opS 2) = ⟨#[42]⟩ := by rfl
    have HPR : Hid (∀ W q1 m1 c1 q2 m2 c2, TmIn W q1 m1 c1 [(1, av, [])] → TmIn W q2 m2 c2 [(1, bv, [])] → Calls Tryz.prog 12 #[.string ⟨#[42]⟩, .slice q1 m1 c1, .slice q2 m2 c2] W fun e w' => ∃ q m c, e = .returned (.slice q m c) ∧ TmC w' q m c (opT (opS 2) av bv).cs ∧ Below W.heap.size W w') := fun W q1 m1 c1 q2 m2 c2 h1 h2 => by
     have := pair_num 2 (by decide) av bv h1 h2; rw [hst] at this; exact this
    clear hst; go_wp2_with fail; refine wp_region_held_drew (S := fun W => Below wN.heap.size wN W) (by kernel_rfl) ?_ (fun hHeld => ?_)
    ·exact HBR.out.trans (Below.refl _ _).drew
    refine hTk (i := 0) (v := .slice (some ⟨nb, 0, none⟩) 6 6) (some 222) (fun o ho W hSw => ?y1200) (by assumption) ?_
    case y1200 => cases ho; simp [execOp, go_sem, Act.eval]
    simp only [Act.put, zzA, zzB, zzC]; refine hTk (i := 1) (v := .int .i64 2) (some 223) (fun o ho W hSw => ?y1201) (by assumption) ?_
    case y1201 => cases ho; simp [execOp, go_sem, Act.eval]
    simp only [Act.put, zzA, zzB, zzC]; refine hTk (i := 2) (v := .pointer (some ⟨nb, 2, none⟩)) (some 224) (fun o ho W hSw => ?y1202) (by assumption) ?_
    case y1202 => cases ho; simp [execOp, go_sem, Act.eval]
    simp only [Act.put, zzA, zzB, zzC]; refine hTk (i := 3) (v := .string ⟨#[42]⟩) (some 225) (fun o ho W hSw => ?y1203) (by assumption) ?_
    case y1203 =>
     cases ho
     have sN := cell_of_row _ _ 2 _ _ _ (HRN.out W hSw)
     simp [execOp, go_sem, Act.eval, sN]
    simp only [Act.put, zzA, zzB, zzC]; refine hTk (i := 4) (v := .int .i64 av) (some 226) (fun o ho W hSw => ?y1204) (by assumption) ?_
    case y1204 => cases ho; simp [execOp, go_sem, Act.eval]
    simp only [Act.put, zzA, zzB, zzC]; refine hTk (i := 6) (v := .int .i64 bv) (some 228) (fun o ho W hSw => ?y1205) (by assumption) ?_
    case y1205 => cases ho; simp [execOp, go_sem, Act.eval]
    simp only [Act.put, zzA, zzB, zzC]; refine hCallE (i := 5) (f := 13) (args := #[.int .i64 av]) (some 227) (by kernel_rfl) (by kernel_rfl) (by kernel_rfl) (fun o ho => ?c1206) (number_any av _) ?k1206 (fun ch w' hh => by obtain ⟨_, _, _, h, _⟩ := hh; cases h) (fun w' hh => by obtain ⟨_, _, _, h, _⟩ := hh; cases h)
    case c1206 => cases ho; simp [execOp, go_sem, Act.eval]
    case k1206 =>
     rintro uA wA ⟨qa, ma, ca, hu, hta, hb⟩; obtain rfl := Ending.returned.inj hu; have hBA : Below wN.heap.size wN wA := (HBR.out.trans (Below.refl _ _).drew).trans (hb.mono (by simpa using HBR.out.size)); clear hu hb; refine ⟨hBA, ?_⟩; simp only [Act.put, zzA, zzB, zzC]; refine hCallE (i := 7) (f := 13) (args := #[.int .i64 bv]) (some 229) (by kernel_rfl) (by kernel_rfl) (by kernel_rfl) (fun o ho => ?c1207) (number_any bv _) ?k1207 (fun ch w' hh => by obtain ⟨_, _, _, h, _⟩ := hh; cases h) (fun w' hh => by obtain ⟨_, _, _, h, _⟩ := hh; cases h)
     case c1207 => cases ho; simp [execOp, go_sem, Act.eval]
     case k1207 =>
      rintro uB wB ⟨qb, mb, cb, hu, htb, hb⟩; obtain rfl := Ending.returned.inj hu; have hBB : Below wN.heap.size wN wB := Below.on hBA hb; have hta := hta.below hb; clear hu hb hBA; refine ⟨hBB, ?_⟩; simp only [Act.put, zzA, zzB, zzC]; refine hCallE (i := 8) (f := 12) (args := #[.string ⟨#[42]⟩, .slice qa ma ca, .slice qb mb cb]) (some 230) (by kernel_rfl) (by kernel_rfl) (by kernel_rfl) (fun o ho => ?c1208) (HPR.out _ qa ma ca qb mb cb hta htb) ?k1208 (fun ch w' hh => by obtain ⟨_, _, _, h, _⟩ := hh; cases h) (fun w' hh => by obtain ⟨_, _, _, h, _⟩ := hh; cases h)
      case c1208 => cases ho; simp [execOp, go_sem, Act.eval]
      case k1208 =>
       rintro uC wC ⟨qc, mc, cc, hu, htc, hb⟩; obtain rfl := Ending.returned.inj hu; have hBC : Below wN.heap.size wN wC := Below.on hBB hb; clear hu hb hBB hta htb; refine ⟨hBC, ?_⟩; simp only [Act.put, zzA, zzB, zzC]; refine hCallE (i := 9) (f := 6) (args := #[.slice qc mc cc]) (some 231) (by kernel_rfl) (by kernel_rfl) (by kernel_rfl) (fun o ho => ?c1209) (evOp (HEN.out _ hBC) 2 (by decide) HIN.out.1 HIN.out.2.1 htc) ?k1209 (fun ch w' hh => by obtain ⟨_, _, _, h, _⟩ := hh; cases h) (fun w' hh => by obtain ⟨_, _, _, h, _⟩ := hh; cases h)
       case c1209 => cases ho; simp [execOp, go_sem, Act.eval]
       case k1209 =>
        rintro uD wD ⟨qd, md, cd, hu, htd, hb⟩; rw [HV.out] at hu htd; obtain rfl : md = 1 := htd.1; obtain rfl := Ending.returned.inj hu; have hBD : Below wN.heap.size wN wD := Below.on hBC hb; have HD : Hid (CIn wD qd [(1, av * bv, [])]) := htd.cin; clear hu hb hBC htc htd; refine ⟨hBD, ?_⟩; simp only [Act.put, zzA, zzB, zzC]; refine hTk (i := 10) (v := .tuple #[.slice qd 1 cd, .int .i64 0]) (some 221) (fun o ho W hSw => ?y1210) (by assumption) ?_
        case y1210 => cases ho; simp [execOp, go_sem, Act.eval]
        simp only [Act.put, zzA, zzB, zzC]; refine hTk (i := 11) (v := .slice qd 1 cd) (some 232) (fun o ho W hSw => ?y1211) (by assumption) ?_
        case y1211 => cases ho; simp [execOp, go_sem, Act.eval]
        simp only [Act.put, zzA, zzB, zzC]; refine hTk (i := 12) (v := .int .i64 0) (some 233) (fun o ho W hSw => ?y1212) (by assumption) ?_
        case y1212 => cases ho; simp [execOp, go_sem, Act.eval]
        simp only [Act.put, zzA, zzB, zzC]; refine hTk (i := 13) (v := .slice qd 1 cd) (some 24) (fun o ho W hSw => ?y1213) (by assumption) ?_
        case y1213 => cases ho; simp [execOp, go_sem, Act.eval]
        simp only [Act.put, zzA, zzB, zzC]; refine hTk (i := 14) (v := .int .i64 0) (some 25) (fun o ho W hSw => ?y1214) (by assumption) ?_
        case y1214 => cases ho; simp [execOp, go_sem, Act.eval]
        simp only [Act.put, zzA, zzB, zzC]; refine wpAnyH_done (by kernel_rfl) ?_ _
        change Exit.then _ _ _ _ wD
        have HBD : Hid (Below wN.heap.size wN wD) := hBD; clear hBD; go_wp2_with fail; refine (number_any _ wD).mono ?_; rintro e wE ⟨qe, me, ce, rfl, hte, hb⟩; obtain rfl : me = 1 := hte.1; have HBE : Hid (Below wN.heap.size wN wE) := Below.on HBD.out hb; have hdE := HD.out.below hb; have HSS := sameT_any qd qe cd ce [(1, av * bv, [])] [(1, av * bv, [])] wE (by simp [tl]) (by simp [tl]) hdE hte.2.1; clear hte hb hdE; go_wp2_with fail; refine HSS.mono ?_; rintro e wF ⟨he, hb⟩
        have he' : e = .returned (.bool true) := by rw [he]; simp
        subst he'; have HBF : Hid (Below wN.heap.size wN wF) := Below.on HBE.out hb; clear hb HSS he; go_wp2_with fail; go_roundw
        case rel => exact ⟨3, by decide, by go_num, HBF⟩
        case measure => simp [intOf]
   ·by_cases hb0 : bv = 0
    ·have hk : ((3 : Nat) : Int) = 3 := rfl
     rw [hk]; clear hk
     have hz : (bv == 0) = true := by rw [hb0]; rfl
     have HZ : Hid (bv = 0) := hb0; clear hb0; have HV : Hid ((evZ (evT (opT (opS 3) av bv))).2 = 6) := opT_err (opS_two 3 (by decide)) (op_zero 3 (by decide) (by decide) HZ.out)
     have hst : strOfNums (opS 3) = ⟨#[47, 47]⟩ := by rfl
     have HPR : Hid (∀ W q1 m1 c1 q2 m2 c2, TmIn W q1 m1 c1 [(1, av, [])] → TmIn W q2 m2 c2 [(1, bv, [])] → Calls Tryz.prog 12 #[.string ⟨#[47, 47]⟩, .slice q1 m1 c1, .slice q2 m2 c2] W fun e w' => ∃ q m c, e = .returned (.slice q m c) ∧ TmC w' q m c (opT (opS 3) av bv).cs ∧ Below W.heap.size W w') := fun W q1 m1 c1 q2 m2 c2 h1 h2 => by
      have := pair_num 3 (by decide) av bv h1 h2; rw [hst] at this; exact this
     clear hst; go_wp2_with fail; refine wp_region_held_drew (S := fun W => Below wN.heap.size wN W) (by kernel_rfl) ?_ (fun hHeld => ?_)
     ·exact HBR.out.trans (Below.refl _ _).drew
     refine hTk (i := 0) (v := .slice (some ⟨nb, 0, none⟩) 6 6) (some 188) (fun o ho W hSw => ?y1350) (by assumption) ?_
     case y1350 => cases ho; simp [execOp, go_sem, Act.eval]
     simp only [Act.put, zzA, zzB, zzC]; refine hTk (i := 1) (v := .int .i64 3) (some 189) (fun o ho W hSw => ?y1351) (by assumption) ?_
     case y1351 => cases ho; simp [execOp, go_sem, Act.eval]
     simp only [Act.put, zzA, zzB, zzC]; refine hTk (i := 2) (v := .pointer (some ⟨nb, 3, none⟩)) (some 190) (fun o ho W hSw => ?y1352) (by assumption) ?_
     case y1352 => cases ho; simp [execOp, go_sem, Act.eval]
     simp only [Act.put, zzA, zzB, zzC]; refine hTk (i := 3) (v := .string ⟨#[47, 47]⟩) (some 191) (fun o ho W hSw => ?y1353) (by assumption) ?_
     case y1353 =>
      cases ho
      have sN := cell_of_row _ _ 3 _ _ _ (HRN.out W hSw)
      simp [execOp, go_sem, Act.eval, sN]
     simp only [Act.put, zzA, zzB, zzC]; refine hTk (i := 4) (v := .int .i64 av) (some 192) (fun o ho W hSw => ?y1354) (by assumption) ?_
     case y1354 => cases ho; simp [execOp, go_sem, Act.eval]
     simp only [Act.put, zzA, zzB, zzC]; refine hTk (i := 6) (v := .int .i64 bv) (some 194) (fun o ho W hSw => ?y1355) (by assumption) ?_
     case y1355 => cases ho; simp [execOp, go_sem, Act.eval]
     simp only [Act.put, zzA, zzB, zzC]; refine hCallE (i := 5) (f := 13) (args := #[.int .i64 av]) (some 193) (by kernel_rfl) (by kernel_rfl) (by kernel_rfl) (fun o ho => ?c1356) (number_any av _) ?k1356 (fun ch w' hh => by obtain ⟨_, _, _, h, _⟩ := hh; cases h) (fun w' hh => by obtain ⟨_, _, _, h, _⟩ := hh; cases h)
     case c1356 => cases ho; simp [execOp, go_sem, Act.eval]
     case k1356 =>
      rintro uA wA ⟨qa, ma, ca, hu, hta, hb⟩; obtain rfl := Ending.returned.inj hu; have hBA : Below wN.heap.size wN wA := (HBR.out.trans (Below.refl _ _).drew).trans (hb.mono (by simpa using HBR.out.size)); clear hu hb; refine ⟨hBA, ?_⟩; simp only [Act.put, zzA, zzB, zzC]; refine hCallE (i := 7) (f := 13) (args := #[.int .i64 bv]) (some 195) (by kernel_rfl) (by kernel_rfl) (by kernel_rfl) (fun o ho => ?c1357) (number_any bv _) ?k1357 (fun ch w' hh => by obtain ⟨_, _, _, h, _⟩ := hh; cases h) (fun w' hh => by obtain ⟨_, _, _, h, _⟩ := hh; cases h)
      case c1357 => cases ho; simp [execOp, go_sem, Act.eval]
      case k1357 =>
       rintro uB wB ⟨qb, mb, cb, hu, htb, hb⟩; obtain rfl := Ending.returned.inj hu; have hBB : Below wN.heap.size wN wB := Below.on hBA hb; have hta := hta.below hb; clear hu hb hBA; refine ⟨hBB, ?_⟩; simp only [Act.put, zzA, zzB, zzC]; refine hCallE (i := 8) (f := 12) (args := #[.string ⟨#[47, 47]⟩, .slice qa ma ca, .slice qb mb cb]) (some 196) (by kernel_rfl) (by kernel_rfl) (by kernel_rfl) (fun o ho => ?c1358) (HPR.out _ qa ma ca qb mb cb hta htb) ?k1358 (fun ch w' hh => by obtain ⟨_, _, _, h, _⟩ := hh; cases h) (fun w' hh => by obtain ⟨_, _, _, h, _⟩ := hh; cases h)
       case c1358 => cases ho; simp [execOp, go_sem, Act.eval]
       case k1358 =>
        rintro uC wC ⟨qc, mc, cc, hu, htc, hb⟩; obtain rfl := Ending.returned.inj hu; have hBC : Below wN.heap.size wN wC := Below.on hBB hb; clear hu hb hBB hta htb; refine ⟨hBC, ?_⟩; simp only [Act.put, zzA, zzB, zzC]; refine hCallE (i := 9) (f := 6) (args := #[.slice qc mc cc]) (some 197) (by kernel_rfl) (by kernel_rfl) (by kernel_rfl) (fun o ho => ?c1359) (evOp (HEN.out _ hBC) 3 (by decide) HIN.out.1 HIN.out.2.1 htc) ?k1359 (fun ch w' hh => by obtain ⟨_, _, _, h, _⟩ := hh; cases h) (fun w' hh => by obtain ⟨_, _, _, h, _⟩ := hh; cases h)
        case c1359 => cases ho; simp [execOp, go_sem, Act.eval]
        case k1359 =>
         rintro uD wD ⟨qd, md, cd, hu, htd, hb⟩; rw [HV.out] at hu; obtain rfl := Ending.returned.inj hu; have hBD : Below wN.heap.size wN wD := Below.on hBC hb; clear hu hb hBC htc htd; refine ⟨hBD, ?_⟩; simp only [Act.put, zzA, zzB, zzC]; refine hTk (i := 10) (v := .tuple #[.slice qd md cd, .int .i64 6]) (some 187) (fun o ho W hSw => ?y1360) (by assumption) ?_
         case y1360 => cases ho; simp [execOp, go_sem, Act.eval]
         simp only [Act.put, zzA, zzB, zzC]; refine hTk (i := 11) (v := .slice qd md cd) (some 198) (fun o ho W hSw => ?y1361) (by assumption) ?_
         case y1361 => cases ho; simp [execOp, go_sem, Act.eval]
         simp only [Act.put, zzA, zzB, zzC]; refine hTk (i := 12) (v := .int .i64 6) (some 199) (fun o ho W hSw => ?y1362) (by assumption) ?_
         case y1362 => cases ho; simp [execOp, go_sem, Act.eval]
         simp only [Act.put, zzA, zzB, zzC]; refine hTk (i := 13) (v := .slice qd md cd) (some 22) (fun o ho W hSw => ?y1363) (by assumption) ?_
         case y1363 => cases ho; simp [execOp, go_sem, Act.eval]
         simp only [Act.put, zzA, zzB, zzC]; refine hTk (i := 14) (v := .int .i64 6) (some 23) (fun o ho W hSw => ?y1364) (by assumption) ?_
         case y1364 => cases ho; simp [execOp, go_sem, Act.eval]
         simp only [Act.put, zzA, zzB, zzC]; refine wpAnyH_done (by kernel_rfl) ?_ _
         change Exit.then _ _ _ _ wD
         have HBD : Hid (Below wN.heap.size wN wD) := hBD; clear hBD; go_wp2_with fail; go_roundw
         case rel => exact ⟨4, by decide, by go_num, HBD⟩
         case measure => simp [intOf]
    ·have hk : ((3 : Nat) : Int) = 3 := rfl
     rw [hk]; clear hk
     have hz : (bv == 0) = false := by rw [beq_eq_false_iff_ne]; exact hb0
     have hm0 : (av.tmod bv).natAbs < bv.natAbs := by rw [Int.natAbs_tmod]; exact Nat.mod_lt _ (by omega)
     have hm1 : -600 ≤ av.tmod bv ∧ av.tmod bv ≤ 600 := by omega
     obtain ⟨hm1, hm2⟩ := hm1; obtain ⟨ho1, ho2⟩ := opVal_in HIN.out.2.2.1 HIN.out.2.2.2 3 (by decide) (fun h => hb0)
     have hvv : opVal 3 av bv = av.tdiv bv := by simp [opVal]
     rw [hvv] at ho1 ho2; have HV : Hid (evZ (evT (opT (opS 3) av bv)) = ([(1, av.tdiv bv, [])], 0)) := opT_val (opS_two 3 (by decide)) ho1 ho2; clear ho1 ho2 hvv hm0
     have hst : strOfNums (opS 3) = ⟨#[47, 47]⟩ := by rfl
     have HPR : Hid (∀ W q1 m1 c1 q2 m2 c2, TmIn W q1 m1 c1 [(1, av, [])] → TmIn W q2 m2 c2 [(1, bv, [])] → Calls Tryz.prog 12 #[.string ⟨#[47, 47]⟩, .slice q1 m1 c1, .slice q2 m2 c2] W fun e w' => ∃ q m c, e = .returned (.slice q m c) ∧ TmC w' q m c (opT (opS 3) av bv).cs ∧ Below W.heap.size W w') := fun W q1 m1 c1 q2 m2 c2 h1 h2 => by
      have := pair_num 3 (by decide) av bv h1 h2; rw [hst] at this; exact this
     clear hst; go_wp2_with fail; refine wp_region_held_drew (S := fun W => Below wN.heap.size wN W) (by kernel_rfl) ?_ (fun hHeld => ?_)
     ·exact HBR.out.trans (Below.refl _ _).drew
     refine hTk (i := 0) (v := .slice (some ⟨nb, 0, none⟩) 6 6) (some 222) (fun o ho W hSw => ?y1300) (by assumption) ?_
     case y1300 => cases ho; simp [execOp, go_sem, Act.eval]
     simp only [Act.put, zzA, zzB, zzC]; refine hTk (i := 1) (v := .int .i64 3) (some 223) (fun o ho W hSw => ?y1301) (by assumption) ?_
     case y1301 => cases ho; simp [execOp, go_sem, Act.eval]
     simp only [Act.put, zzA, zzB, zzC]; refine hTk (i := 2) (v := .pointer (some ⟨nb, 3, none⟩)) (some 224) (fun o ho W hSw => ?y1302) (by assumption) ?_
     case y1302 => cases ho; simp [execOp, go_sem, Act.eval]
     simp only [Act.put, zzA, zzB, zzC]; refine hTk (i := 3) (v := .string ⟨#[47, 47]⟩) (some 225) (fun o ho W hSw => ?y1303) (by assumption) ?_
     case y1303 =>
      cases ho
      have sN := cell_of_row _ _ 3 _ _ _ (HRN.out W hSw)
      simp [execOp, go_sem, Act.eval, sN]
     simp only [Act.put, zzA, zzB, zzC]; refine hTk (i := 4) (v := .int .i64 av) (some 226) (fun o ho W hSw => ?y1304) (by assumption) ?_
     case y1304 => cases ho; simp [execOp, go_sem, Act.eval]
     simp only [Act.put, zzA, zzB, zzC]; refine hTk (i := 6) (v := .int .i64 bv) (some 228) (fun o ho W hSw => ?y1305) (by assumption) ?_
     case y1305 => cases ho; simp [execOp, go_sem, Act.eval]
     simp only [Act.put, zzA, zzB, zzC]; refine hCallE (i := 5) (f := 13) (args := #[.int .i64 av]) (some 227) (by kernel_rfl) (by kernel_rfl) (by kernel_rfl) (fun o ho => ?c1306) (number_any av _) ?k1306 (fun ch w' hh => by obtain ⟨_, _, _, h, _⟩ := hh; cases h) (fun w' hh => by obtain ⟨_, _, _, h, _⟩ := hh; cases h)
     case c1306 => cases ho; simp [execOp, go_sem, Act.eval]
     case k1306 =>
      rintro uA wA ⟨qa, ma, ca, hu, hta, hb⟩; obtain rfl := Ending.returned.inj hu; have hBA : Below wN.heap.size wN wA := (HBR.out.trans (Below.refl _ _).drew).trans (hb.mono (by simpa using HBR.out.size)); clear hu hb; refine ⟨hBA, ?_⟩; simp only [Act.put, zzA, zzB, zzC]; refine hCallE (i := 7) (f := 13) (args := #[.int .i64 bv]) (some 229) (by kernel_rfl) (by kernel_rfl) (by kernel_rfl) (fun o ho => ?c1307) (number_any bv _) ?k1307 (fun ch w' hh => by obtain ⟨_, _, _, h, _⟩ := hh; cases h) (fun w' hh => by obtain ⟨_, _, _, h, _⟩ := hh; cases h)
      case c1307 => cases ho; simp [execOp, go_sem, Act.eval]
      case k1307 =>
       rintro uB wB ⟨qb, mb, cb, hu, htb, hb⟩; obtain rfl := Ending.returned.inj hu; have hBB : Below wN.heap.size wN wB := Below.on hBA hb; have hta := hta.below hb; clear hu hb hBA; refine ⟨hBB, ?_⟩; simp only [Act.put, zzA, zzB, zzC]; refine hCallE (i := 8) (f := 12) (args := #[.string ⟨#[47, 47]⟩, .slice qa ma ca, .slice qb mb cb]) (some 230) (by kernel_rfl) (by kernel_rfl) (by kernel_rfl) (fun o ho => ?c1308) (HPR.out _ qa ma ca qb mb cb hta htb) ?k1308 (fun ch w' hh => by obtain ⟨_, _, _, h, _⟩ := hh; cases h) (fun w' hh => by obtain ⟨_, _, _, h, _⟩ := hh; cases h)
       case c1308 => cases ho; simp [execOp, go_sem, Act.eval]
       case k1308 =>
        rintro uC wC ⟨qc, mc, cc, hu, htc, hb⟩; obtain rfl := Ending.returned.inj hu; have hBC : Below wN.heap.size wN wC := Below.on hBB hb; clear hu hb hBB hta htb; refine ⟨hBC, ?_⟩; simp only [Act.put, zzA, zzB, zzC]; refine hCallE (i := 9) (f := 6) (args := #[.slice qc mc cc]) (some 231) (by kernel_rfl) (by kernel_rfl) (by kernel_rfl) (fun o ho => ?c1309) (evOp (HEN.out _ hBC) 3 (by decide) HIN.out.1 HIN.out.2.1 htc) ?k1309 (fun ch w' hh => by obtain ⟨_, _, _, h, _⟩ := hh; cases h) (fun w' hh => by obtain ⟨_, _, _, h, _⟩ := hh; cases h)
        case c1309 => cases ho; simp [execOp, go_sem, Act.eval]
        case k1309 =>
         rintro uD wD ⟨qd, md, cd, hu, htd, hb⟩; rw [HV.out] at hu htd; obtain rfl : md = 1 := htd.1; obtain rfl := Ending.returned.inj hu; have hBD : Below wN.heap.size wN wD := Below.on hBC hb; have HD : Hid (CIn wD qd [(1, av.tdiv bv, [])]) := htd.cin; clear hu hb hBC htc htd; refine ⟨hBD, ?_⟩; simp only [Act.put, zzA, zzB, zzC]; refine hTk (i := 10) (v := .tuple #[.slice qd 1 cd, .int .i64 0]) (some 221) (fun o ho W hSw => ?y1310) (by assumption) ?_
         case y1310 => cases ho; simp [execOp, go_sem, Act.eval]
         simp only [Act.put, zzA, zzB, zzC]; refine hTk (i := 11) (v := .slice qd 1 cd) (some 232) (fun o ho W hSw => ?y1311) (by assumption) ?_
         case y1311 => cases ho; simp [execOp, go_sem, Act.eval]
         simp only [Act.put, zzA, zzB, zzC]; refine hTk (i := 12) (v := .int .i64 0) (some 233) (fun o ho W hSw => ?y1312) (by assumption) ?_
         case y1312 => cases ho; simp [execOp, go_sem, Act.eval]
         simp only [Act.put, zzA, zzB, zzC]; refine hTk (i := 13) (v := .slice qd 1 cd) (some 24) (fun o ho W hSw => ?y1313) (by assumption) ?_
         case y1313 => cases ho; simp [execOp, go_sem, Act.eval]
         simp only [Act.put, zzA, zzB, zzC]; refine hTk (i := 14) (v := .int .i64 0) (some 25) (fun o ho W hSw => ?y1314) (by assumption) ?_
         case y1314 => cases ho; simp [execOp, go_sem, Act.eval]
         simp only [Act.put, zzA, zzB, zzC]; refine wpAnyH_done (by kernel_rfl) ?_ _
         change Exit.then _ _ _ _ wD
         have HBD : Hid (Below wN.heap.size wN wD) := hBD; clear hBD; go_wp2_with fail; refine (number_any _ wD).mono ?_; rintro e wE ⟨qe, me, ce, rfl, hte, hb⟩; obtain rfl : me = 1 := hte.1; have HBE : Hid (Below wN.heap.size wN wE) := Below.on HBD.out hb; have hdE := HD.out.below hb; have HSS := sameT_any qd qe cd ce [(1, av.tdiv bv, [])] [(1, av.tdiv bv, [])] wE (by simp [tl]) (by simp [tl]) hdE hte.2.1; clear hte hb hdE; go_wp2_with fail; refine HSS.mono ?_; rintro e wF ⟨he, hb⟩
         have he' : e = .returned (.bool true) := by rw [he]; simp
         subst he'; have HBF : Hid (Below wN.heap.size wN wF) := Below.on HBE.out hb; clear hb HSS he; go_wp2_with fail; go_roundw
         case rel => exact ⟨4, by decide, by go_num, HBF⟩
         case measure => simp [intOf]
   ·by_cases hb0 : bv = 0
    ·have hk : ((4 : Nat) : Int) = 4 := rfl
     rw [hk]; clear hk
     have hz : (bv == 0) = true := by rw [hb0]; rfl
     have HZ : Hid (bv = 0) := hb0; clear hb0; have HV : Hid ((evZ (evT (opT (opS 4) av bv))).2 = 6) := opT_err (opS_two 4 (by decide)) (op_zero 4 (by decide) (by decide) HZ.out)
     have hst : strOfNums (opS 4) = ⟨#[109, 111, 100]⟩ := by rfl
     have HPR : Hid (∀ W q1 m1 c1 q2 m2 c2, TmIn W q1 m1 c1 [(1, av, [])] → TmIn W q2 m2 c2 [(1, bv, [])] → Calls Tryz.prog 12 #[.string ⟨#[109, 111, 100]⟩, .slice q1 m1 c1, .slice q2 m2 c2] W fun e w' => ∃ q m c, e = .returned (.slice q m c) ∧ TmC w' q m c (opT (opS 4) av bv).cs ∧ Below W.heap.size W w') := fun W q1 m1 c1 q2 m2 c2 h1 h2 => by
      have := pair_num 4 (by decide) av bv h1 h2; rw [hst] at this; exact this
     clear hst; go_wp2_with fail; refine wp_region_held_drew (S := fun W => Below wN.heap.size wN W) (by kernel_rfl) ?_ (fun hHeld => ?_)
     ·exact HBR.out.trans (Below.refl _ _).drew
     refine hTk (i := 0) (v := .slice (some ⟨nb, 0, none⟩) 6 6) (some 188) (fun o ho W hSw => ?y1450) (by assumption) ?_
     case y1450 => cases ho; simp [execOp, go_sem, Act.eval]
     simp only [Act.put, zzA, zzB, zzC]; refine hTk (i := 1) (v := .int .i64 4) (some 189) (fun o ho W hSw => ?y1451) (by assumption) ?_
     case y1451 => cases ho; simp [execOp, go_sem, Act.eval]
     simp only [Act.put, zzA, zzB, zzC]; refine hTk (i := 2) (v := .pointer (some ⟨nb, 4, none⟩)) (some 190) (fun o ho W hSw => ?y1452) (by assumption) ?_
     case y1452 => cases ho; simp [execOp, go_sem, Act.eval]
     simp only [Act.put, zzA, zzB, zzC]; refine hTk (i := 3) (v := .string ⟨#[109, 111, 100]⟩) (some 191) (fun o ho W hSw => ?y1453) (by assumption) ?_
     case y1453 =>
      cases ho
      have sN := cell_of_row _ _ 4 _ _ _ (HRN.out W hSw)
      simp [execOp, go_sem, Act.eval, sN]
     simp only [Act.put, zzA, zzB, zzC]; refine hTk (i := 4) (v := .int .i64 av) (some 192) (fun o ho W hSw => ?y1454) (by assumption) ?_
     case y1454 => cases ho; simp [execOp, go_sem, Act.eval]
     simp only [Act.put, zzA, zzB, zzC]; refine hTk (i := 6) (v := .int .i64 bv) (some 194) (fun o ho W hSw => ?y1455) (by assumption) ?_
     case y1455 => cases ho; simp [execOp, go_sem, Act.eval]
     simp only [Act.put, zzA, zzB, zzC]; refine hCallE (i := 5) (f := 13) (args := #[.int .i64 av]) (some 193) (by kernel_rfl) (by kernel_rfl) (by kernel_rfl) (fun o ho => ?c1456) (number_any av _) ?k1456 (fun ch w' hh => by obtain ⟨_, _, _, h, _⟩ := hh; cases h) (fun w' hh => by obtain ⟨_, _, _, h, _⟩ := hh; cases h)
     case c1456 => cases ho; simp [execOp, go_sem, Act.eval]
     case k1456 =>
      rintro uA wA ⟨qa, ma, ca, hu, hta, hb⟩; obtain rfl := Ending.returned.inj hu; have hBA : Below wN.heap.size wN wA := (HBR.out.trans (Below.refl _ _).drew).trans (hb.mono (by simpa using HBR.out.size)); clear hu hb; refine ⟨hBA, ?_⟩; simp only [Act.put, zzA, zzB, zzC]; refine hCallE (i := 7) (f := 13) (args := #[.int .i64 bv]) (some 195) (by kernel_rfl) (by kernel_rfl) (by kernel_rfl) (fun o ho => ?c1457) (number_any bv _) ?k1457 (fun ch w' hh => by obtain ⟨_, _, _, h, _⟩ := hh; cases h) (fun w' hh => by obtain ⟨_, _, _, h, _⟩ := hh; cases h)
      case c1457 => cases ho; simp [execOp, go_sem, Act.eval]
      case k1457 =>
       rintro uB wB ⟨qb, mb, cb, hu, htb, hb⟩; obtain rfl := Ending.returned.inj hu; have hBB : Below wN.heap.size wN wB := Below.on hBA hb; have hta := hta.below hb; clear hu hb hBA; refine ⟨hBB, ?_⟩; simp only [Act.put, zzA, zzB, zzC]; refine hCallE (i := 8) (f := 12) (args := #[.string ⟨#[109, 111, 100]⟩, .slice qa ma ca, .slice qb mb cb]) (some 196) (by kernel_rfl) (by kernel_rfl) (by kernel_rfl) (fun o ho => ?c1458) (HPR.out _ qa ma ca qb mb cb hta htb) ?k1458 (fun ch w' hh => by obtain ⟨_, _, _, h, _⟩ := hh; cases h) (fun w' hh => by obtain ⟨_, _, _, h, _⟩ := hh; cases h)
       case c1458 => cases ho; simp [execOp, go_sem, Act.eval]
       case k1458 =>
        rintro uC wC ⟨qc, mc, cc, hu, htc, hb⟩; obtain rfl := Ending.returned.inj hu; have hBC : Below wN.heap.size wN wC := Below.on hBB hb; clear hu hb hBB hta htb; refine ⟨hBC, ?_⟩; simp only [Act.put, zzA, zzB, zzC]; refine hCallE (i := 9) (f := 6) (args := #[.slice qc mc cc]) (some 197) (by kernel_rfl) (by kernel_rfl) (by kernel_rfl) (fun o ho => ?c1459) (evOp (HEN.out _ hBC) 4 (by decide) HIN.out.1 HIN.out.2.1 htc) ?k1459 (fun ch w' hh => by obtain ⟨_, _, _, h, _⟩ := hh; cases h) (fun w' hh => by obtain ⟨_, _, _, h, _⟩ := hh; cases h)
        case c1459 => cases ho; simp [execOp, go_sem, Act.eval]
        case k1459 =>
         rintro uD wD ⟨qd, md, cd, hu, htd, hb⟩; rw [HV.out] at hu; obtain rfl := Ending.returned.inj hu; have hBD : Below wN.heap.size wN wD := Below.on hBC hb; clear hu hb hBC htc htd; refine ⟨hBD, ?_⟩; simp only [Act.put, zzA, zzB, zzC]; refine hTk (i := 10) (v := .tuple #[.slice qd md cd, .int .i64 6]) (some 187) (fun o ho W hSw => ?y1460) (by assumption) ?_
         case y1460 => cases ho; simp [execOp, go_sem, Act.eval]
         simp only [Act.put, zzA, zzB, zzC]; refine hTk (i := 11) (v := .slice qd md cd) (some 198) (fun o ho W hSw => ?y1461) (by assumption) ?_
         case y1461 => cases ho; simp [execOp, go_sem, Act.eval]
         simp only [Act.put, zzA, zzB, zzC]; refine hTk (i := 12) (v := .int .i64 6) (some 199) (fun o ho W hSw => ?y1462) (by assumption) ?_
         case y1462 => cases ho; simp [execOp, go_sem, Act.eval]
         simp only [Act.put, zzA, zzB, zzC]; refine hTk (i := 13) (v := .slice qd md cd) (some 22) (fun o ho W hSw => ?y1463) (by assumption) ?_
         case y1463 => cases ho; simp [execOp, go_sem, Act.eval]
         simp only [Act.put, zzA, zzB, zzC]; refine hTk (i := 14) (v := .int .i64 6) (some 23) (fun o ho W hSw => ?y1464) (by assumption) ?_
         case y1464 => cases ho; simp [execOp, go_sem, Act.eval]
         simp only [Act.put, zzA, zzB, zzC]; refine wpAnyH_done (by kernel_rfl) ?_ _
         change Exit.then _ _ _ _ wD
         have HBD : Hid (Below wN.heap.size wN wD) := hBD; clear hBD; go_wp2_with fail; go_roundw
         case rel => exact ⟨5, by decide, by go_num, HBD⟩
         case measure => simp [intOf]
    ·have hk : ((4 : Nat) : Int) = 4 := rfl
     rw [hk]; clear hk
     have hz : (bv == 0) = false := by rw [beq_eq_false_iff_ne]; exact hb0
     have hm0 : (av.tmod bv).natAbs < bv.natAbs := by rw [Int.natAbs_tmod]; exact Nat.mod_lt _ (by omega)
     have hm1 : -600 ≤ av.tmod bv ∧ av.tmod bv ≤ 600 := by omega
     obtain ⟨hm1, hm2⟩ := hm1; obtain ⟨ho1, ho2⟩ := opVal_in HIN.out.2.2.1 HIN.out.2.2.2 4 (by decide) (fun h => hb0)
     have hvv : opVal 4 av bv = (av.tmod bv + bv).tmod bv := by simp [opVal]
     rw [hvv] at ho1 ho2; have HV : Hid (evZ (evT (opT (opS 4) av bv)) = ([(1, (av.tmod bv + bv).tmod bv, [])], 0)) := opT_val (opS_two 4 (by decide)) ho1 ho2; clear ho1 ho2 hvv hm0
     have hst : strOfNums (opS 4) = ⟨#[109, 111, 100]⟩ := by rfl
     have HPR : Hid (∀ W q1 m1 c1 q2 m2 c2, TmIn W q1 m1 c1 [(1, av, [])] → TmIn W q2 m2 c2 [(1, bv, [])] → Calls Tryz.prog 12 #[.string ⟨#[109, 111, 100]⟩, .slice q1 m1 c1, .slice q2 m2 c2] W fun e w' => ∃ q m c, e = .returned (.slice q m c) ∧ TmC w' q m c (opT (opS 4) av bv).cs ∧ Below W.heap.size W w') := fun W q1 m1 c1 q2 m2 c2 h1 h2 => by
      have := pair_num 4 (by decide) av bv h1 h2; rw [hst] at this; exact this
     clear hst; go_wp2_with fail; refine wp_region_held_drew (S := fun W => Below wN.heap.size wN W) (by kernel_rfl) ?_ (fun hHeld => ?_)
     ·exact HBR.out.trans (Below.refl _ _).drew
     refine hTk (i := 0) (v := .slice (some ⟨nb, 0, none⟩) 6 6) (some 222) (fun o ho W hSw => ?y1400) (by assumption) ?_
     case y1400 => cases ho; simp [execOp, go_sem, Act.eval]
     simp only [Act.put, zzA, zzB, zzC]; refine hTk (i := 1) (v := .int .i64 4) (some 223) (fun o ho W hSw => ?y1401) (by assumption) ?_
     case y1401 => cases ho; simp [execOp, go_sem, Act.eval]
     simp only [Act.put, zzA, zzB, zzC]; refine hTk (i := 2) (v := .pointer (some ⟨nb, 4, none⟩)) (some 224) (fun o ho W hSw => ?y1402) (by assumption) ?_
     case y1402 => cases ho; simp [execOp, go_sem, Act.eval]
     simp only [Act.put, zzA, zzB, zzC]; refine hTk (i := 3) (v := .string ⟨#[109, 111, 100]⟩) (some 225) (fun o ho W hSw => ?y1403) (by assumption) ?_
     case y1403 =>
      cases ho
      have sN := cell_of_row _ _ 4 _ _ _ (HRN.out W hSw)
      simp [execOp, go_sem, Act.eval, sN]
     simp only [Act.put, zzA, zzB, zzC]; refine hTk (i := 4) (v := .int .i64 av) (some 226) (fun o ho W hSw => ?y1404) (by assumption) ?_
     case y1404 => cases ho; simp [execOp, go_sem, Act.eval]
     simp only [Act.put, zzA, zzB, zzC]; refine hTk (i := 6) (v := .int .i64 bv) (some 228) (fun o ho W hSw => ?y1405) (by assumption) ?_
     case y1405 => cases ho; simp [execOp, go_sem, Act.eval]
     simp only [Act.put, zzA, zzB, zzC]; refine hCallE (i := 5) (f := 13) (args := #[.int .i64 av]) (some 227) (by kernel_rfl) (by kernel_rfl) (by kernel_rfl) (fun o ho => ?c1406) (number_any av _) ?k1406 (fun ch w' hh => by obtain ⟨_, _, _, h, _⟩ := hh; cases h) (fun w' hh => by obtain ⟨_, _, _, h, _⟩ := hh; cases h)
     case c1406 => cases ho; simp [execOp, go_sem, Act.eval]
     case k1406 =>
      rintro uA wA ⟨qa, ma, ca, hu, hta, hb⟩; obtain rfl := Ending.returned.inj hu; have hBA : Below wN.heap.size wN wA := (HBR.out.trans (Below.refl _ _).drew).trans (hb.mono (by simpa using HBR.out.size)); clear hu hb; refine ⟨hBA, ?_⟩; simp only [Act.put, zzA, zzB, zzC]; refine hCallE (i := 7) (f := 13) (args := #[.int .i64 bv]) (some 229) (by kernel_rfl) (by kernel_rfl) (by kernel_rfl) (fun o ho => ?c1407) (number_any bv _) ?k1407 (fun ch w' hh => by obtain ⟨_, _, _, h, _⟩ := hh; cases h) (fun w' hh => by obtain ⟨_, _, _, h, _⟩ := hh; cases h)
      case c1407 => cases ho; simp [execOp, go_sem, Act.eval]
      case k1407 =>
       rintro uB wB ⟨qb, mb, cb, hu, htb, hb⟩; obtain rfl := Ending.returned.inj hu; have hBB : Below wN.heap.size wN wB := Below.on hBA hb; have hta := hta.below hb; clear hu hb hBA; refine ⟨hBB, ?_⟩; simp only [Act.put, zzA, zzB, zzC]; refine hCallE (i := 8) (f := 12) (args := #[.string ⟨#[109, 111, 100]⟩, .slice qa ma ca, .slice qb mb cb]) (some 230) (by kernel_rfl) (by kernel_rfl) (by kernel_rfl) (fun o ho => ?c1408) (HPR.out _ qa ma ca qb mb cb hta htb) ?k1408 (fun ch w' hh => by obtain ⟨_, _, _, h, _⟩ := hh; cases h) (fun w' hh => by obtain ⟨_, _, _, h, _⟩ := hh; cases h)
       case c1408 => cases ho; simp [execOp, go_sem, Act.eval]
       case k1408 =>
        rintro uC wC ⟨qc, mc, cc, hu, htc, hb⟩; obtain rfl := Ending.returned.inj hu; have hBC : Below wN.heap.size wN wC := Below.on hBB hb; clear hu hb hBB hta htb; refine ⟨hBC, ?_⟩; simp only [Act.put, zzA, zzB, zzC]; refine hCallE (i := 9) (f := 6) (args := #[.slice qc mc cc]) (some 231) (by kernel_rfl) (by kernel_rfl) (by kernel_rfl) (fun o ho => ?c1409) (evOp (HEN.out _ hBC) 4 (by decide) HIN.out.1 HIN.out.2.1 htc) ?k1409 (fun ch w' hh => by obtain ⟨_, _, _, h, _⟩ := hh; cases h) (fun w' hh => by obtain ⟨_, _, _, h, _⟩ := hh; cases h)
        case c1409 => cases ho; simp [execOp, go_sem, Act.eval]
        case k1409 =>
         rintro uD wD ⟨qd, md, cd, hu, htd, hb⟩; rw [HV.out] at hu htd; obtain rfl : md = 1 := htd.1; obtain rfl := Ending.returned.inj hu; have hBD : Below wN.heap.size wN wD := Below.on hBC hb; have HD : Hid (CIn wD qd [(1, (av.tmod bv + bv).tmod bv, [])]) := htd.cin; clear hu hb hBC htc htd; refine ⟨hBD, ?_⟩; simp only [Act.put, zzA, zzB, zzC]; refine hTk (i := 10) (v := .tuple #[.slice qd 1 cd, .int .i64 0]) (some 221) (fun o ho W hSw => ?y1410) (by assumption) ?_
         case y1410 => cases ho; simp [execOp, go_sem, Act.eval]
         simp only [Act.put, zzA, zzB, zzC]; refine hTk (i := 11) (v := .slice qd 1 cd) (some 232) (fun o ho W hSw => ?y1411) (by assumption) ?_
         case y1411 => cases ho; simp [execOp, go_sem, Act.eval]
         simp only [Act.put, zzA, zzB, zzC]; refine hTk (i := 12) (v := .int .i64 0) (some 233) (fun o ho W hSw => ?y1412) (by assumption) ?_
         case y1412 => cases ho; simp [execOp, go_sem, Act.eval]
         simp only [Act.put, zzA, zzB, zzC]; refine hTk (i := 13) (v := .slice qd 1 cd) (some 24) (fun o ho W hSw => ?y1413) (by assumption) ?_
         case y1413 => cases ho; simp [execOp, go_sem, Act.eval]
         simp only [Act.put, zzA, zzB, zzC]; refine hTk (i := 14) (v := .int .i64 0) (some 25) (fun o ho W hSw => ?y1414) (by assumption) ?_
         case y1414 => cases ho; simp [execOp, go_sem, Act.eval]
         simp only [Act.put, zzA, zzB, zzC]; refine wpAnyH_done (by kernel_rfl) ?_ _
         change Exit.then _ _ _ _ wD
         have HBD : Hid (Below wN.heap.size wN wD) := hBD; clear hBD; go_wp2_with fail; refine (number_any _ wD).mono ?_; rintro e wE ⟨qe, me, ce, rfl, hte, hb⟩; obtain rfl : me = 1 := hte.1; have HBE : Hid (Below wN.heap.size wN wE) := Below.on HBD.out hb; have hdE := HD.out.below hb; have HSS := sameT_any qd qe cd ce [(1, (av.tmod bv + bv).tmod bv, [])] [(1, (av.tmod bv + bv).tmod bv, [])] wE (by simp [tl]) (by simp [tl]) hdE hte.2.1; clear hte hb hdE; go_wp2_with fail; refine HSS.mono ?_; rintro e wF ⟨he, hb⟩
         have he' : e = .returned (.bool true) := by rw [he]; simp
         subst he'; have HBF : Hid (Below wN.heap.size wN wF) := Below.on HBE.out hb; clear hb HSS he; go_wp2_with fail; go_roundw
         case rel => exact ⟨5, by decide, by go_num, HBF⟩
         case measure => simp [intOf]
   ·by_cases hb0 : bv = 0
    ·have hk : ((5 : Nat) : Int) = 5 := rfl
     rw [hk]; clear hk
     have hz : (bv == 0) = true := by rw [hb0]; rfl
     have HZ : Hid (bv = 0) := hb0; clear hb0; have HV : Hid ((evZ (evT (opT (opS 5) av bv))).2 = 6) := opT_err (opS_two 5 (by decide)) (op_zero 5 (by decide) (by decide) HZ.out)
     have hst : strOfNums (opS 5) = ⟨#[114, 101, 109]⟩ := by rfl
     have HPR : Hid (∀ W q1 m1 c1 q2 m2 c2, TmIn W q1 m1 c1 [(1, av, [])] → TmIn W q2 m2 c2 [(1, bv, [])] → Calls Tryz.prog 12 #[.string ⟨#[114, 101, 109]⟩, .slice q1 m1 c1, .slice q2 m2 c2] W fun e w' => ∃ q m c, e = .returned (.slice q m c) ∧ TmC w' q m c (opT (opS 5) av bv).cs ∧ Below W.heap.size W w') := fun W q1 m1 c1 q2 m2 c2 h1 h2 => by
      have := pair_num 5 (by decide) av bv h1 h2; rw [hst] at this; exact this
     clear hst; go_wp2_with fail; refine wp_region_held_drew (S := fun W => Below wN.heap.size wN W) (by kernel_rfl) ?_ (fun hHeld => ?_)
     ·exact HBR.out.trans (Below.refl _ _).drew
     refine hTk (i := 0) (v := .slice (some ⟨nb, 0, none⟩) 6 6) (some 188) (fun o ho W hSw => ?y1550) (by assumption) ?_
     case y1550 => cases ho; simp [execOp, go_sem, Act.eval]
     simp only [Act.put, zzA, zzB, zzC]; refine hTk (i := 1) (v := .int .i64 5) (some 189) (fun o ho W hSw => ?y1551) (by assumption) ?_
     case y1551 => cases ho; simp [execOp, go_sem, Act.eval]
     simp only [Act.put, zzA, zzB, zzC]; refine hTk (i := 2) (v := .pointer (some ⟨nb, 5, none⟩)) (some 190) (fun o ho W hSw => ?y1552) (by assumption) ?_
     case y1552 => cases ho; simp [execOp, go_sem, Act.eval]
     simp only [Act.put, zzA, zzB, zzC]; refine hTk (i := 3) (v := .string ⟨#[114, 101, 109]⟩) (some 191) (fun o ho W hSw => ?y1553) (by assumption) ?_
     case y1553 =>
      cases ho
      have sN := cell_of_row _ _ 5 _ _ _ (HRN.out W hSw)
      simp [execOp, go_sem, Act.eval, sN]
     simp only [Act.put, zzA, zzB, zzC]; refine hTk (i := 4) (v := .int .i64 av) (some 192) (fun o ho W hSw => ?y1554) (by assumption) ?_
     case y1554 => cases ho; simp [execOp, go_sem, Act.eval]
     simp only [Act.put, zzA, zzB, zzC]; refine hTk (i := 6) (v := .int .i64 bv) (some 194) (fun o ho W hSw => ?y1555) (by assumption) ?_
     case y1555 => cases ho; simp [execOp, go_sem, Act.eval]
     simp only [Act.put, zzA, zzB, zzC]; refine hCallE (i := 5) (f := 13) (args := #[.int .i64 av]) (some 193) (by kernel_rfl) (by kernel_rfl) (by kernel_rfl) (fun o ho => ?c1556) (number_any av _) ?k1556 (fun ch w' hh => by obtain ⟨_, _, _, h, _⟩ := hh; cases h) (fun w' hh => by obtain ⟨_, _, _, h, _⟩ := hh; cases h)
     case c1556 => cases ho; simp [execOp, go_sem, Act.eval]
     case k1556 =>
      rintro uA wA ⟨qa, ma, ca, hu, hta, hb⟩; obtain rfl := Ending.returned.inj hu; have hBA : Below wN.heap.size wN wA := (HBR.out.trans (Below.refl _ _).drew).trans (hb.mono (by simpa using HBR.out.size)); clear hu hb; refine ⟨hBA, ?_⟩; simp only [Act.put, zzA, zzB, zzC]; refine hCallE (i := 7) (f := 13) (args := #[.int .i64 bv]) (some 195) (by kernel_rfl) (by kernel_rfl) (by kernel_rfl) (fun o ho => ?c1557) (number_any bv _) ?k1557 (fun ch w' hh => by obtain ⟨_, _, _, h, _⟩ := hh; cases h) (fun w' hh => by obtain ⟨_, _, _, h, _⟩ := hh; cases h)
      case c1557 => cases ho; simp [execOp, go_sem, Act.eval]
      case k1557 =>
       rintro uB wB ⟨qb, mb, cb, hu, htb, hb⟩; obtain rfl := Ending.returned.inj hu; have hBB : Below wN.heap.size wN wB := Below.on hBA hb; have hta := hta.below hb; clear hu hb hBA; refine ⟨hBB, ?_⟩; simp only [Act.put, zzA, zzB, zzC]; refine hCallE (i := 8) (f := 12) (args := #[.string ⟨#[114, 101, 109]⟩, .slice qa ma ca, .slice qb mb cb]) (some 196) (by kernel_rfl) (by kernel_rfl) (by kernel_rfl) (fun o ho => ?c1558) (HPR.out _ qa ma ca qb mb cb hta htb) ?k1558 (fun ch w' hh => by obtain ⟨_, _, _, h, _⟩ := hh; cases h) (fun w' hh => by obtain ⟨_, _, _, h, _⟩ := hh; cases h)
       case c1558 => cases ho; simp [execOp, go_sem, Act.eval]
       case k1558 =>
        rintro uC wC ⟨qc, mc, cc, hu, htc, hb⟩; obtain rfl := Ending.returned.inj hu; have hBC : Below wN.heap.size wN wC := Below.on hBB hb; clear hu hb hBB hta htb; refine ⟨hBC, ?_⟩; simp only [Act.put, zzA, zzB, zzC]; refine hCallE (i := 9) (f := 6) (args := #[.slice qc mc cc]) (some 197) (by kernel_rfl) (by kernel_rfl) (by kernel_rfl) (fun o ho => ?c1559) (evOp (HEN.out _ hBC) 5 (by decide) HIN.out.1 HIN.out.2.1 htc) ?k1559 (fun ch w' hh => by obtain ⟨_, _, _, h, _⟩ := hh; cases h) (fun w' hh => by obtain ⟨_, _, _, h, _⟩ := hh; cases h)
        case c1559 => cases ho; simp [execOp, go_sem, Act.eval]
        case k1559 =>
         rintro uD wD ⟨qd, md, cd, hu, htd, hb⟩; rw [HV.out] at hu; obtain rfl := Ending.returned.inj hu; have hBD : Below wN.heap.size wN wD := Below.on hBC hb; clear hu hb hBC htc htd; refine ⟨hBD, ?_⟩; simp only [Act.put, zzA, zzB, zzC]; refine hTk (i := 10) (v := .tuple #[.slice qd md cd, .int .i64 6]) (some 187) (fun o ho W hSw => ?y1560) (by assumption) ?_
         case y1560 => cases ho; simp [execOp, go_sem, Act.eval]
         simp only [Act.put, zzA, zzB, zzC]; refine hTk (i := 11) (v := .slice qd md cd) (some 198) (fun o ho W hSw => ?y1561) (by assumption) ?_
         case y1561 => cases ho; simp [execOp, go_sem, Act.eval]
         simp only [Act.put, zzA, zzB, zzC]; refine hTk (i := 12) (v := .int .i64 6) (some 199) (fun o ho W hSw => ?y1562) (by assumption) ?_
         case y1562 => cases ho; simp [execOp, go_sem, Act.eval]
         simp only [Act.put, zzA, zzB, zzC]; refine hTk (i := 13) (v := .slice qd md cd) (some 22) (fun o ho W hSw => ?y1563) (by assumption) ?_
         case y1563 => cases ho; simp [execOp, go_sem, Act.eval]
         simp only [Act.put, zzA, zzB, zzC]; refine hTk (i := 14) (v := .int .i64 6) (some 23) (fun o ho W hSw => ?y1564) (by assumption) ?_
         case y1564 => cases ho; simp [execOp, go_sem, Act.eval]
         simp only [Act.put, zzA, zzB, zzC]; refine wpAnyH_done (by kernel_rfl) ?_ _
         change Exit.then _ _ _ _ wD
         have HBD : Hid (Below wN.heap.size wN wD) := hBD; clear hBD; go_wp2_with fail; go_roundw
         case rel => exact ⟨6, by decide, by go_num, HBD⟩
         case measure => simp [intOf]
    ·have hk : ((5 : Nat) : Int) = 5 := rfl
     rw [hk]; clear hk
     have hz : (bv == 0) = false := by rw [beq_eq_false_iff_ne]; exact hb0
     have hm0 : (av.tmod bv).natAbs < bv.natAbs := by rw [Int.natAbs_tmod]; exact Nat.mod_lt _ (by omega)
     have hm1 : -600 ≤ av.tmod bv ∧ av.tmod bv ≤ 600 := by omega
     obtain ⟨hm1, hm2⟩ := hm1; obtain ⟨ho1, ho2⟩ := opVal_in HIN.out.2.2.1 HIN.out.2.2.2 5 (by decide) (fun h => hb0)
     have hvv : opVal 5 av bv = av.tmod bv := by simp [opVal]
     rw [hvv] at ho1 ho2; have HV : Hid (evZ (evT (opT (opS 5) av bv)) = ([(1, av.tmod bv, [])], 0)) := opT_val (opS_two 5 (by decide)) ho1 ho2; clear ho1 ho2 hvv hm0
     have hst : strOfNums (opS 5) = ⟨#[114, 101, 109]⟩ := by rfl
     have HPR : Hid (∀ W q1 m1 c1 q2 m2 c2, TmIn W q1 m1 c1 [(1, av, [])] → TmIn W q2 m2 c2 [(1, bv, [])] → Calls Tryz.prog 12 #[.string ⟨#[114, 101, 109]⟩, .slice q1 m1 c1, .slice q2 m2 c2] W fun e w' => ∃ q m c, e = .returned (.slice q m c) ∧ TmC w' q m c (opT (opS 5) av bv).cs ∧ Below W.heap.size W w') := fun W q1 m1 c1 q2 m2 c2 h1 h2 => by
      have := pair_num 5 (by decide) av bv h1 h2; rw [hst] at this; exact this
     clear hst; go_wp2_with fail; refine wp_region_held_drew (S := fun W => Below wN.heap.size wN W) (by kernel_rfl) ?_ (fun hHeld => ?_)
     ·exact HBR.out.trans (Below.refl _ _).drew
     refine hTk (i := 0) (v := .slice (some ⟨nb, 0, none⟩) 6 6) (some 222) (fun o ho W hSw => ?y1500) (by assumption) ?_
     case y1500 => cases ho; simp [execOp, go_sem, Act.eval]
     simp only [Act.put, zzA, zzB, zzC]; refine hTk (i := 1) (v := .int .i64 5) (some 223) (fun o ho W hSw => ?y1501) (by assumption) ?_
     case y1501 => cases ho; simp [execOp, go_sem, Act.eval]
     simp only [Act.put, zzA, zzB, zzC]; refine hTk (i := 2) (v := .pointer (some ⟨nb, 5, none⟩)) (some 224) (fun o ho W hSw => ?y1502) (by assumption) ?_
     case y1502 => cases ho; simp [execOp, go_sem, Act.eval]
     simp only [Act.put, zzA, zzB, zzC]; refine hTk (i := 3) (v := .string ⟨#[114, 101, 109]⟩) (some 225) (fun o ho W hSw => ?y1503) (by assumption) ?_
     case y1503 =>
      cases ho
      have sN := cell_of_row _ _ 5 _ _ _ (HRN.out W hSw)
      simp [execOp, go_sem, Act.eval, sN]
     simp only [Act.put, zzA, zzB, zzC]; refine hTk (i := 4) (v := .int .i64 av) (some 226) (fun o ho W hSw => ?y1504) (by assumption) ?_
     case y1504 => cases ho; simp [execOp, go_sem, Act.eval]
     simp only [Act.put, zzA, zzB, zzC]; refine hTk (i := 6) (v := .int .i64 bv) (some 228) (fun o ho W hSw => ?y1505) (by assumption) ?_
     case y1505 => cases ho; simp [execOp, go_sem, Act.eval]
     simp only [Act.put, zzA, zzB, zzC]; refine hCallE (i := 5) (f := 13) (args := #[.int .i64 av]) (some 227) (by kernel_rfl) (by kernel_rfl) (by kernel_rfl) (fun o ho => ?c1506) (number_any av _) ?k1506 (fun ch w' hh => by obtain ⟨_, _, _, h, _⟩ := hh; cases h) (fun w' hh => by obtain ⟨_, _, _, h, _⟩ := hh; cases h)
     case c1506 => cases ho; simp [execOp, go_sem, Act.eval]
     case k1506 =>
      rintro uA wA ⟨qa, ma, ca, hu, hta, hb⟩; obtain rfl := Ending.returned.inj hu; have hBA : Below wN.heap.size wN wA := (HBR.out.trans (Below.refl _ _).drew).trans (hb.mono (by simpa using HBR.out.size)); clear hu hb; refine ⟨hBA, ?_⟩; simp only [Act.put, zzA, zzB, zzC]; refine hCallE (i := 7) (f := 13) (args := #[.int .i64 bv]) (some 229) (by kernel_rfl) (by kernel_rfl) (by kernel_rfl) (fun o ho => ?c1507) (number_any bv _) ?k1507 (fun ch w' hh => by obtain ⟨_, _, _, h, _⟩ := hh; cases h) (fun w' hh => by obtain ⟨_, _, _, h, _⟩ := hh; cases h)
      case c1507 => cases ho; simp [execOp, go_sem, Act.eval]
      case k1507 =>
       rintro uB wB ⟨qb, mb, cb, hu, htb, hb⟩; obtain rfl := Ending.returned.inj hu; have hBB : Below wN.heap.size wN wB := Below.on hBA hb; have hta := hta.below hb; clear hu hb hBA; refine ⟨hBB, ?_⟩; simp only [Act.put, zzA, zzB, zzC]; refine hCallE (i := 8) (f := 12) (args := #[.string ⟨#[114, 101, 109]⟩, .slice qa ma ca, .slice qb mb cb]) (some 230) (by kernel_rfl) (by kernel_rfl) (by kernel_rfl) (fun o ho => ?c1508) (HPR.out _ qa ma ca qb mb cb hta htb) ?k1508 (fun ch w' hh => by obtain ⟨_, _, _, h, _⟩ := hh; cases h) (fun w' hh => by obtain ⟨_, _, _, h, _⟩ := hh; cases h)
       case c1508 => cases ho; simp [execOp, go_sem, Act.eval]
       case k1508 =>
        rintro uC wC ⟨qc, mc, cc, hu, htc, hb⟩; obtain rfl := Ending.returned.inj hu; have hBC : Below wN.heap.size wN wC := Below.on hBB hb; clear hu hb hBB hta htb; refine ⟨hBC, ?_⟩; simp only [Act.put, zzA, zzB, zzC]; refine hCallE (i := 9) (f := 6) (args := #[.slice qc mc cc]) (some 231) (by kernel_rfl) (by kernel_rfl) (by kernel_rfl) (fun o ho => ?c1509) (evOp (HEN.out _ hBC) 5 (by decide) HIN.out.1 HIN.out.2.1 htc) ?k1509 (fun ch w' hh => by obtain ⟨_, _, _, h, _⟩ := hh; cases h) (fun w' hh => by obtain ⟨_, _, _, h, _⟩ := hh; cases h)
        case c1509 => cases ho; simp [execOp, go_sem, Act.eval]
        case k1509 =>
         rintro uD wD ⟨qd, md, cd, hu, htd, hb⟩; rw [HV.out] at hu htd; obtain rfl : md = 1 := htd.1; obtain rfl := Ending.returned.inj hu; have hBD : Below wN.heap.size wN wD := Below.on hBC hb; have HD : Hid (CIn wD qd [(1, av.tmod bv, [])]) := htd.cin; clear hu hb hBC htc htd; refine ⟨hBD, ?_⟩; simp only [Act.put, zzA, zzB, zzC]; refine hTk (i := 10) (v := .tuple #[.slice qd 1 cd, .int .i64 0]) (some 221) (fun o ho W hSw => ?y1510) (by assumption) ?_
         case y1510 => cases ho; simp [execOp, go_sem, Act.eval]
         simp only [Act.put, zzA, zzB, zzC]; refine hTk (i := 11) (v := .slice qd 1 cd) (some 232) (fun o ho W hSw => ?y1511) (by assumption) ?_
         case y1511 => cases ho; simp [execOp, go_sem, Act.eval]
         simp only [Act.put, zzA, zzB, zzC]; refine hTk (i := 12) (v := .int .i64 0) (some 233) (fun o ho W hSw => ?y1512) (by assumption) ?_
         case y1512 => cases ho; simp [execOp, go_sem, Act.eval]
         simp only [Act.put, zzA, zzB, zzC]; refine hTk (i := 13) (v := .slice qd 1 cd) (some 24) (fun o ho W hSw => ?y1513) (by assumption) ?_
         case y1513 => cases ho; simp [execOp, go_sem, Act.eval]
         simp only [Act.put, zzA, zzB, zzC]; refine hTk (i := 14) (v := .int .i64 0) (some 25) (fun o ho W hSw => ?y1514) (by assumption) ?_
         case y1514 => cases ho; simp [execOp, go_sem, Act.eval]
         simp only [Act.put, zzA, zzB, zzC]; refine wpAnyH_done (by kernel_rfl) ?_ _
         change Exit.then _ _ _ _ wD
         have HBD : Hid (Below wN.heap.size wN wD) := hBD; clear hBD; go_wp2_with fail; refine (number_any _ wD).mono ?_; rintro e wE ⟨qe, me, ce, rfl, hte, hb⟩; obtain rfl : me = 1 := hte.1; have HBE : Hid (Below wN.heap.size wN wE) := Below.on HBD.out hb; have hdE := HD.out.below hb; have HSS := sameT_any qd qe cd ce [(1, av.tmod bv, [])] [(1, av.tmod bv, [])] wE (by simp [tl]) (by simp [tl]) hdE hte.2.1; clear hte hb hdE; go_wp2_with fail; refine HSS.mono ?_; rintro e wF ⟨he, hb⟩
         have he' : e = .returned (.bool true) := by rw [he]; simp
         subst he'; have HBF : Hid (Below wN.heap.size wN wF) := Below.on HBE.out hb; clear hb HSS he; go_wp2_with fail; go_roundw
         case rel => exact ⟨6, by decide, by go_num, HBF⟩
         case measure => simp [intOf]
  ·obtain rfl : j = 6 := by omega
   go_wp2_with fail; go_ret; exact ⟨rfl, Below.on HBN.out HBR.out⟩
end Go.Proofs.YtkklidpnkofipaaGreatDoor
