/- Texts of LawLc, ProofSt, ProofCo. Own work of the verifier. -/
import Derived.Test.YtjhbplgppakhoaaGreatDoorUqbo
import Derived.Test.YtjhbplgppakhoaaGreatDoorUqbp
import Derived.Test.YtjhbplgppakhoaaGreatDoorUqbr
import Derived.Test.YtjhbplgppakhoaaGreatDoorUqbs
import Derived.Test.YtjhbplgppakhoaaGreatDoorUqbf
import Derived.Test.YtjhbplgppakhoaaGreatDoorUqac
import Derived.Test.YtjhbplgppakhoaaGreatDoorUqbk
import Derived.Lib.SmallJoins
namespace Go.Proofs.YtjhbplgppakhoaaGreatDoor
open Go Go.RowKit
set_option linter.unusedVariables false
set_option linter.unusedSimpArgs false
theorem wf_bd {n : Int} (h : (Lit.int .i64 n).wf = true) : -9223372036854775808 ≤ n ∧ n < 9223372036854775808 := by
  have h1 : IntKind.i64.min = -9223372036854775808 := rfl
  have h2 : IntKind.i64.max = 9223372036854775807 := rfl
  simp only [Lit.wf, Bool.and_eq_true, decide_eq_true_eq] at h
  omega
theorem IvArg.iok {w : World} {p : Option Addr} {xs : List Iv} (h : IvArg w p xs) : IvOk xs := fun i hi => ⟨(h.item i hi).2.1, wf_bd (h.wide i hi).2.1, wf_bd (h.wide i hi).2.2.1, wf_bd (h.wide i hi).2.2.2.2⟩
theorem lcT_len (T : List Cel) (xs : List Iv) : (lcT T xs).length ≤ 26000000 := by
  unfold lcT
  split
  · rename_i h
    have := lnsT_len xs xs.length (Nat.le_refl _) h.2.2
    omega
  · simp
theorem blk_on {w w' : World} {b : Nat} {o : Obj} (h : w.heap[b]? = some o) (hb : Below w.heap.size w w') : w'.heap[b]? = some o := (hb.block b (Array.getElem?_eq_some_iff.1 h).1).trans h
theorem blk_keep {w w' : World} {b B U : Nat} {o : Obj} (h : w.heap[b]? = some o) (hk : Keep B U w w') (hor : b < B ∨ U ≤ b) : w'.heap[b]? = some o := (hk.block b (Array.getElem?_eq_some_iff.1 h).1 hor).trans h
theorem blk_two {w : World} {b : Nat} {x y : Value} {t : TypeId} {o : Obj} (h : w.heap[b]? = some o) (e : o = .cells #[x, y] t) : w.cell? ⟨b, 0, none⟩ = some x ∧ w.cell? ⟨b, 1, none⟩ = some y := by
  subst e
  exact ⟨by simp [World.cell?, h], by simp [World.cell?, h]⟩
set_option maxRecDepth 100000 in
set_option maxHeartbeats 8000000 in
theorem lawLc_any (po : Option Addr) (co : Nat) (T : List Cel) (p : Option Addr) (cp : Nat) (xs : List Iv) (g : Option Addr) (cg : Nat) (vs : List Pv) (w : World) (hin : OArg w po T) (hp : IvArg w p xs) (hg : PvArg w g vs) (hTab : Tab w) (hPow : TabP w) :
    Calls Tryz.prog 4 #[.slice po T.length co, .agg #[.slice p xs.length cp, .slice g vs.length cg]] w fun e w' => e = .returned (.bool true) ∧ Below w.heap.size w w' := by
  obtain ⟨bx, ebx⟩ : ∃ bx : Obj, bx = .cells #[.slice p xs.length cp, .slice g vs.length cg] 46 := ⟨_, rfl⟩
  have HAL : Hid (Below w.heap.size w (w.alloc bx)) := (Below.refl _ _).alloc (Nat.le_refl _) _
  have HI : Hid (OArg w po T) := hin
  have HP : Hid (IvArg w p xs) := hp
  have HG : Hid (PvArg w g vs) := hg
  have HTP : Hid (Tab w ∧ TabP w) := ⟨hTab, hPow⟩
  have HS := szOpS_any po co T 1048576 (w.alloc bx) (Nat.le_refl _) hin.len hin.text (hin.below HAL.out).lies
  have HSC : Hid (∀ (L : Nat) (W : World), L ≤ 1048576 → Below w.heap.size w W → Calls Tryz.prog 22 #[.agg #[.slice p xs.length cp, .slice g vs.length cg], .int .i64 L] W fun e w' => e = .returned (.int .i64 (szR L (szK xs vs))) ∧ Below W.heap.size W w') := fun L W hL hW => szCode_any p cp xs g cg vs L W hL (HP.out.below hW) (HG.out.below hW)
  obtain ⟨np, enp⟩ : ∃ n, n = xs.length := ⟨_, rfl⟩
  obtain ⟨ng, eng⟩ : ∃ n, n = vs.length := ⟨_, rfl⟩
  rw [← enp, ← eng] at HSC ebx ⊢
  have HEB : Hid (bx = .cells #[.slice p np cp, .slice g ng cg] 46) := ebx
  have HBX : Hid (∀ W, Below (w.alloc bx).heap.size (w.alloc bx) W → W.cell? ⟨w.heap.size, 0, none⟩ = some (.slice p np cp) ∧ W.cell? ⟨w.heap.size, 1, none⟩ = some (.slice g ng cg) ∧ Below w.heap.size w W) := fun W hW => by
    have hk := blk_two (blk_on (heap_alloc_new w bx) hW) HEB.out
    exact ⟨hk.1, hk.2, Below.on HAL.out hW⟩
  have hlen1 := hin.len
  clear hin hp hg hTab hPow ebx
  by_cases hn : T.length + tl T ≤ 1048576
  · obtain ⟨r, er, hr⟩ : ∃ r : Nat, szR 1048576 (T.length + tl T) = r ∧ r ≤ 1048576 := ⟨1048576 - (T.length + tl T), by rw [szR, if_pos hn]; omega, by omega⟩
    rw [er] at HS
    clear er
    by_cases hs : szK xs vs ≤ r
    · obtain ⟨r2, er2, hr2⟩ : ∃ r2 : Nat, szR r (szK xs vs) = r2 ∧ r2 ≤ 1048576 := ⟨r - szK xs vs, by rw [szR, if_pos hs]; omega, by omega⟩
      have HS2 : Hid (∀ W, Below w.heap.size w W → Calls Tryz.prog 22 #[.agg #[.slice p np cp, .slice g ng cg], .int .i64 r] W fun e w' => e = .returned (.int .i64 r2) ∧ Below W.heap.size W w') := fun W hW => by have := HSC.out r W hr hW; rw [er2] at this; exact this
      have hsz : szK2 xs vs ≤ 1048576 := by have : szK2 xs vs = szK xs vs := rfl; omega
      have hnp : np ≤ 1048576 := by unfold szK2 at hsz; omega
      have HNL : Hid (np = xs.length ∧ ng = vs.length ∧ szK2 xs vs ≤ 1048576) := ⟨enp, eng, hsz⟩
      obtain ⟨R, eR⟩ : ∃ R, R = lcT T xs := ⟨_, rfl⟩
      have HZL : Hid (R.length ≤ 26000000) := by show _ ≤ _; rw [eR]; exact lcT_len T xs
      have HTC : Hid (∀ W, Below w.heap.size w W → Calls Tryz.prog 24 #[.agg #[.slice p np cp, .slice g ng cg]] W fun e w' => ∃ Tc Gc, e = .returned (.agg #[.slice (some ⟨Tc, 0, none⟩) np np, .slice (some ⟨Gc, 0, none⟩) ng ng]) ∧ CdLaid w' Tc Gc xs vs ∧ W.heap.size ≤ Tc ∧ Below W.heap.size W w') := fun W hW => toCode_any p np cp xs g ng cg vs W enp eng hsz (HP.out.below hW).lies (HG.out.below hW).lies
      have HSP : Hid (∀ (q : Option Addr) (Tc Gc : Nat) (W : World), OIn W q T → IvIn W (some ⟨Tc, 0, none⟩) xs → Calls Tryz.prog 23 #[.slice q T.length T.length, .agg #[.slice (some ⟨Tc, 0, none⟩) np np, .slice (some ⟨Gc, 0, none⟩) ng ng]] W fun e w' => ∃ q m c2, e = .returned (.slice q m c2) ∧ OwnT w' W.heap.size q m c2 R ∧ Below W.heap.size W w') := fun q Tc Gc W h1 h2 => by
        rw [eR]
        exact specLc_any T xs q T.length _ np np _ ng ng W HI.out.byte (by omega) h1 enp hnp h2 HP.out.iok
      have HIM : Hid (∀ (q : Option Addr) (Tc Gc : Nat) (W : World), Below w.heap.size w W → OIn W q T → IvIn W (some ⟨Tc, 0, none⟩) xs → Calls Tryz.prog 25 #[.slice q T.length T.length, .agg #[.slice (some ⟨Tc, 0, none⟩) np np, .slice (some ⟨Gc, 0, none⟩) ng ng]] W fun e w' => ∃ q m c2, e = .returned (.slice q m c2) ∧ OwnT w' W.heap.size q m c2 R ∧ Below W.heap.size W w') := fun q Tc Gc W hW h1 h2 => by
        rw [eR]
        exact implLc_any T xs q T.length _ np np _ ng ng W HI.out.byte (by omega) h1 enp hnp h2 HP.out.iok (HTP.out.1.below hW) (HTP.out.2.below hW)
      clear er2 hs hr hr2 hsz hnp enp eng eR hlen1 HSC HTP
      go_enter Tryz.func4, Tryz.ntmps4
      go_wp2_with fail
      rw [← HEB.out]
      refine HS.mono ?_
      rintro e w0 ⟨rfl, hb⟩
      have HA_w0 : Hid (Below (w.alloc bx).heap.size (w.alloc bx) w0) := hb
      obtain ⟨c0, c1, hB⟩ := HBX.out w0 HA_w0.out
      clear hb HS
      go_wp2_with fail
      refine (HS2.out w0 hB).mono ?_
      rintro e w1 ⟨rfl, hb⟩
      have HA_w1 : Hid (Below (w.alloc bx).heap.size (w.alloc bx) w1) := Below.on HA_w0.out hb
      clear hb c0 c1 hB HS2
      obtain ⟨wd1, eD⟩ : ∃ Wd, Wd = World.drew w1 := ⟨_, rfl⟩
      have hb : Below w1.heap.size w1 wd1 := by rw [eD]; exact (Below.refl _ _).drew
      have HDe_wd1 : Hid (World.drew w1 = wd1) := eD.symm
      have HA_wd1 : Hid (Below (w.alloc bx).heap.size (w.alloc bx) wd1) := Below.on HA_w1.out hb
      clear hb eD
      have hS0 := (show (fun W => W.cell? ⟨w.heap.size, 0, none⟩ = some (.slice p np cp) ∧ W.cell? ⟨w.heap.size, 1, none⟩ = some (.slice g ng cg)) wd1 from ⟨(HBX.out _ HA_wd1.out).1, (HBX.out _ HA_wd1.out).2.1⟩)
      go_wp2_with fail
      refine wp_region_held_drew (S := (fun W => W.cell? ⟨w.heap.size, 0, none⟩ = some (.slice p np cp) ∧ W.cell? ⟨w.heap.size, 1, none⟩ = some (.slice g ng cg))) (by kernel_rfl) ?_ (fun hHeld => ?_)
      · rw [HDe_wd1.out]; exact hS0
      rw [HDe_wd1.out]
      refine hTake (i := 0) (v := .slice po T.length co) (some 24) (by kernel_rfl) (by kernel_rfl) (by kernel_rfl) (by kernel_rfl) (by kernel_rfl) (fun _ _ _ h => h) (fun o ho W hSw => ?y0) (by assumption) ?_
      case y0 =>
        cases ho
        simp [execOp, go_sem, Act.eval]
      simp only [Act.put, zzA, zzB, zzC]
      refine hTake (i := 2) (v := .agg #[.slice p np cp, .slice g ng cg]) (some 26) (by kernel_rfl) (by kernel_rfl) (by kernel_rfl) (by kernel_rfl) (by kernel_rfl) (fun _ _ _ h => h) (fun o ho W hSw => ?y1) (by assumption) ?_
      case y1 =>
        cases ho
        obtain ⟨k0, k1⟩ := hSw
        simp [execOp, go_sem, Act.eval, k0, k1]
      simp only [Act.put, zzA, zzB, zzC]
      refine hCallE (i := 1) (f := 9) (args := #[.slice po T.length co]) (some 25) (by kernel_rfl) (by kernel_rfl) (by kernel_rfl) (fun o ho => ?c111) (toOpS_any po co T wd1 hn (HI.out.below (HBX.out _ HA_wd1.out).2.2).lies) ?k111 (fun ch w' hh => by cases hh.1) (fun w' hh => by cases hh.1)
      case c111 =>
        cases ho
        simp [execOp, go_sem, Act.eval]
      case k111 =>
        rintro u w2 ⟨hu, ho, hb⟩
        injection hu with hu
        subst hu
        have HA_w2 : Hid (Below (w.alloc bx).heap.size (w.alloc bx) w2) := Below.on HA_wd1.out hb
        have HP_w2 : Hid (OIn w2 (some ⟨wd1.heap.size, 0, none⟩) T) := ho.oin
        have hSa : (fun W => W.cell? ⟨w.heap.size, 0, none⟩ = some (.slice p np cp) ∧ W.cell? ⟨w.heap.size, 1, none⟩ = some (.slice g ng cg)) w2 := ⟨(HBX.out _ HA_w2.out).1, (HBX.out _ HA_w2.out).2.1⟩
        refine ⟨hSa, ?_⟩
        clear ho hb
        simp only [Act.put, zzA, zzB, zzC]
        refine hCallE (i := 3) (f := 24) (args := #[.agg #[.slice p np cp, .slice g ng cg]]) (some 27) (by kernel_rfl) (by kernel_rfl) (by kernel_rfl) (fun o ho => ?c113) (HTC.out w2 (HBX.out _ HA_w2.out).2.2) ?k113 (fun ch w' hh => by obtain ⟨_, _, h, _⟩ := hh; cases h) (fun w' hh => by obtain ⟨_, _, h, _⟩ := hh; cases h)
        case c113 =>
          cases ho
          simp [execOp, go_sem, Act.eval]
        case k113 =>
          rintro u w3 ⟨Tw3, Gw3, hu, hl, htc, hb⟩
          injection hu with hu
          subst hu
          have HA_w3 : Hid (Below (w.alloc bx).heap.size (w.alloc bx) w3) := Below.on HA_w2.out hb
          have HP_w3 : Hid (OIn w3 (some ⟨wd1.heap.size, 0, none⟩) T) := HP_w2.out.below hb
          obtain ⟨Ux, hli, hlp⟩ := hl
          have HQ_w3 : Hid (IvIn w3 (some ⟨Tw3, 0, none⟩) xs) := hli.lies rfl
          have hSb : (fun W => W.cell? ⟨w.heap.size, 0, none⟩ = some (.slice p np cp) ∧ W.cell? ⟨w.heap.size, 1, none⟩ = some (.slice g ng cg)) w3 := ⟨(HBX.out _ HA_w3.out).1, (HBX.out _ HA_w3.out).2.1⟩
          refine ⟨hSb, ?_⟩
          clear hli hlp htc hb
          simp only [Act.put, zzA, zzB, zzC]
          refine hCallE (i := 4) (f := 23) (args := #[.slice (some ⟨wd1.heap.size, 0, none⟩) T.length T.length, .agg #[.slice (some ⟨Tw3, 0, none⟩) np np, .slice (some ⟨Gw3, 0, none⟩) ng ng]]) (some 28) (by kernel_rfl) (by kernel_rfl) (by kernel_rfl) (fun o ho => ?c114) (HSP.out _ _ _ w3 HP_w3.out HQ_w3.out) ?k114 (fun ch w' hh => by obtain ⟨_, _, _, h, _⟩ := hh; cases h) (fun w' hh => by obtain ⟨_, _, _, h, _⟩ := hh; cases h)
          case c114 =>
            cases ho
            simp [execOp, go_sem, Act.eval]
          case k114 =>
            rintro u w4 ⟨pw4, nw4, cw4, hu, ho, hb⟩
            injection hu with hu
            subst hu
            have HA_w4 : Hid (Below (w.alloc bx).heap.size (w.alloc bx) w4) := Below.on HA_w3.out hb
            have HP_w4 : Hid (OIn w4 (some ⟨wd1.heap.size, 0, none⟩) T) := HP_w3.out.below hb
            have HQ_w4 : Hid (IvIn w4 (some ⟨Tw3, 0, none⟩) xs) := HQ_w3.out.below hb
            have hSc : (fun W => W.cell? ⟨w.heap.size, 0, none⟩ = some (.slice p np cp) ∧ W.cell? ⟨w.heap.size, 1, none⟩ = some (.slice g ng cg)) w4 := ⟨(HBX.out _ HA_w4.out).1, (HBX.out _ HA_w4.out).2.1⟩
            have HZ_w4 : Hid (OwnT w4 w3.heap.size pw4 nw4 cw4 R) := ho
            refine ⟨hSc, ?_⟩
            clear ho hb
            simp only [Act.put, zzA, zzB, zzC]
            refine hTake (i := 5) (v := .slice pw4 nw4 cw4) (some 6) (by kernel_rfl) (by kernel_rfl) (by kernel_rfl) (by kernel_rfl) (by kernel_rfl) (fun _ _ _ h => h) (fun o ho W hSw => ?y310) (by assumption) ?_
            case y310 =>
              cases ho
              simp [execOp, go_sem, Act.eval]
            simp only [Act.put, zzA, zzB, zzC]
            refine wpAnyH_done (by kernel_rfl) ?_ _
            change Exit.then _ _ _ _ w4
            clear hS0 hSa hSb hSc
            have HZ : Hid (BIn w4 pw4 R ∧ nw4 = R.length) := ⟨HZ_w4.out.bin, HZ_w4.out.1⟩
            clear HZ_w4
            have HB_w4 : Hid (Below w4.heap.size w4 w4) := Below.refl _ _
            go_wp2_with fail
            refine (toOpS_any po co T w4 hn (HI.out.below (HBX.out _ HA_w4.out).2.2).lies).mono ?_
            rintro e w5 ⟨rfl, ho, hb⟩
            have HA_w5 : Hid (Below (w.alloc bx).heap.size (w.alloc bx) w5) := Below.on HA_w4.out hb
            have HB_w5 : Hid (Below w4.heap.size w4 w5) := Below.on HB_w4.out hb
            have HX_w5 : Hid (OwnOU w5 w4.heap.size w5.heap.size (some ⟨w4.heap.size, 0, none⟩) T.length T.length T) := ho.up
            have HS5 : Hid (w4.heap.size ≤ w5.heap.size) := hb.size
            clear ho hb
            obtain ⟨c0, c1, hB⟩ := HBX.out w5 HA_w5.out
            go_wp2_with fail
            refine (HTC.out w5 hB).mono ?_
            rintro e w6 ⟨T6, G6, rfl, hl, hT6, hb6⟩
            obtain ⟨U6, hli, hlp⟩ := hl
            obtain ⟨xo, exo⟩ : ∃ xo : Obj, xo = .cells #[.slice (some ⟨T6, 0, none⟩) np np, .slice (some ⟨G6, 0, none⟩) ng ng] 52 := ⟨_, rfl⟩
            have HXO : Hid (xo = .cells #[.slice (some ⟨T6, 0, none⟩) np np, .slice (some ⟨G6, 0, none⟩) ng ng] 52) := exo
            obtain ⟨w7, ew7⟩ : ∃ W, W = w6.alloc xo := ⟨_, rfl⟩
            have hAx : Below w6.heap.size w6 w7 := by rw [ew7]; exact (Below.refl _ _).alloc (Nat.le_refl _) _
            have HE7 : Hid (w6.alloc xo = w7) := ew7.symm
            have hb : Below w5.heap.size w5 w7 := Below.on hb6 hAx
            have HU6 : Hid (U6 ≤ w6.heap.size ∧ w5.heap.size ≤ T6 ∧ T6 < U6 ∧ w6.heap.size < w7.heap.size ∧ T6 < G6) := by
              obtain ⟨_, _, _, _, _, a1, a2⟩ := hli
              obtain ⟨_, _, _, _, _, b1, b2⟩ := hlp
              exact ⟨b2, hT6, by omega, by rw [ew7]; simp, a1⟩
            have HA_w7 : Hid (Below (w.alloc bx).heap.size (w.alloc bx) w7) := Below.on HA_w5.out hb
            have HB_w7 : Hid (Below w4.heap.size w4 w7) := Below.on HB_w5.out hb
            have HX_w7 : Hid (OwnOU w7 w4.heap.size w5.heap.size (some ⟨w4.heap.size, 0, none⟩) T.length T.length T) := HX_w5.out.below hb
            have HY_w7 : Hid (IvU w7 T6 G6 xs.length xs) := hli.on hAx
            have HV_w7 : Hid (PvU w7 G6 U6 vs.length vs) := hlp.on hAx
            have HK_w7 : Hid (w7.heap[w6.heap.size]? = some xo) := by show _ = _; rw [ew7]; exact heap_alloc_new w6 xo
            clear hli hlp hT6 hb6 exo ew7 hAx hb c0 c1 hB
            go_wp2_with fail
            rw [← HXO.out, HE7.out]
            refine (HIM.out _ _ _ w7 (HBX.out _ HA_w7.out).2.2 HX_w7.out.toO.oin (HY_w7.out.lies rfl)).mono ?_
            rintro e w8 ⟨p8, n8, c8, rfl, ho, hb⟩
            have HA_w8 : Hid (Below (w.alloc bx).heap.size (w.alloc bx) w8) := Below.on HA_w7.out hb
            have HB_w8 : Hid (Below w4.heap.size w4 w8) := Below.on HB_w7.out hb
            have HX_w8 : Hid (OwnOU w8 w4.heap.size w5.heap.size (some ⟨w4.heap.size, 0, none⟩) T.length T.length T) := HX_w7.out.below hb
            have HY_w8 : Hid (IvU w8 T6 G6 xs.length xs) := HY_w7.out.on hb
            have HV_w8 : Hid (PvU w8 G6 U6 vs.length vs) := HV_w7.out.on hb
            have HK_w8 : Hid (w8.heap[w6.heap.size]? = some xo) := blk_on HK_w7.out hb
            have HG_w8 : Hid (OwnT w8 w7.heap.size p8 n8 c8 R) := ho
            have HN8 : Hid (n8 = R.length) := ho.1
            clear ho hb
            go_wp2_with fail
            refine (eqB_same p8 pw4 c8 cw4 _ _ R w8 (by have := HZL.out; omega) HN8.out HZ.out.2 (HG_w8.out.bin) (HZ.out.1.below HB_w8.out)).mono ?_
            rintro e w9 ⟨rfl, hb⟩
            have HA_w9 : Hid (Below (w.alloc bx).heap.size (w.alloc bx) w9) := Below.on HA_w8.out hb
            have HB_w9 : Hid (Below w4.heap.size w4 w9) := Below.on HB_w8.out hb
            have HX_w9 : Hid (OwnOU w9 w4.heap.size w5.heap.size (some ⟨w4.heap.size, 0, none⟩) T.length T.length T) := HX_w8.out.below hb
            have HY_w9 : Hid (IvU w9 T6 G6 xs.length xs) := HY_w8.out.on hb
            have HV_w9 : Hid (PvU w9 G6 U6 vs.length vs) := HV_w8.out.on hb
            have HK_w9 : Hid (w9.heap[w6.heap.size]? = some xo) := blk_on HK_w8.out hb
            have HG_w9 : Hid (OwnT w9 w7.heap.size p8 n8 c8 R) := HG_w8.out.below hb
            clear hb
            go_wp2_with fail
            refine (toOpS_any po co T w9 hn (HI.out.below (HBX.out _ HA_w9.out).2.2).lies).mono ?_
            rintro e w10 ⟨rfl, ho, hb⟩
            have HA_w10 : Hid (Below (w.alloc bx).heap.size (w.alloc bx) w10) := Below.on HA_w9.out hb
            have HB_w10 : Hid (Below w4.heap.size w4 w10) := Below.on HB_w9.out hb
            have HX_w10 : Hid (OwnOU w10 w4.heap.size w5.heap.size (some ⟨w4.heap.size, 0, none⟩) T.length T.length T) := HX_w9.out.below hb
            have HY_w10 : Hid (IvU w10 T6 G6 xs.length xs) := HY_w9.out.on hb
            have HV_w10 : Hid (PvU w10 G6 U6 vs.length vs) := HV_w9.out.on hb
            have HK_w10 : Hid (w10.heap[w6.heap.size]? = some xo) := blk_on HK_w9.out hb
            have HG_w10 : Hid (OwnT w10 w7.heap.size p8 n8 c8 R) := HG_w9.out.below hb
            have HP_w10 : Hid (OIn w10 (some ⟨w9.heap.size, 0, none⟩) T) := ho.oin
            clear ho hb
            go_wp2_with fail
            refine (eqOpS_any _ _ _ _ T T w10 (by omega) (by omega) HX_w10.out.toO.oin HP_w10.out).mono ?_
            rintro e w11 ⟨rfl, hb⟩
            have HA_w11 : Hid (Below (w.alloc bx).heap.size (w.alloc bx) w11) := Below.on HA_w10.out hb
            have HB_w11 : Hid (Below w4.heap.size w4 w11) := Below.on HB_w10.out hb
            have HX_w11 : Hid (OwnOU w11 w4.heap.size w5.heap.size (some ⟨w4.heap.size, 0, none⟩) T.length T.length T) := HX_w10.out.below hb
            have HY_w11 : Hid (IvU w11 T6 G6 xs.length xs) := HY_w10.out.on hb
            have HV_w11 : Hid (PvU w11 G6 U6 vs.length vs) := HV_w10.out.on hb
            have HK_w11 : Hid (w11.heap[w6.heap.size]? = some xo) := blk_on HK_w10.out hb
            have HG_w11 : Hid (OwnT w11 w7.heap.size p8 n8 c8 R) := HG_w10.out.below hb
            have HP_w11 : Hid (OIn w11 (some ⟨w9.heap.size, 0, none⟩) T) := HP_w10.out.below hb
            have ht : decide (T = T) = true := by simp
            rw [ht]
            clear ht hb
            obtain ⟨wd2, eD⟩ : ∃ Wd, Wd = World.drew w11 := ⟨_, rfl⟩
            have hb : Below w11.heap.size w11 wd2 := by rw [eD]; exact (Below.refl _ _).drew
            have HDe_wd2 : Hid (World.drew w11 = wd2) := eD.symm
            have HA_wd2 : Hid (Below (w.alloc bx).heap.size (w.alloc bx) wd2) := Below.on HA_w11.out hb
            have HB_wd2 : Hid (Below w4.heap.size w4 wd2) := Below.on HB_w11.out hb
            have HX_wd2 : Hid (OwnOU wd2 w4.heap.size w5.heap.size (some ⟨w4.heap.size, 0, none⟩) T.length T.length T) := HX_w11.out.below hb
            have HY_wd2 : Hid (IvU wd2 T6 G6 xs.length xs) := HY_w11.out.on hb
            have HV_wd2 : Hid (PvU wd2 G6 U6 vs.length vs) := HV_w11.out.on hb
            have HK_wd2 : Hid (wd2.heap[w6.heap.size]? = some xo) := blk_on HK_w11.out hb
            have HG_wd2 : Hid (OwnT wd2 w7.heap.size p8 n8 c8 R) := HG_w11.out.below hb
            clear hb eD
            have hS0 := (show (fun W => (W.cell? ⟨w6.heap.size, 0, none⟩ = some (.slice (some ⟨T6, 0, none⟩) np np) ∧ W.cell? ⟨w6.heap.size, 1, none⟩ = some (.slice (some ⟨G6, 0, none⟩) ng ng)) ∧ (W.cell? ⟨w.heap.size, 0, none⟩ = some (.slice p np cp) ∧ W.cell? ⟨w.heap.size, 1, none⟩ = some (.slice g ng cg))) wd2 from ⟨blk_two HK_wd2.out HXO.out, (HBX.out _ HA_wd2.out).1, (HBX.out _ HA_wd2.out).2.1⟩)
            go_wp2_with fail
            refine wp_region_held_drew (S := (fun W => (W.cell? ⟨w6.heap.size, 0, none⟩ = some (.slice (some ⟨T6, 0, none⟩) np np) ∧ W.cell? ⟨w6.heap.size, 1, none⟩ = some (.slice (some ⟨G6, 0, none⟩) ng ng)) ∧ (W.cell? ⟨w.heap.size, 0, none⟩ = some (.slice p np cp) ∧ W.cell? ⟨w.heap.size, 1, none⟩ = some (.slice g ng cg)))) (by kernel_rfl) ?_ (fun hHeld => ?_)
            · rw [HDe_wd2.out]; exact hS0
            rw [HDe_wd2.out]
            refine hTake (i := 0) (v := .agg #[.slice (some ⟨T6, 0, none⟩) np np, .slice (some ⟨G6, 0, none⟩) ng ng]) (some 45) (by kernel_rfl) (by kernel_rfl) (by kernel_rfl) (by kernel_rfl) (by kernel_rfl) (fun _ _ _ h => h) (fun o ho W hSw => ?y400) (by assumption) ?_
            case y400 =>
              cases ho
              obtain ⟨⟨k0, k1⟩, k2, k3⟩ := hSw
              simp [execOp, go_sem, Act.eval, k0, k1]
            simp only [Act.put, zzA, zzB, zzC]
            refine hTake (i := 1) (v := .agg #[.slice p np cp, .slice g ng cg]) (some 46) (by kernel_rfl) (by kernel_rfl) (by kernel_rfl) (by kernel_rfl) (by kernel_rfl) (fun _ _ _ h => h) (fun o ho W hSw => ?y401) (by assumption) ?_
            case y401 =>
              cases ho
              obtain ⟨⟨k0, k1⟩, k2, k3⟩ := hSw
              simp [execOp, go_sem, Act.eval, k2, k3]
            simp only [Act.put, zzA, zzB, zzC]
            refine hCallE (i := 2) (f := 24) (args := #[.agg #[.slice p np cp, .slice g ng cg]]) (some 47) (by kernel_rfl) (by kernel_rfl) (by kernel_rfl) (fun o ho => ?c420) (HTC.out wd2 (HBX.out _ HA_wd2.out).2.2) ?k420 (fun ch w' hh => by obtain ⟨_, _, h, _⟩ := hh; cases h) (fun w' hh => by obtain ⟨_, _, h, _⟩ := hh; cases h)
            case c420 =>
              cases ho
              simp [execOp, go_sem, Act.eval]
            case k420 =>
              rintro u w12 ⟨T12, G12, hu, hl, htc, hb⟩
              injection hu with hu
              subst hu
              have HA_w12 : Hid (Below (w.alloc bx).heap.size (w.alloc bx) w12) := Below.on HA_wd2.out hb
              have HB_w12 : Hid (Below w4.heap.size w4 w12) := Below.on HB_wd2.out hb
              have HX_w12 : Hid (OwnOU w12 w4.heap.size w5.heap.size (some ⟨w4.heap.size, 0, none⟩) T.length T.length T) := HX_wd2.out.below hb
              have HY_w12 : Hid (IvU w12 T6 G6 xs.length xs) := HY_wd2.out.on hb
              have HV_w12 : Hid (PvU w12 G6 U6 vs.length vs) := HV_wd2.out.on hb
              have HK_w12 : Hid (w12.heap[w6.heap.size]? = some xo) := blk_on HK_wd2.out hb
              have HG_w12 : Hid (OwnT w12 w7.heap.size p8 n8 c8 R) := HG_wd2.out.below hb
              obtain ⟨Ux, hli, hlp⟩ := hl
              have HQ_w12 : Hid (IvIn w12 (some ⟨T12, 0, none⟩) xs) := hli.lies rfl
              have HR_w12 : Hid (PvIn w12 (some ⟨G12, 0, none⟩) vs) := hlp.lies rfl
              have hS12 := (show (fun W => (W.cell? ⟨w6.heap.size, 0, none⟩ = some (.slice (some ⟨T6, 0, none⟩) np np) ∧ W.cell? ⟨w6.heap.size, 1, none⟩ = some (.slice (some ⟨G6, 0, none⟩) ng ng)) ∧ (W.cell? ⟨w.heap.size, 0, none⟩ = some (.slice p np cp) ∧ W.cell? ⟨w.heap.size, 1, none⟩ = some (.slice g ng cg))) w12 from ⟨blk_two HK_w12.out HXO.out, (HBX.out _ HA_w12.out).1, (HBX.out _ HA_w12.out).2.1⟩)
              refine ⟨hS12, ?_⟩
              clear hli hlp htc hb
              simp only [Act.put, zzA, zzB, zzC]
              refine hCallE (i := 3) (f := 26) (args := #[.agg #[.slice (some ⟨T6, 0, none⟩) np np, .slice (some ⟨G6, 0, none⟩) ng ng], .agg #[.slice (some ⟨T12, 0, none⟩) np np, .slice (some ⟨G12, 0, none⟩) ng ng]]) (some 48) (by kernel_rfl) (by kernel_rfl) (by kernel_rfl) (fun o ho => ?c440) (eqCode_any xs vs _ _ np np np _ _ ng ng ng w12 HNL.out.1 HNL.out.2.1 (by have := HNL.out.2.2; omega) (HY_w12.out.lies rfl) HQ_w12.out (HV_w12.out.lies rfl) HR_w12.out) ?k440 (fun ch w' hh => by cases hh.1) (fun w' hh => by cases hh.1)
              case c440 =>
                cases ho
                simp [execOp, go_sem, Act.eval]
              case k440 =>
                rintro u w13 ⟨hu, hb⟩
                injection hu with hu
                subst hu
                have HA_w13 : Hid (Below (w.alloc bx).heap.size (w.alloc bx) w13) := Below.on HA_w12.out hb
                have HB_w13 : Hid (Below w4.heap.size w4 w13) := Below.on HB_w12.out hb
                have HX_w13 : Hid (OwnOU w13 w4.heap.size w5.heap.size (some ⟨w4.heap.size, 0, none⟩) T.length T.length T) := HX_w12.out.below hb
                have HY_w13 : Hid (IvU w13 T6 G6 xs.length xs) := HY_w12.out.on hb
                have HV_w13 : Hid (PvU w13 G6 U6 vs.length vs) := HV_w12.out.on hb
                have HK_w13 : Hid (w13.heap[w6.heap.size]? = some xo) := blk_on HK_w12.out hb
                have HG_w13 : Hid (OwnT w13 w7.heap.size p8 n8 c8 R) := HG_w12.out.below hb
                have hS13 := (show (fun W => (W.cell? ⟨w6.heap.size, 0, none⟩ = some (.slice (some ⟨T6, 0, none⟩) np np) ∧ W.cell? ⟨w6.heap.size, 1, none⟩ = some (.slice (some ⟨G6, 0, none⟩) ng ng)) ∧ (W.cell? ⟨w.heap.size, 0, none⟩ = some (.slice p np cp) ∧ W.cell? ⟨w.heap.size, 1, none⟩ = some (.slice g ng cg))) w13 from ⟨blk_two HK_w13.out HXO.out, (HBX.out _ HA_w13.out).1, (HBX.out _ HA_w13.out).2.1⟩)
                refine ⟨hS13, ?_⟩
                clear hb
                simp only [Act.put, zzA, zzB, zzC]
                refine hTake (i := 4) (v := .bool false) (some 49) (by kernel_rfl) (by kernel_rfl) (by kernel_rfl) (by kernel_rfl) (by kernel_rfl) (fun _ _ _ h => h) (fun o ho W hSw => ?y460) (by assumption) ?_
                case y460 =>
                  cases ho
                  simp [execOp, go_sem, Act.eval]
                simp only [Act.put, zzA, zzB, zzC]
                refine wpAnyH_done (by kernel_rfl) ?_ _
                change Exit.then _ _ _ _ w13
                clear hS0 hS12 hS13
                go_wp2_with fail
                refine (markOps_any w4.heap.size w5.heap.size _ _ _ 1 T w13 (by decide) (by decide) (by omega) HX_w13.out).mono ?_
                rintro e w14 ⟨rfl, ho, hk⟩
                have HA_w14 : Hid (Below (w.alloc bx).heap.size (w.alloc bx) w14) := HA_w13.out.trans (hk.below HA_w4.out.size HA_w13.out.size)
                have HB_w14 : Hid (Below w4.heap.size w4 w14) := HB_w13.out.trans (hk.below (Nat.le_refl _) HB_w13.out.size)
                have HY_w14 : Hid (IvU w14 T6 G6 xs.length xs) := HY_w13.out.keep hk (.inr HU6.out.2.1)
                have HV_w14 : Hid (PvU w14 G6 U6 vs.length vs) := HV_w13.out.keep hk (.inr (by have := HU6.out; omega))
                have HK_w14 : Hid (w14.heap[w6.heap.size]? = some xo) := blk_keep HK_w13.out hk (.inr (by have := HU6.out; omega))
                have HG_w14 : Hid (OwnT w14 w7.heap.size p8 n8 c8 R) := HG_w13.out.keepU hk (by have := HU6.out; omega)
                obtain ⟨k1, ek1⟩ : ∃ k, k = endO 1 T := ⟨_, rfl⟩
                have hk1 : 0 ≤ k1 ∧ k1 ≤ 4000000 := by rw [ek1, endO_eq]; omega
                rw [← ek1]
                clear ek1 ho hk
                obtain ⟨c0, c1⟩ := blk_two HK_w14.out HXO.out
                go_wp2_with fail
                refine (markCode_any T6 G6 U6 k1 xs vs np ng w14 hk1.1 hk1.2 HNL.out.1 HNL.out.2.1 HNL.out.2.2 HY_w14.out HV_w14.out).mono ?_
                rintro e w15 ⟨k2, rfl, hk2, hk⟩
                have HA_w15 : Hid (Below (w.alloc bx).heap.size (w.alloc bx) w15) := HA_w14.out.trans (hk.below (Nat.le_trans HA_w5.out.size HU6.out.2.1) HA_w14.out.size)
                have HB_w15 : Hid (Below w4.heap.size w4 w15) := HB_w14.out.trans (hk.below (Nat.le_trans HB_w5.out.size HU6.out.2.1) HB_w14.out.size)
                have HG_w15 : Hid (OwnT w15 w7.heap.size p8 n8 c8 R) := HG_w14.out.keepU hk (by have := HU6.out; omega)
                have hk3 : ¬ k2 < 0 := by omega
                clear hk c0 c1 hk1 hk2
                go_wp2_with fail
                refine (eqB_same p8 pw4 c8 cw4 _ _ R w15 (by have := HZL.out; omega) HN8.out HZ.out.2 (HG_w15.out.bin) (HZ.out.1.below HB_w15.out)).mono ?_
                rintro e w16 ⟨rfl, hb⟩
                have HA_w16 : Hid (Below (w.alloc bx).heap.size (w.alloc bx) w16) := Below.on HA_w15.out hb
                have HB_w16 : Hid (Below w4.heap.size w4 w16) := Below.on HB_w15.out hb
                have HG_w16 : Hid (OwnT w16 w7.heap.size p8 n8 c8 R) := HG_w15.out.below hb
                clear hb
                go_wp2_with fail
                refine (markTB_any w7.heap.size p8 n8 c8 1 R w16 (by decide) (by decide) (by have := HZL.out; have := HN8.out; omega) HG_w16.out).mono ?_
                rintro e w17 ⟨rfl, ho, hg⟩
                have hk : Keep w7.heap.size w16.heap.size w16 w17 := Keep.of_grown hg (fun k e => (HG_w16.out.tb e).2)
                have HA_w17 : Hid (Below (w.alloc bx).heap.size (w.alloc bx) w17) := HA_w16.out.trans (hk.below HA_w7.out.size HA_w16.out.size)
                have HB_w17 : Hid (Below w4.heap.size w4 w17) := HB_w16.out.trans (hk.below HB_w7.out.size HB_w16.out.size)
                have HM_w17 : Hid (BIn w17 p8 (marks 1 n8)) := ho.bin
                obtain ⟨mm, emm⟩ : ∃ mm : Int, mm = 1 + (n8 : Nat) := ⟨_, rfl⟩
                have hmm : ¬ mm < 0 := by rw [emm]; omega
                have HMM : Hid (mm = 1 + (n8 : Nat)) := emm
                rw [← emm]
                clear emm ho hk hg
                go_wp2_with fail
                refine (heldB_any p8 n8 c8 1 w17 (by decide) (by decide) (by have := HZL.out; have := HN8.out; omega) HM_w17.out).mono ?_
                rintro e wh ⟨rfl, hwh⟩
                rw [hwh, ← HMM.out]
                clear hwh
                obtain ⟨wd3, eD⟩ : ∃ Wd, Wd = World.drew w17 := ⟨_, rfl⟩
                have hb : Below w17.heap.size w17 wd3 := by rw [eD]; exact (Below.refl _ _).drew
                have HDe_wd3 : Hid (World.drew w17 = wd3) := eD.symm
                have HA_wd3 : Hid (Below (w.alloc bx).heap.size (w.alloc bx) wd3) := Below.on HA_w17.out hb
                have HB_wd3 : Hid (Below w4.heap.size w4 wd3) := Below.on HB_w17.out hb
                have HM_wd3 : Hid (BIn wd3 p8 (marks 1 n8)) := HM_w17.out.below hb
                clear hb eD
                have hS0 := (show (fun W => W.cell? ⟨w.heap.size, 0, none⟩ = some (.slice p np cp) ∧ W.cell? ⟨w.heap.size, 1, none⟩ = some (.slice g ng cg)) wd3 from ⟨(HBX.out _ HA_wd3.out).1, (HBX.out _ HA_wd3.out).2.1⟩)
                go_wp2_with fail
                refine wp_region_held_drew (S := (fun W => W.cell? ⟨w.heap.size, 0, none⟩ = some (.slice p np cp) ∧ W.cell? ⟨w.heap.size, 1, none⟩ = some (.slice g ng cg))) (by kernel_rfl) ?_ (fun hHeld => ?_)
                · rw [HDe_wd3.out]; exact hS0
                rw [HDe_wd3.out]
                refine hTake (i := 0) (v := .slice po T.length co) (some 75) (by kernel_rfl) (by kernel_rfl) (by kernel_rfl) (by kernel_rfl) (by kernel_rfl) (fun _ _ _ h => h) (fun o ho W hSw => ?y0) (by assumption) ?_
                case y0 =>
                  cases ho
                  simp [execOp, go_sem, Act.eval]
                simp only [Act.put, zzA, zzB, zzC]
                refine hTake (i := 2) (v := .agg #[.slice p np cp, .slice g ng cg]) (some 77) (by kernel_rfl) (by kernel_rfl) (by kernel_rfl) (by kernel_rfl) (by kernel_rfl) (fun _ _ _ h => h) (fun o ho W hSw => ?y1) (by assumption) ?_
                case y1 =>
                  cases ho
                  obtain ⟨k0, k1⟩ := hSw
                  simp [execOp, go_sem, Act.eval, k0, k1]
                simp only [Act.put, zzA, zzB, zzC]
                refine hCallE (i := 1) (f := 9) (args := #[.slice po T.length co]) (some 76) (by kernel_rfl) (by kernel_rfl) (by kernel_rfl) (fun o ho => ?c151) (toOpS_any po co T wd3 hn (HI.out.below (HBX.out _ HA_wd3.out).2.2).lies) ?k151 (fun ch w' hh => by cases hh.1) (fun w' hh => by cases hh.1)
                case c151 =>
                  cases ho
                  simp [execOp, go_sem, Act.eval]
                case k151 =>
                  rintro u w18 ⟨hu, ho, hb⟩
                  injection hu with hu
                  subst hu
                  have HA_w18 : Hid (Below (w.alloc bx).heap.size (w.alloc bx) w18) := Below.on HA_wd3.out hb
                  have HB_w18 : Hid (Below w4.heap.size w4 w18) := Below.on HB_wd3.out hb
                  have HM_w18 : Hid (BIn w18 p8 (marks 1 n8)) := HM_wd3.out.below hb
                  have HP_w18 : Hid (OIn w18 (some ⟨wd3.heap.size, 0, none⟩) T) := ho.oin
                  have hSa : (fun W => W.cell? ⟨w.heap.size, 0, none⟩ = some (.slice p np cp) ∧ W.cell? ⟨w.heap.size, 1, none⟩ = some (.slice g ng cg)) w18 := ⟨(HBX.out _ HA_w18.out).1, (HBX.out _ HA_w18.out).2.1⟩
                  refine ⟨hSa, ?_⟩
                  clear ho hb
                  simp only [Act.put, zzA, zzB, zzC]
                  refine hCallE (i := 3) (f := 24) (args := #[.agg #[.slice p np cp, .slice g ng cg]]) (some 78) (by kernel_rfl) (by kernel_rfl) (by kernel_rfl) (fun o ho => ?c153) (HTC.out w18 (HBX.out _ HA_w18.out).2.2) ?k153 (fun ch w' hh => by obtain ⟨_, _, h, _⟩ := hh; cases h) (fun w' hh => by obtain ⟨_, _, h, _⟩ := hh; cases h)
                  case c153 =>
                    cases ho
                    simp [execOp, go_sem, Act.eval]
                  case k153 =>
                    rintro u w19 ⟨Tw19, Gw19, hu, hl, htc, hb⟩
                    injection hu with hu
                    subst hu
                    have HA_w19 : Hid (Below (w.alloc bx).heap.size (w.alloc bx) w19) := Below.on HA_w18.out hb
                    have HB_w19 : Hid (Below w4.heap.size w4 w19) := Below.on HB_w18.out hb
                    have HM_w19 : Hid (BIn w19 p8 (marks 1 n8)) := HM_w18.out.below hb
                    have HP_w19 : Hid (OIn w19 (some ⟨wd3.heap.size, 0, none⟩) T) := HP_w18.out.below hb
                    obtain ⟨Ux, hli, hlp⟩ := hl
                    have HQ_w19 : Hid (IvIn w19 (some ⟨Tw19, 0, none⟩) xs) := hli.lies rfl
                    have hSb : (fun W => W.cell? ⟨w.heap.size, 0, none⟩ = some (.slice p np cp) ∧ W.cell? ⟨w.heap.size, 1, none⟩ = some (.slice g ng cg)) w19 := ⟨(HBX.out _ HA_w19.out).1, (HBX.out _ HA_w19.out).2.1⟩
                    refine ⟨hSb, ?_⟩
                    clear hli hlp htc hb
                    simp only [Act.put, zzA, zzB, zzC]
                    refine hCallE (i := 4) (f := 25) (args := #[.slice (some ⟨wd3.heap.size, 0, none⟩) T.length T.length, .agg #[.slice (some ⟨Tw19, 0, none⟩) np np, .slice (some ⟨Gw19, 0, none⟩) ng ng]]) (some 79) (by kernel_rfl) (by kernel_rfl) (by kernel_rfl) (fun o ho => ?c154) (HIM.out _ _ _ w19 (HBX.out _ HA_w19.out).2.2 HP_w19.out HQ_w19.out) ?k154 (fun ch w' hh => by obtain ⟨_, _, _, h, _⟩ := hh; cases h) (fun w' hh => by obtain ⟨_, _, _, h, _⟩ := hh; cases h)
                    case c154 =>
                      cases ho
                      simp [execOp, go_sem, Act.eval]
                    case k154 =>
                      rintro u w20 ⟨pw20, nw20, cw20, hu, ho, hb⟩
                      injection hu with hu
                      subst hu
                      have HA_w20 : Hid (Below (w.alloc bx).heap.size (w.alloc bx) w20) := Below.on HA_w19.out hb
                      have HB_w20 : Hid (Below w4.heap.size w4 w20) := Below.on HB_w19.out hb
                      have HM_w20 : Hid (BIn w20 p8 (marks 1 n8)) := HM_w19.out.below hb
                      have HP_w20 : Hid (OIn w20 (some ⟨wd3.heap.size, 0, none⟩) T) := HP_w19.out.below hb
                      have HQ_w20 : Hid (IvIn w20 (some ⟨Tw19, 0, none⟩) xs) := HQ_w19.out.below hb
                      have hSc : (fun W => W.cell? ⟨w.heap.size, 0, none⟩ = some (.slice p np cp) ∧ W.cell? ⟨w.heap.size, 1, none⟩ = some (.slice g ng cg)) w20 := ⟨(HBX.out _ HA_w20.out).1, (HBX.out _ HA_w20.out).2.1⟩
                      have HZ_w20 : Hid (OwnT w20 w19.heap.size pw20 nw20 cw20 R) := ho
                      refine ⟨hSc, ?_⟩
                      clear ho hb
                      simp only [Act.put, zzA, zzB, zzC]
                      refine hTake (i := 5) (v := .slice pw20 nw20 cw20) (some 13) (by kernel_rfl) (by kernel_rfl) (by kernel_rfl) (by kernel_rfl) (by kernel_rfl) (fun _ _ _ h => h) (fun o ho W hSw => ?y350) (by assumption) ?_
                      case y350 =>
                        cases ho
                        simp [execOp, go_sem, Act.eval]
                      simp only [Act.put, zzA, zzB, zzC]
                      refine wpAnyH_done (by kernel_rfl) ?_ _
                      change Exit.then _ _ _ _ w20
                      clear hS0 hSa hSb hSc
                      go_wp2_with fail
                      refine (eqB_same pw20 pw4 cw20 cw4 _ _ R w20 (by have := HZL.out; omega) HZ_w20.out.1 HZ.out.2 (HZ_w20.out.bin) (HZ.out.1.below HB_w20.out)).mono ?_
                      rintro e w21 ⟨rfl, hb⟩
                      have HA_w21 : Hid (Below (w.alloc bx).heap.size (w.alloc bx) w21) := Below.on HA_w20.out hb
                      have HB_w21 : Hid (Below w4.heap.size w4 w21) := Below.on HB_w20.out hb
                      have HM_w21 : Hid (BIn w21 p8 (marks 1 n8)) := HM_w20.out.below hb
                      clear hb
                      go_wp2_with fail
                      refine (heldB_any p8 n8 c8 1 w21 (by decide) (by decide) (by have := HZL.out; have := HN8.out; omega) HM_w21.out).mono ?_
                      rintro e wh ⟨rfl, hwh⟩
                      rw [hwh, ← HMM.out]
                      clear hwh
                      go_wp2_with fail
                      go_ret
                      exact ⟨rfl, (HBX.out _ HA_w21.out).2.2⟩
    · have er2 : szR r (szK xs vs) = -1 := by rw [szR, if_neg hs]
      have HS2 : Hid (∀ W, Below w.heap.size w W → Calls Tryz.prog 22 #[.agg #[.slice p np cp, .slice g ng cg], .int .i64 r] W fun e w' => e = .returned (.int .i64 (-1)) ∧ Below W.heap.size W w') := fun W hW => by have := HSC.out r W hr hW; rw [er2] at this; exact this
      clear er2 hs hr enp eng hlen1 HSC HTP
      go_enter Tryz.func4, Tryz.ntmps4
      go_wp2_with fail
      rw [← HEB.out]
      refine HS.mono ?_
      rintro e w0 ⟨rfl, hb⟩
      have HA0 : Hid (Below (w.alloc bx).heap.size (w.alloc bx) w0) := hb
      obtain ⟨c0, c1, hB⟩ := HBX.out w0 hb
      clear hb HS
      go_wp2_with fail
      refine (HS2.out w0 hB).mono ?_
      rintro e w1 ⟨rfl, hb⟩
      have HA1 : Hid (Below (w.alloc bx).heap.size (w.alloc bx) w1) := Below.on HA0.out hb
      clear hb c0 c1 hB HS2
      go_wp2_with fail
      go_ret
      exact ⟨rfl, (HBX.out _ HA1.out).2.2⟩
  · have er : szR 1048576 (T.length + tl T) = -1 := by rw [szR, if_neg hn]
    rw [er] at HS
    clear er HTP HSC enp eng hlen1
    go_enter Tryz.func4, Tryz.ntmps4
    go_wp2_with fail
    rw [← HEB.out]
    refine HS.mono ?_
    rintro e w0 ⟨rfl, hb⟩
    have HA0 : Hid (Below (w.alloc bx).heap.size (w.alloc bx) w0) := hb
    clear hb HS
    go_wp2_with fail
    go_ret
    exact ⟨rfl, (HBX.out _ HA0.out).2.2⟩
end Go.Proofs.YtjhbplgppakhoaaGreatDoor

namespace Go.Proofs.YtjhbplgppakhoaaGreatDoor
open Go Go.ChangeShapes Go.WideShapes Go.ChangeAt Go.WideMaps Go.WideElems Go.RowKit Go.Deep
theorem cellsCellS : Tryz.prog.cellsOf 23 = 1 := by kernel_rfl
theorem cellsIntS : Tryz.prog.cellsOf 91 = 1 := by kernel_rfl
theorem openedNums {H : Type} {enc : TypeId × Value → H} {W : World} {fuel : Nat} {v : Value} {x : DataW H × List MemPlace}
    (h : DataW.trod enc Tryz.prog W 0 (fun _ => true) true fuel 91 [v] = some x) :
    ∃ (p : Option Addr) (cap : Nat) (xs : List Int), v = .slice p xs.length cap ∧ IArg W p xs := by
  rcases open_ints Tryz.underlying91 Tryz.underlying3 cellsInt h with ⟨hcs, hx⟩ | ⟨a, len', cap', zs, hcs, _, hl, hm, hz, hx, hcell, hwz⟩
  · obtain rfl : v = .slice none 0 0 := by simpa using hcs
    exact ⟨none, 0, [], rfl, fun h => absurd h (Nat.lt_irrefl 0), by decide⟩
  · obtain rfl : v = .slice (some a) len' cap' := by simpa using hcs
    simp only [if_true] at hz
    unfold maxLen at hm
    refine ⟨some a, cap', zs.take len', by congr 1; simp; omega, fun hn => ?_, by simp; omega⟩
    have hn' : 0 < zs.length := by simp at hn; omega
    obtain ⟨b, o, s⟩ := a
    obtain rfl : s = none := by simpa [Addr.add] using World.cell?_spot (hcell 0 hn')
    refine ⟨b, o, rfl, fun i hi => ?_⟩
    have hi' : i < len' := by simp at hi; omega
    have := hcell i (by omega)
    rw [add_plain] at this
    rw [this]
    simp [List.getD, hi']
theorem openedCellsV {H : Type} {enc : TypeId × Value → H} {W : World} {fuel : Nat} {v : Value} {x : DataW H × List MemPlace}
    (h : DataW.trod enc Tryz.prog W 0 (fun _ => true) true fuel 23 [v] = some x) :
    ∃ (p : Option Addr) (cap : Nat) (xs : List Cel), v = .slice p xs.length cap ∧ CArg W p xs := by
  have hv : ∃ a len cap, v = .slice a len cap := by
    rcases open_slice Tryz.underlying23 h with ⟨hcs, _⟩ | ⟨a, len', cap', _, _, _, _, hcs, _⟩
    · exact ⟨none, 0, 0, by simpa using hcs⟩
    · exact ⟨some a, len', cap', by simpa using hcs⟩
  obtain ⟨a, len, cap, rfl⟩ := hv
  obtain ⟨d, p⟩ := x
  obtain ⟨cs, rfl, hin⟩ := openedCells (a0 := a) (len := len) (cap := cap) (d0 := d) (p := p) ⟨fuel, h⟩
  exact ⟨a, cap, cs, rfl, hin⟩
end Go.Proofs.YtjhbplgppakhoaaGreatDoor

namespace Go.Proofs.YtjhbplgppakhoaaGreatDoor
open Go Go.ChangeShapes Go.WideShapes Go.ChangeAt Go.WideMaps Go.WideElems Go.RowKit Go.Deep
set_option linter.unusedVariables false
theorem cellsBoolC : Tryz.prog.cellsOf 4 = 1 := by kernel_rfl
theorem cellsIns : Tryz.prog.cellsOf 137 = 8 := by kernel_rfl
theorem cellsProc : Tryz.prog.cellsOf 140 = 5 := by kernel_rfl
theorem cellsCode : Tryz.prog.cellsOf 46 = 2 := by kernel_rfl
theorem cellsInsS : Tryz.prog.cellsOf 43 = 1 := by kernel_rfl
theorem cellsProcS : Tryz.prog.cellsOf 44 = 1 := by kernel_rfl
theorem trod_struct5 {H : Type} {enc : TypeId × Value → H} {P : Program} {w : World} {base : Nat} {spare : TypeId → Bool} {held : Bool} {t : TypeId} {f0 f1 f2 f3 f4 : Field} {fuel : Nat} {cs : List Value} {x : DataW H × List MemPlace} (ht : P.underlying t = some (.struct #[f0, f1, f2, f3, f4])) (h : DataW.trod enc P w base spare held fuel t cs = some x) :
    ∃ y0 y1 y2 y3 y4 n, cs.length = P.cellsOf t ∧ DataW.trod enc P w base spare held n f0.type ((cs.drop f0.offset).take (P.cellsOf f0.type)) = some y0 ∧
      DataW.trod enc P w base spare held n f1.type ((cs.drop f1.offset).take (P.cellsOf f1.type)) = some y1 ∧ DataW.trod enc P w base spare held n f2.type ((cs.drop f2.offset).take (P.cellsOf f2.type)) = some y2 ∧
      DataW.trod enc P w base spare held n f3.type ((cs.drop f3.offset).take (P.cellsOf f3.type)) = some y3 ∧ DataW.trod enc P w base spare held n f4.type ((cs.drop f4.offset).take (P.cellsOf f4.type)) = some y4 := by
  obtain ⟨xs, n, _, rfl, hl, hlen, hf⟩ := DataW.trod_struct ht h
  match xs, hlen with
  | [y0, y1, y2, y3, y4], _ => exact ⟨y0, y1, y2, y3, y4, n, hl, by simpa using hf 0 f0 rfl, by simpa using hf 1 f1 rfl, by simpa using hf 2 f2 rfl, by simpa using hf 3 f3 rfl, by simpa using hf 4 f4 rfl⟩
theorem trod_struct6 {H : Type} {enc : TypeId × Value → H} {P : Program} {w : World} {base : Nat} {spare : TypeId → Bool} {held : Bool} {t : TypeId} {f0 f1 f2 f3 f4 f5 : Field} {fuel : Nat} {cs : List Value} {x : DataW H × List MemPlace} (ht : P.underlying t = some (.struct #[f0, f1, f2, f3, f4, f5])) (h : DataW.trod enc P w base spare held fuel t cs = some x) :
    ∃ y0 y1 y2 y3 y4 y5 n, cs.length = P.cellsOf t ∧ DataW.trod enc P w base spare held n f0.type ((cs.drop f0.offset).take (P.cellsOf f0.type)) = some y0 ∧
      DataW.trod enc P w base spare held n f1.type ((cs.drop f1.offset).take (P.cellsOf f1.type)) = some y1 ∧ DataW.trod enc P w base spare held n f2.type ((cs.drop f2.offset).take (P.cellsOf f2.type)) = some y2 ∧
      DataW.trod enc P w base spare held n f3.type ((cs.drop f3.offset).take (P.cellsOf f3.type)) = some y3 ∧ DataW.trod enc P w base spare held n f4.type ((cs.drop f4.offset).take (P.cellsOf f4.type)) = some y4 ∧
      DataW.trod enc P w base spare held n f5.type ((cs.drop f5.offset).take (P.cellsOf f5.type)) = some y5 := by
  obtain ⟨xs, n, _, rfl, hl, hlen, hf⟩ := DataW.trod_struct ht h
  match xs, hlen with
  | [y0, y1, y2, y3, y4, y5], _ => exact ⟨y0, y1, y2, y3, y4, y5, n, hl, by simpa using hf 0 f0 rfl, by simpa using hf 1 f1 rfl, by simpa using hf 2 f2 rfl, by simpa using hf 3 f3 rfl, by simpa using hf 4 f4 rfl, by simpa using hf 5 f5 rfl⟩
theorem eight_of {cs : List Value} (h : cs.length = 8) : ∃ a b c d e f g i, cs = [a, b, c, d, e, f, g, i] := by
  match cs, h with
  | [a, b, c, d, e, f, g, i], _ => exact ⟨a, b, c, d, e, f, g, i, rfl⟩
theorem five_of {cs : List Value} (h : cs.length = 5) : ∃ a b c d e, cs = [a, b, c, d, e] := by
  match cs, h with
  | [a, b, c, d, e], _ => exact ⟨a, b, c, d, e, rfl⟩
theorem two_ofC {cs : List Value} (h : cs.length = 2) : ∃ a b, cs = [a, b] := by
  match cs, h with
  | [a, b], _ => exact ⟨a, b, rfl⟩
theorem wf_of {n : Int} (h1 : -9223372036854775808 ≤ n) (h2 : n ≤ 9223372036854775807) : (Lit.int .i64 n).wf = true := by
  have e1 : IntKind.i64.min = -9223372036854775808 := rfl
  have e2 : IntKind.i64.max = 9223372036854775807 := rfl
  simp only [Lit.wf, Bool.and_eq_true, decide_eq_true_eq]
  omega
theorem openedIns {H : Type} {enc : TypeId × Value → H} {W : World} {fuel : Nat} {cs : List Value} {x : DataW H × List MemPlace}
    (h : DataW.trod enc Tryz.prog W 0 (fun _ => true) true fuel 137 cs = some x) :
    ∃ (y : Iv) (q : Option Addr) (qc : Nat) (s : Option Addr) (sc : Nat) (u : Option Addr) (uc : Nat), cs = ivV y q qc s sc u uc ∧ (y.c.2.2.length ≤ 9223372036854775807 ∧ Byte y.c.2.2 ∧ BIn W q y.c.2.2) ∧ CArg W s y.K ∧ IArg W u y.L ∧
      ((Lit.int .i64 y.op).wf = true ∧ (Lit.int .i64 y.r).wf = true ∧ (Lit.int .i64 y.a).wf = true ∧ (Lit.int .i64 y.c.1).wf = true ∧ (Lit.int .i64 y.c.2.1).wf = true) := by
  obtain ⟨y0, y1, y2, y3, y4, y5, n, hl, h0, h1, h2, h3, h4, h5⟩ := trod_struct6 Tryz.underlying137 h
  rw [cellsIns] at hl
  obtain ⟨a, b, c, d, e, f, g, i, rfl⟩ := eight_of hl
  simp only [cellsInt, cellsCell, cellsCellS, cellsIntS, List.drop_zero, List.take_succ_cons, List.take_zero, List.drop_succ_cons] at h0 h1 h2 h3 h4 h5
  obtain ⟨k0, e0, _, w0⟩ := DataW.trod_int Tryz.underlying3 h0
  obtain ⟨k1, e1, _, w1⟩ := DataW.trod_int Tryz.underlying3 h1
  obtain ⟨k2, e2, _, w2⟩ := DataW.trod_int Tryz.underlying3 h2
  obtain ⟨k, m, q, qc, xs, e3, hlen, hin, hb, hw⟩ := openedCell h3
  obtain ⟨s, sc, K, rfl, hK⟩ := openedCellsV h4
  obtain ⟨u, uc, L, rfl, hL⟩ := openedNums h5
  obtain rfl : a = .int .i64 k0 := by simpa using e0
  obtain rfl : b = .int .i64 k1 := by simpa using e1
  obtain rfl : c = .int .i64 k2 := by simpa using e2
  have e3' : d = .int .i64 k ∧ e = .int .i64 m ∧ f = .slice q xs.length qc := by simpa using e3
  obtain ⟨rfl, rfl, rfl⟩ := e3'
  exact ⟨⟨k0, k1, k2, (k, m, xs), K, L⟩, q, qc, s, sc, u, uc, rfl, ⟨hlen, hb, hin⟩, hK, hL, w0, w1, w2, wf_of hw.1 hw.2.1, wf_of hw.2.2.1 hw.2.2.2⟩
theorem getD_map_rangeI (f : Nat → Iv) (n i : Nat) (h : i < n) : ((List.range n).map f).getD i Iv.zero = f i := by
  simp [List.getD, h]
theorem openedInsS {H : Type} {enc : TypeId × Value → H} {W : World} {fuel : Nat} {v : Value} {x : DataW H × List MemPlace}
    (h : DataW.trod enc Tryz.prog W 0 (fun _ => true) true fuel 43 [v] = some x) : ∃ (p : Option Addr) (cap : Nat) (ps : List Iv), v = .slice p ps.length cap ∧ IvArg W p ps := by
  rcases open_slice Tryz.underlying43 h with ⟨hcs, hx⟩ | ⟨a, len', cap', m, n, D, Pl, hcs, hb, hl, hm, hmm, hx, hel⟩
  · obtain rfl : v = .slice none 0 0 := by simpa using hcs
    exact ⟨none, 0, [], rfl, fun h => absurd h (Nat.lt_irrefl 0), by decide, fun i h => by simp at h, fun i h => by simp at h⟩
  · obtain rfl : v = .slice (some a) len' cap' := by simpa using hcs
    simp only [if_true] at hmm
    subst hmm
    unfold maxLen at hm
    obtain ⟨b, o, s⟩ := a
    have each0 : ∀ i, i < len' → ∃ c : Iv × (Option Addr × Nat) × (Option Addr × Nat) × (Option Addr × Nat), (∀ j, j < 8 → W.cell? (((⟨b, o, s⟩ : Addr).add (i * 8)).add j) = (ivV c.1 c.2.1.1 c.2.1.2 c.2.2.1.1 c.2.2.1.2 c.2.2.2.1 c.2.2.2.2)[j]?) ∧ (c.1.c.2.2.length ≤ 9223372036854775807 ∧ Byte c.1.c.2.2 ∧ BIn W c.2.1.1 c.1.c.2.2) ∧ CArg W c.2.2.1.1 c.1.K ∧ IArg W c.2.2.2.1 c.1.L ∧ ((Lit.int .i64 c.1.op).wf = true ∧ (Lit.int .i64 c.1.r).wf = true ∧ (Lit.int .i64 c.1.a).wf = true ∧ (Lit.int .i64 c.1.c.1).wf = true ∧ (Lit.int .i64 c.1.c.2.1).wf = true) := fun i hi => by
      obtain ⟨cs', hc, ht⟩ := hel i (by omega)
      obtain ⟨y, q, qc, t, tc, u, uc, rfl, h1, h2, h3, h4⟩ := openedIns ht
      rw [cellsIns] at hc
      exact ⟨(y, (q, qc), (t, tc), (u, uc)), (World.cells?_some hc).2.2, h1, h2, h3, h4⟩
    haveI : Inhabited Iv := ⟨Iv.zero⟩
    obtain ⟨f, hfx⟩ := choose_lt each0
    have hat : ∀ i, i < len' → ((List.range len').map (fun i => (f i).1)).getD i Iv.zero = (f i).1 := fun i hi => getD_map_rangeI (fun i => (f i).1) len' i hi
    refine ⟨some ⟨b, o, s⟩, m, (List.range len').map (fun i => (f i).1), by simp, fun hn => ?_, by simp; omega, fun i hi => ?_, fun i hi => ?_⟩
    · have hn' : 0 < len' := by simpa using hn
      have g := World.cell?_spot ((hfx 0 hn').1 0 (by omega) |>.trans (show _ = some (Value.int .i64 (f 0).1.op) from rfl))
      obtain rfl : s = none := by simpa [Addr.add] using g
      refine ⟨b, o, rfl, fun i hi => ?_⟩
      have hi' : i < len' := by simpa using hi
      rw [hat i hi']
      obtain ⟨g0, g1, g2, g3, g4⟩ := hfx i hi'
      exact ⟨_, _, _, _, _, _, fun j hj => by have := g0 j hj; simp only [add_plain] at this; exact this, g1.2.2, g2.lies, g3.lies⟩
    · have hi' : i < len' := by simpa using hi
      rw [hat i hi']
      obtain ⟨_, g1, g2, g3, _⟩ := hfx i hi'
      exact ⟨g1.1, g1.2.1, g2.len, g2.text, g2.byte, g3.len⟩
    · have hi' : i < len' := by simpa using hi
      rw [hat i hi']
      exact (hfx i hi').2.2.2.2
theorem openedProc {H : Type} {enc : TypeId × Value → H} {W : World} {fuel : Nat} {cs : List Value} {x : DataW H × List MemPlace}
    (h : DataW.trod enc Tryz.prog W 0 (fun _ => true) true fuel 140 cs = some x) :
    ∃ (y : Pv) (q : Option Addr) (qc : Nat) (u : Option Addr) (uc : Nat), cs = pvV y q qc u uc ∧ (y.nm.length ≤ 9223372036854775807 ∧ Byte y.nm ∧ BIn W q y.nm) ∧ IArg W u y.cl := by
  obtain ⟨y0, y1, y2, y3, y4, n, hl, h0, h1, h2, h3, h4⟩ := trod_struct5 Tryz.underlying140 h
  rw [cellsProc] at hl
  obtain ⟨a, b, c, d, e, rfl⟩ := five_of hl
  simp only [cellsInt, cellsText, cellsBoolC, cellsIntS, List.drop_zero, List.take_succ_cons, List.take_zero, List.drop_succ_cons] at h0 h1 h2 h3 h4
  obtain ⟨q, qc, xs, rfl, hlen, hin, hb⟩ := openedText h0
  obtain ⟨k1, e1, _, w1⟩ := DataW.trod_int Tryz.underlying3 h1
  obtain ⟨k2, e2, _⟩ := DataW.trod_bool Tryz.underlying4 h2
  obtain ⟨k3, e3, _, w3⟩ := DataW.trod_int Tryz.underlying3 h3
  obtain ⟨u, uc, L, rfl, hL⟩ := openedNums h4
  obtain rfl : b = .int .i64 k1 := by simpa using e1
  obtain rfl : c = .bool k2 := by simpa using e2
  obtain rfl : d = .int .i64 k3 := by simpa using e3
  exact ⟨⟨xs, k1, k2, k3, L⟩, q, qc, u, uc, rfl, ⟨hlen, hb, hin⟩, hL⟩
theorem getD_map_rangeV (f : Nat → Pv) (n i : Nat) (h : i < n) : ((List.range n).map f).getD i Pv.zero = f i := by
  simp [List.getD, h]
theorem openedProcS {H : Type} {enc : TypeId × Value → H} {W : World} {fuel : Nat} {v : Value} {x : DataW H × List MemPlace}
    (h : DataW.trod enc Tryz.prog W 0 (fun _ => true) true fuel 44 [v] = some x) : ∃ (p : Option Addr) (cap : Nat) (ps : List Pv), v = .slice p ps.length cap ∧ PvArg W p ps := by
  rcases open_slice Tryz.underlying44 h with ⟨hcs, hx⟩ | ⟨a, len', cap', m, n, D, Pl, hcs, hb, hl, hm, hmm, hx, hel⟩
  · obtain rfl : v = .slice none 0 0 := by simpa using hcs
    exact ⟨none, 0, [], rfl, fun h => absurd h (Nat.lt_irrefl 0), by decide, fun i h => by simp at h⟩
  · obtain rfl : v = .slice (some a) len' cap' := by simpa using hcs
    simp only [if_true] at hmm
    subst hmm
    unfold maxLen at hm
    obtain ⟨b, o, s⟩ := a
    have each0 : ∀ i, i < len' → ∃ c : Pv × (Option Addr × Nat) × (Option Addr × Nat), (∀ j, j < 5 → W.cell? (((⟨b, o, s⟩ : Addr).add (i * 5)).add j) = (pvV c.1 c.2.1.1 c.2.1.2 c.2.2.1 c.2.2.2)[j]?) ∧ (c.1.nm.length ≤ 9223372036854775807 ∧ Byte c.1.nm ∧ BIn W c.2.1.1 c.1.nm) ∧ IArg W c.2.2.1 c.1.cl := fun i hi => by
      obtain ⟨cs', hc, ht⟩ := hel i (by omega)
      obtain ⟨y, q, qc, u, uc, rfl, h1, h2⟩ := openedProc ht
      rw [cellsProc] at hc
      exact ⟨(y, (q, qc), (u, uc)), (World.cells?_some hc).2.2, h1, h2⟩
    haveI : Inhabited Pv := ⟨Pv.zero⟩
    obtain ⟨f, hfx⟩ := choose_lt each0
    have hat : ∀ i, i < len' → ((List.range len').map (fun i => (f i).1)).getD i Pv.zero = (f i).1 := fun i hi => getD_map_rangeV (fun i => (f i).1) len' i hi
    refine ⟨some ⟨b, o, s⟩, m, (List.range len').map (fun i => (f i).1), by simp, fun hn => ?_, by simp; omega, fun i hi => ?_⟩
    · have hn' : 0 < len' := by simpa using hn
      have g := World.cell?_spot ((hfx 0 hn').1 0 (by omega) |>.trans (show _ = some (Value.slice (f 0).2.1.1 (f 0).1.nm.length (f 0).2.1.2) from rfl))
      obtain rfl : s = none := by simpa [Addr.add] using g
      refine ⟨b, o, rfl, fun i hi => ?_⟩
      have hi' : i < len' := by simpa using hi
      rw [hat i hi']
      obtain ⟨g0, g1, g2⟩ := hfx i hi'
      exact ⟨_, _, _, _, fun j hj => by have := g0 j hj; simp only [add_plain] at this; exact this, g1.2.2, g2.lies⟩
    · have hi' : i < len' := by simpa using hi
      rw [hat i hi']
      obtain ⟨_, g1, g2⟩ := hfx i hi'
      exact ⟨g1.1, g1.2.1, g2.len⟩
theorem openedCodeC {H : Type} {enc : TypeId × Value → H} {W : World} {cs : Array Value} {d0 : DataW H} {p : List MemPlace}
    (h0 : DataW.Trod enc Tryz.prog W 0 (fun _ => true) true 46 (.agg cs) d0 p) : ∃ p c1 g c2 ps gs, cs = #[.slice p (List.length (α := Iv) ps) c1, .slice g (List.length (α := Pv) gs) c2] ∧ IvArg W p ps ∧ PvArg W g gs := by
  obtain ⟨fuel, hf⟩ := h0
  have hf : DataW.trod enc Tryz.prog W 0 (fun _ => true) true fuel 46 cs.toList = some (d0, p) := hf
  obtain ⟨y0, y1, n, hx, hl, h0, h1⟩ := trod_struct2 Tryz.underlying46 hf
  rw [cellsCode] at hl
  obtain ⟨a, b, hab⟩ := two_ofC hl
  rw [hab] at h0 h1
  simp only [cellsInsS, cellsProcS, List.drop_zero, List.take_succ_cons, List.take_zero, List.drop_succ_cons] at h0 h1
  obtain ⟨p0, q0, ps, rfl, hps⟩ := openedInsS h0
  obtain ⟨p1, q1, gs, rfl, hgs⟩ := openedProcS h1
  exact ⟨p0, q0, p1, q1, ps, gs, by apply Array.ext'; rw [hab], hps, hgs⟩
end Go.Proofs.YtjhbplgppakhoaaGreatDoor

