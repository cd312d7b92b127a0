/- Texts of LawFu1, LawFu2. Own work of the verifier. -/
import Derived.Test.YtaakpdakeolgeaaGreatUqbm
import Derived.Deep.RegionHeld3
namespace Go.Proofs.YtaakpdakeolgeaaGreat
open Go Go.RowKit
set_option linter.unusedVariables false
set_option maxRecDepth 100000 in
set_option maxHeartbeats 8000000 in
theorem lawFu_1 (p : Option Addr) (cap : Nat) (ys0 : List Int) (w : World) (hb : Bytes ys0) (hc : ys0.length ≤ cap) (hx : BIn w p ys0) (hbig : ys0.length ≤ 1048576) (h0 : ∀ bs code, UniIs (drawU (ys0.take 500)).1 (drawU (ys0.take 500)).2 bs code → code ≠ 0) :
    Calls Tryz.prog 3 #[.slice p ys0.length cap] w fun e w' => e = .returned (.bool true) ∧ Below w.heap.size w w' := by
  have HDU0 : Hid (∀ W, Below w.heap.size w W → Calls Tryz.prog 4 #[.slice p ys0.length cap] W (DrawO W (drawU (ys0.take 500)))) := fun W hW => drawU_any p cap ys0 W hb (by omega) hc (hx.below hW)
  have HDS0 : Hid (∀ W, Below w.heap.size w W → Calls Tryz.prog 11 #[.slice p ys0.length cap] W (DrawSO W (drawS (ys0.take 500)))) := fun W hW => drawS_any p cap ys0 W hb (by omega) hc (hx.below hW)
  have bU := drawU_bd (ys0.take 500)
  have bS := drawS_bd (ys0.take 500)
  obtain ⟨A, Bc, eU⟩ : ∃ A Bc, drawU (ys0.take 500) = (A, Bc) := ⟨_, _, rfl⟩
  obtain ⟨G, Sx, eS⟩ : ∃ G Sx, drawS (ys0.take 500) = (G, Sx) := ⟨_, _, rfl⟩
  rw [eU] at bU HDU0
  rw [eS] at bS HDS0
  obtain ⟨lx, elx⟩ : ∃ l, l = ys0.length := ⟨_, rfl⟩
  rw [← elx] at HDU0 HDS0 hbig ⊢
  have hlx : lx ≤ 1048576 := by omega
  obtain ⟨la, ela⟩ : ∃ l, l = A.length := ⟨_, rfl⟩
  obtain ⟨lb, elb⟩ : ∃ l, l = Bc.length := ⟨_, rfl⟩
  obtain ⟨lg, elg⟩ : ∃ l, l = G.length := ⟨_, rfl⟩
  obtain ⟨ls, els⟩ : ∃ l, l = Sx.length := ⟨_, rfl⟩
  have HLA : Hid (la = A.length) := ela
  have HLB : Hid (lb = Bc.length) := elb
  have HLG : Hid (lg = G.length) := elg
  have HLS : Hid (ls = Sx.length) := els
  have HBA : Hid (Bd A) := bU.1
  have HBB : Hid (Bd Bc) := bU.2
  have HBG : Hid (Bd G) := bS.1
  have HBS : Hid (Bd Sx) := bS.2
  have hla : la ≤ 2001 := by rw [ela]; exact bU.1.len
  have hlb : lb ≤ 2001 := by rw [elb]; exact bU.2.len
  have hlg : lg ≤ 2001 := by rw [elg]; exact bS.1.len
  have hls : ls ≤ 2001 := by rw [els]; exact bS.2.len
  have HDU : Hid (∀ W, Below w.heap.size w W → Calls Tryz.prog 4 #[.slice p lx cap] W fun e w' => ∃ p1 c1 p2 c2, e = .returned (.tuple #[.slice p1 la c1, .slice p2 lb c2]) ∧ TAt w' p1 c1 A ∧ TAt w' p2 c2 Bc ∧ Below W.heap.size W w') := fun W hW => (HDU0.out W hW).mono (by
    rintro e w' ⟨p1, n1, c1, p2, n2, c2, rfl, ⟨h1, h2, h3⟩, ⟨h4, h5, h6⟩, h7⟩
    exact ⟨p1, c1, p2, c2, by rw [h1, h4, HLA.out, HLB.out], ⟨h2, h3⟩, ⟨h5, h6⟩, h7⟩)
  have HDS : Hid (∀ W, Below w.heap.size w W → Calls Tryz.prog 11 #[.slice p lx cap] W fun e w' => ∃ p1 c1 p2 c2, e = .returned (.tuple #[.slice p1 lg c1, .slice p2 ls c2]) ∧ TAt w' p1 c1 G ∧ TAt w' p2 c2 Sx ∧ Below W.heap.size W w' ∧ (validB G = true → validB Sx = true → ∃ g, p2 = some ⟨g, 0, none⟩ ∧ OwnC w' W.heap.size p2 ls c2 Sx ∧ FarC w' g p1 G)) := fun W hW => (HDS0.out W hW).mono (by
    rintro e w' ⟨p1, n1, c1, p2, n2, c2, rfl, ⟨h1, h2, h3⟩, ⟨h4, h5, h6⟩, h7, h8⟩
    refine ⟨p1, c1, p2, c2, by rw [h1, h4, HLG.out, HLS.out], ⟨h2, h3⟩, ⟨h5, h6⟩, h7, fun a b => ?_⟩
    obtain ⟨g, e1, e2, e3⟩ := h8 a b
    refine ⟨g, e1, ?_, e3⟩
    rw [show ls = n2 by rw [h4, HLS.out]]
    exact e2)
  obtain ⟨Rb, hRb⟩ := subsIs (xs := G) (ys := Sx) HBG.out.byte.get HBS.out.byte.get
  obtain ⟨Rv, hRv⟩ := subsIs (xs := Sx) (ys := G) HBS.out.byte.get HBG.out.byte.get
  have HRB : Hid (SubsIs G Sx Rb) := hRb
  have HRV : Hid (SubsIs Sx G Rv) := hRv
  have HSS : Hid (∀ W p1 c1 p2 c2, TAt W p1 c1 G → TAt W p2 c2 Sx → Calls Tryz.prog 12 #[.slice p1 lg c1, .slice p2 ls c2] W fun e w' => e = .returned (.bool Rb) ∧ Below W.heap.size W w') := fun W p1 c1 p2 c2 h1 h2 => by
    rw [HLG.out, HLS.out]
    exact specSubsC_any G Sx Rb p1 p2 c1 c2 h1.2 h2.2 W HRB.out (by have := HBG.out.len; omega) (by have := HBS.out.len; omega) h1.1 h2.1
  have HIS : Hid (∀ W p1 c1 p2 c2, TAt W p1 c1 G → TAt W p2 c2 Sx → Calls Tryz.prog 10 #[.slice p1 lg c1, .slice p2 ls c2] W fun e w' => e = .returned (.bool Rb) ∧ Below W.heap.size W w') := fun W p1 c1 p2 c2 h1 h2 => by
    rw [HLG.out, HLS.out]
    exact implSubsC_any G Sx Rb p1 p2 c1 c2 h1.2 h2.2 W HRB.out (by have := HBG.out.len; omega) (by have := HBS.out.len; omega) h1.1 h2.1
  have HIV : Hid (∀ W p1 c1 p2 c2, TAt W p1 c1 Sx → TAt W p2 c2 G → Calls Tryz.prog 10 #[.slice p1 ls c1, .slice p2 lg c2] W fun e w' => e = .returned (.bool Rv) ∧ Below W.heap.size W w') := fun W p1 c1 p2 c2 h1 h2 => by
    rw [HLG.out, HLS.out]
    exact implSubsC_any Sx G Rv p1 p2 c1 c2 h1.2 h2.2 W HRV.out (by have := HBS.out.len; omega) (by have := HBG.out.len; omega) h1.1 h2.1
  have HVT : Hid (Rb = true → ∀ W p1 c1 p2 c2, TAt W p1 c1 G → TAt W p2 c2 Sx → Calls Tryz.prog 13 #[.slice p1 lg c1, .slice p2 ls c2] W fun e w' => e = .returned (.bool Rv) ∧ Below W.heap.size W w') := fun hR W p1 c1 p2 c2 h1 h2 => by
    have hr := HRB.out
    rw [hR] at hr
    have := implVariantC_any G Sx p1 p2 c1 c2 h1.2 h2.2 W HBG.out.byte.get HBS.out.byte.get (by have := HBG.out.len; omega) (by have := HBS.out.len; omega) h1.1 h2.1
    rw [SubsIs.variant hr HRV.out] at this
    rw [HLG.out, HLS.out]
    exact this
  have HVAL : Hid (Rb = true → validB G = true ∧ validB Sx = true) := fun hR => by
    rcases HRB.out with ⟨h1, h2, _⟩ | ⟨_, h⟩
    · exact ⟨h1, h2⟩
    · rw [hR] at h; cases h
  have HU2 : Hid (∀ W p1 c1 p2 c2, TAt W p1 c1 G → TAt W p2 c2 (Sx.map (shC 2000)) → Calls Tryz.prog 6 #[.slice p1 lg c1, .slice p2 ls c2] W (UniO W G (Sx.map (shC 2000)))) := fun W p1 c1 p2 c2 h1 h2 => by
    have hl : (Sx.map (shC 2000)).length = ls := by rw [List.length_map, HLS.out]
    have := implUniC_any G (Sx.map (shC 2000)) p1 p2 c1 c2 h1.2 h2.2 W HBG.out.byte.get HBS.out.byte.sh.get (by have := HBG.out.len; omega) (by rw [hl]; omega) h1.1 h2.1
    rw [hl, ← HLG.out] at this
    exact this
  rw [eU] at h0
  have H0 : Hid (∀ bs code, UniIs A Bc bs code → code ≠ 0) := h0
  clear h0
  have HSU : Hid (∀ W p1 c1 p2 c2, TAt W p1 c1 A → TAt W p2 c2 Bc → Calls Tryz.prog 5 #[.slice p1 la c1, .slice p2 lb c2] W (UniO W A Bc)) := fun W p1 c1 p2 c2 h1 h2 => by
    rw [HLA.out, HLB.out]
    exact specUniC_any A Bc p1 p2 c1 c2 h1.2 h2.2 W HBA.out.byte.get HBB.out.byte.get (by have := HBA.out.len; omega) (by have := HBB.out.len; omega) h1.1 h2.1
  clear HDU0 HDS0 eU eS bU bS ela elb elg els elx hb hc hx hRb hRv
  go_enter Tryz.func3, Tryz.ntmps3
  go_wp2_with fail
  refine (HDU.out w (Below.refl _ _)).mono ?_
  rintro e w1 ⟨pa, ca, pb, cb, rfl, hta, htb, hb1⟩
  have HTA : Hid (TAt w1 pa ca A) := hta
  have HTB : Hid (TAt w1 pb cb Bc) := htb
  have HW1 : Hid (Below w.heap.size w w1) := hb1
  clear hta htb hb1
  go_wp2_with fail
  refine (HSU.out w1 pa ca pb cb HTA.out HTB.out).mono ?_
  rintro e w2 ⟨bs, code, q2, n2, c2, hui, rfl, _, hb2⟩
  have HTA2 : Hid (TAt w2 pa ca A) := HTA.out.below hb2
  have HTB2 : Hid (TAt w2 pb cb Bc) := HTB.out.below hb2
  have HW2 : Hid (Below w.heap.size w w2) := Below.on HW1.out hb2
  clear hb2
  have hcn : ¬ code = 0 := H0.out bs code hui
  have hc0 : (code == 0) = false := by rw [beq_eq_false_iff_ne]; exact hcn
  have HUI : Hid (UniIs A Bc bs code) := hui
  have HIU : Hid (∀ W p1 c1 p2 c2, TAt W p1 c1 A → TAt W p2 c2 Bc → Calls Tryz.prog 6 #[.slice p1 la c1, .slice p2 lb c2] W fun e w' => ∃ q n c, e = .returned (.tuple #[.slice q n c, .int .i64 code]) ∧ OwnBB w' W.heap.size w'.heap.size q n c bs ∧ Below W.heap.size W w') := fun W p1 c1 p2 c2 h1 h2 => by
    rw [HLA.out, HLB.out]
    refine (implUniC_any A Bc p1 p2 c1 c2 h1.2 h2.2 W HBA.out.byte.get HBB.out.byte.get (by have := HBA.out.len; omega) (by have := HBB.out.len; omega) h1.1 h2.1).mono ?_
    rintro e w' ⟨bs', code', q, n, c, h3, rfl, h5, h4⟩
    obtain ⟨e1, e2⟩ := UniIs.det HUI.out h3
    exact ⟨q, n, c, by rw [e2], by rw [← e1]; exact h5, h4⟩
  have HIU2 : Hid (∀ W p1 c1 p2 c2, TAt W p1 c1 Bc → TAt W p2 c2 A → Calls Tryz.prog 6 #[.slice p1 lb c1, .slice p2 la c2] W fun e w' => ∃ q n c, e = .returned (.tuple #[.slice q n c, .int .i64 code]) ∧ OwnBB w' W.heap.size w'.heap.size q n c bs ∧ Below W.heap.size W w') := fun W p1 c1 p2 c2 h1 h2 => by
    rw [HLA.out, HLB.out]
    refine (implUniC_any Bc A p1 p2 c1 c2 h1.2 h2.2 W HBB.out.byte.get HBA.out.byte.get (by have := HBB.out.len; omega) (by have := HBA.out.len; omega) h1.1 h2.1).mono ?_
    rintro e w' ⟨bs', code', q, n, c, h3, rfl, h5, h4⟩
    obtain ⟨e1, e2⟩ := UniIs.det HUI.out.turn h3
    exact ⟨q, n, c, by rw [e2], by rw [← e1]; exact h5, h4⟩
  clear hui
  go_wp2_with fail
  refine (HDU.out w2 HW2.out).mono ?_
  rintro e w3 ⟨pA, cA, pB, cB, rfl, htA, htB, hb3⟩
  have HA3 : Hid (TAt w3 pA cA A) := htA
  have HB3 : Hid (TAt w3 pB cB Bc) := htB
  have HTA3 : Hid (TAt w3 pa ca A) := HTA2.out.below hb3
  have HTB3 : Hid (TAt w3 pb cb Bc) := HTB2.out.below hb3
  have HW3 : Hid (Below w.heap.size w w3) := Below.on HW2.out hb3
  clear htA htB hb3
  go_wp2_with fail
  refine (HIU.out w3 pA cA pB cB HA3.out HB3.out).mono ?_
  rintro e w4 ⟨pS, nS, cS, rfl, hob, hb4⟩
  have HOB : Hid (OwnBB w4 w3.heap.size w4.heap.size pS nS cS bs) := hob
  have HA4 : Hid (TAt w4 pA cA A) := HA3.out.below hb4
  have HB4 : Hid (TAt w4 pB cB Bc) := HB3.out.below hb4
  have HTA4 : Hid (TAt w4 pa ca A) := HTA3.out.below hb4
  have HTB4 : Hid (TAt w4 pb cb Bc) := HTB3.out.below hb4
  have HW4 : Hid (Below w.heap.size w w4) := Below.on HW3.out hb4
  clear hob hb4
  go_wp2_with fail
  refine (HDS.out w4 HW4.out).mono ?_
  rintro e s1 ⟨p1, c1, p2, c2, rfl, ht1, ht2, hb1, _⟩
  have HT1 : Hid (TAt s1 p1 c1 G) := ht1
  have HT2 : Hid (TAt s1 p2 c2 Sx) := ht2
  have HS1 : Hid (Below w.heap.size w s1) := Below.on HW4.out hb1
  clear ht1 ht2 hb1
  go_wp2_with fail
  refine (HSS.out s1 p1 c1 p2 c2 HT1.out HT2.out).mono ?_
  rintro e s2 ⟨rfl, hb2⟩
  have HS2 : Hid (Below w.heap.size w s2) := Below.on HS1.out hb2
  have HT22 : Hid (TAt s2 p2 c2 Sx) := HT2.out.below hb2
  clear hb2
  cases Rb with
  | false =>
    go_wp2_with fail
    refine (HDS.out s2 HS2.out).mono ?_
    rintro e s3 ⟨p3, c3, p4, c4, rfl, ht3, ht4, hb3, _⟩
    have HS3 : Hid (Below w.heap.size w s3) := Below.on HS2.out hb3
    have HIS3 := HIS.out s3 p3 c3 p4 c4 ht3 ht4
    clear ht3 ht4 hb3
    go_wp2_with fail
    refine HIS3.mono ?_
    rintro e s4 ⟨rfl, hb4⟩
    have FIN : Hid (Below w.heap.size w s4) := Below.on HS3.out hb4
    clear hb4 HIS3
    go_wp2_with fail
    go_ret
    exact ⟨rfl, FIN.out⟩
  | true =>
    obtain ⟨hvg, hvs⟩ := HVAL.out (by first | rfl | trivial)
    have HVS : Hid (validB Sx = true) := hvs
    go_wp2_with fail
    refine (HDS.out s2 HS2.out).mono ?_
    rintro e s3 ⟨p3, c3, p4, c4, rfl, ht3, ht4, hb3, hown⟩
    obtain ⟨gs, rfl, ho4, hfar⟩ := hown hvg hvs
    have HT3 : Hid (TAt s3 p3 c3 G) := ht3
    have HO4 : Hid (OwnC s3 s2.heap.size (some ⟨gs, 0, none⟩) ls c4 Sx) := ho4
    have HFAR : Hid (FarC s3 gs p3 G) := hfar
    have HS3 : Hid (Below w.heap.size w s3) := Below.on HS2.out hb3
    have HB23 : Hid (Below s2.heap.size s2 s3) := hb3
    have HGS : Hid (s2.heap.size ≤ gs) := by
      obtain ⟨g', e', h1, _⟩ := ho4.at0 (vB_pos hvs)
      cases e'; exact h1
    clear ht3 ht4 hb3 hown ho4 hfar hvg hvs
    go_wp2_with fail
    go_loopw [30] (fun iv wr => ∃ j : Nat, j ≤ lg ∧ iv = .int .i64 j ∧ s3 = wr ∧ Hid (∀ i, i < j → (G.getD i Cel.none).1 = 0 → (G.getD i Cel.none).2.1 < 2000)) (fun iv _ => lg - (intOf iv).toNat)
    case atStart => exact ⟨0, Nat.zero_le _, rfl, rfl, fun i h => by omega⟩
    case round =>
      obtain ⟨j, hj, rfl, rfl, HN⟩ := hrel
      by_cases hlt : j < lg
      · have hjl : j < G.length := by rw [← HLG.out]; exact hlt
        obtain ⟨b, ob, epb, hcs⟩ := HT3.out.1 (by omega)
        obtain ⟨px, qx, x0, x1, _, _⟩ := hcs j hjl
        obtain ⟨kd, ekd⟩ : ∃ k, k = (G.getD j Cel.none).1 := ⟨_, rfl⟩
        obtain ⟨nv, env⟩ : ∃ k, k = (G.getD j Cel.none).2.1 := ⟨_, rfl⟩
        rw [← ekd] at x0
        rw [← env] at x1
        have HNX : Hid (∀ P : Prop, (kd = 0 → nv < 2000) → ∀ i, i < j + 1 → (G.getD i Cel.none).1 = 0 → (G.getD i Cel.none).2.1 < 2000) := fun _ hh i hi h0 => by
          rcases Nat.lt_or_ge i j with h1 | h1
          · exact HN.out i h1 h0
          · obtain rfl : i = j := by omega
            rw [← env]; exact hh (by rw [ekd]; exact h0)
        have HEP : Hid (p3 = some ⟨b, ob, none⟩) := epb
        subst epb
        clear hcs ekd env hjl
        by_cases hk : kd = 0
        · have hkb : (kd == 0) = true := by rw [hk]; rfl
          by_cases hN : 2000 ≤ nv
          · have hNb : decide ((2000 : Int) ≤ nv) = true := decide_eq_true hN
            go_wp2_with fail
            go_ret
            exact ⟨rfl, HS3.out⟩
          · have hNb : decide ((2000 : Int) ≤ nv) = false := decide_eq_false hN
            go_wp2_with fail
            go_roundw
            case rel => exact ⟨j + 1, by omega, by go_num, (by first | rfl | trivial), HNX.out True (fun _ => by omega)⟩
            case measure => simp [intOf]; omega
        · have hkb : (kd == 0) = false := by rw [beq_eq_false_iff_ne]; exact hk
          go_wp2_with fail
          go_roundw
          case rel => exact ⟨j + 1, by omega, by go_num, (by first | rfl | trivial), HNX.out True (fun h => absurd h hk)⟩
          case measure => simp [intOf]; omega
      · obtain rfl : j = lg := by omega
        have HGX : Hid (∀ c ∈ G, c.1 = 0 → c.2.1 < 2000) := fun c hc h0 => by
          obtain ⟨i, hi, rfl⟩ := List.mem_iff_getElem.1 hc
          have := HN.out i (by rw [HLG.out]; exact hi)
          rw [List.getD, List.getElem?_eq_getElem hi] at this
          exact this h0
        clear HN hlt
        go_wp2_with fail
        go_loopw [31] (fun iv wr => ∃ k : Nat, k ≤ ls ∧ iv = .int .i64 k ∧ Hid (OwnC wr s2.heap.size (some ⟨gs, 0, none⟩) ls c4 (mixS Sx k)) ∧ Hid (OffG gs s3 wr) ∧ Hid (∀ i, i < k → (Sx.getD i Cel.none).1 = 0 → (Sx.getD i Cel.none).2.1 ≤ 900000)) (fun iv _ => ls - (intOf iv).toNat)
        case atStart => exact ⟨0, Nat.zero_le _, rfl, by rw [mixS_zero]; exact HO4, OffG.refl _ _, fun i h => by omega⟩
        case round =>
          obtain ⟨k, hk, rfl, HOW, HOF, HN⟩ := hrel
          have HLOW : Hid (Below w.heap.size w wr) := HS3.out.trans (HOF.out.below (Nat.le_trans HS2.out.size HGS.out) HS3.out.size)
          by_cases hlt : k < ls
          · have hkl : k < Sx.length := by rw [← HLS.out]; exact hlt
            obtain ⟨x0, x1, ⟨tq, tk, td, x2⟩, kf⟩ := HOW.out.cells (j := k) (by rw [mixS_len]; exact hkl)
            have em : (mixS Sx k).getD k Cel.none = Sx.getD k Cel.none := by rw [mixS_at _ _ _ hkl, if_neg (by omega)]
            rw [em] at x0 x1
            have kf1 := kf (k * 3 + 1)
            have hvv := valid_var HVS.out k hkl
            have hst := HOW.out.setN (j := k) (by rw [mixS_len]; exact hkl) ((Sx.getD k Cel.none).2.1 + 2000)
            have hmv := mixS_var Sx k hkl
            have hms := mixS_skip Sx k hkl
            have HNX : Hid (((Sx.getD k Cel.none).1 = 0 → (Sx.getD k Cel.none).2.1 ≤ 900000) → ∀ i, i < k + 1 → (Sx.getD i Cel.none).1 = 0 → (Sx.getD i Cel.none).2.1 ≤ 900000) := fun hh i hi h0 => by
              rcases Nat.lt_or_ge i k with h1 | h1
              · exact HN.out i h1 h0
              · obtain rfl : i = k := by omega
                exact hh h0
            obtain ⟨kd, ekd⟩ : ∃ z, z = (Sx.getD k Cel.none).1 := ⟨_, rfl⟩
            obtain ⟨nv, env⟩ : ∃ z, z = (Sx.getD k Cel.none).2.1 := ⟨_, rfl⟩
            rw [← ekd] at x0 hvv hmv hms HNX
            rw [← env] at x1 hvv hst hmv HNX
            have HST : Hid (kd = 0 → OwnC (wr.setCell ⟨gs, k * 3 + 1, none⟩ (.int .i64 (nv + 2000))) s2.heap.size (some ⟨gs, 0, none⟩) ls c4 (mixS Sx (k + 1))) := fun h0 => by rw [hmv h0] at hst; exact hst
            have HSK : Hid (¬ kd = 0 → OwnC wr s2.heap.size (some ⟨gs, 0, none⟩) ls c4 (mixS Sx (k + 1))) := fun h0 => by rw [hms h0]; exact HOW.out
            have HOF2 : Hid (OffG gs s3 (wr.setCell ⟨gs, k * 3 + 1, none⟩ (.int .i64 (nv + 2000)))) := HOF.out.set _ _
            clear ekd env em hst hmv hms kf hkl
            by_cases hk0 : kd = 0
            · have hkb : (kd == 0) = true := by rw [hk0]; rfl
              have hvr := hvv hk0
              by_cases hN : 900000 < nv
              · have hNb : decide ((900000 : Int) < nv) = true := decide_eq_true hN
                go_wp2_with fail
                go_ret
                exact ⟨rfl, HLOW.out⟩
              · have hNb : decide ((900000 : Int) < nv) = false := decide_eq_false hN
                have HOW3 : Hid _ := HST.out hk0
                have HNX3 : Hid _ := HNX.out (fun _ => by omega)
                clear hvv hk0
                go_wp2_with fail
                go_roundw
                case rel => exact ⟨k + 1, by omega, by go_num, HOW3, HOF2, HNX3⟩
                case measure => simp [intOf]; omega
            · have hkb : (kd == 0) = false := by rw [beq_eq_false_iff_ne]; exact hk0
              have HOW3 : Hid _ := HSK.out hk0
              have HNX3 : Hid _ := HNX.out (fun h => absurd h hk0)
              clear hvv
              go_wp2_with fail
              go_roundw
              case rel => exact ⟨k + 1, by omega, by go_num, HOW3, HOF, HNX3⟩
              case measure => simp [intOf]; omega
          · obtain rfl : k = ls := by omega
            have hall : mixS Sx k = Sx.map (shC 2000) := by rw [HLS.out]; exact mixS_all Sx
            have hso : OwnC wr s2.heap.size (some ⟨gs, 0, none⟩) k c4 (Sx.map (shC 2000)) := by rw [← hall]; exact HOW.out
            have HSO : Hid (TAt wr (some ⟨gs, 0, none⟩) c4 (Sx.map (shC 2000))) := hso.tat
            have HGR : Hid (TAt wr p3 c3 G) := ⟨HFAR.out wr HOF.out.size (fun k hk hs => HOF.out.block k hk hs), HT3.out.2⟩
            have HSR : Hid (TAt wr p2 c2 Sx) := HT22.out.below (HB23.out.trans (HOF.out.below HGS.out HB23.out.size))
            have HSY : Hid (∀ c ∈ Sx, c.1 = 0 → c.2.1 + 2000 ≤ 1000000) := fun c hc h0 => by
              obtain ⟨i, hi, rfl⟩ := List.mem_iff_getElem.1 hc
              have := HN.out i (by rw [HLS.out]; exact hi)
              rw [List.getD, List.getElem?_eq_getElem hi] at this
              have h9 : Sx[i].2.1 ≤ 900000 := this h0
              omega
            have HUU := HU2.out wr p3 c3 (some ⟨gs, 0, none⟩) c4 HGR.out HSO.out
            clear hall hso HN hlt
            go_wp2_with fail
            refine HUU.mono ?_
            rintro e u1 ⟨bs8, code8, p8, n8, c8, hui8, rfl, _, hb8⟩
            have hcd := UniIs.moved (d := 2000) (by decide) HRB.out HGX.out HSY.out hui8
            have HG1 : Hid (TAt u1 p3 c3 G) := HGR.out.below hb8
            have HS1' : Hid (TAt u1 p2 c2 Sx) := HSR.out.below hb8
            have HU1 : Hid (Below w.heap.size w u1) := Below.on HLOW.out hb8
            clear hui8 hb8 HUU
            have HQ1 := HIS.out u1 p3 c3 p2 c2 HG1.out HS1'.out
            rcases hcd with rfl | rfl
            all_goals
              go_wp2_with fail
              refine HQ1.mono ?_
              rintro e u2 ⟨rfl, hb9⟩
              have HG2 : Hid (TAt u2 p3 c3 G) := HG1.out.below hb9
              have HS2' : Hid (TAt u2 p2 c2 Sx) := HS1'.out.below hb9
              have HU2' : Hid (Below w.heap.size w u2) := Below.on HU1.out hb9
              have HQ2 := HVT.out (by first | rfl | trivial) u2 p3 c3 p2 c2 HG2.out HS2'.out
              clear hb9 HQ1
              go_wp2_with fail
              refine HQ2.mono ?_
              rintro e u3 ⟨rfl, hb10⟩
              have HQ3 := HIV.out u3 p2 c2 p3 c3 (HS2'.out.below hb10) (HG2.out.below hb10)
              have HU3' : Hid (Below w.heap.size w u3) := Below.on HU2'.out hb10
              clear hb10 HQ2
              go_wp2_with fail
              refine HQ3.mono ?_
              rintro e u4 ⟨rfl, hb11⟩
              have FIN : Hid (Below w.heap.size w u4) := Below.on HU3'.out hb11
              clear hb11 HQ3
              cases Rv
              all_goals
                go_wp2_with fail
                go_ret
                exact ⟨rfl, FIN.out⟩
end Go.Proofs.YtaakpdakeolgeaaGreat

namespace Go.Proofs.YtaakpdakeolgeaaGreat
open Go Go.RowKit
set_option linter.unusedVariables false
set_option maxRecDepth 100000 in
set_option maxHeartbeats 8000000 in
theorem lawFu_2 (p : Option Addr) (cap : Nat) (ys0 : List Int) (w : World) (hb : Bytes ys0) (hc : ys0.length ≤ cap) (hx : BIn w p ys0) (hbig : ys0.length ≤ 1048576) (bs : List Bnd) (hu : UniIs (drawU (ys0.take 500)).1 (drawU (ys0.take 500)).2 bs 0) (hX : ¬ (applyC bs (drawU (ys0.take 500)).1).length ≤ 2000) :
    Calls Tryz.prog 3 #[.slice p ys0.length cap] w fun e w' => e = .returned (.bool true) ∧ Below w.heap.size w w' := by
  have HDU0 : Hid (∀ W, Below w.heap.size w W → Calls Tryz.prog 4 #[.slice p ys0.length cap] W (DrawO W (drawU (ys0.take 500)))) := fun W hW => drawU_any p cap ys0 W hb (by omega) hc (hx.below hW)
  have HDS0 : Hid (∀ W, Below w.heap.size w W → Calls Tryz.prog 11 #[.slice p ys0.length cap] W (DrawSO W (drawS (ys0.take 500)))) := fun W hW => drawS_any p cap ys0 W hb (by omega) hc (hx.below hW)
  have bU := drawU_bd (ys0.take 500)
  have bS := drawS_bd (ys0.take 500)
  obtain ⟨A, Bc, eU⟩ : ∃ A Bc, drawU (ys0.take 500) = (A, Bc) := ⟨_, _, rfl⟩
  obtain ⟨G, Sx, eS⟩ : ∃ G Sx, drawS (ys0.take 500) = (G, Sx) := ⟨_, _, rfl⟩
  rw [eU] at bU HDU0
  rw [eS] at bS HDS0
  obtain ⟨lx, elx⟩ : ∃ l, l = ys0.length := ⟨_, rfl⟩
  rw [← elx] at HDU0 HDS0 hbig ⊢
  have hlx : lx ≤ 1048576 := by omega
  obtain ⟨la, ela⟩ : ∃ l, l = A.length := ⟨_, rfl⟩
  obtain ⟨lb, elb⟩ : ∃ l, l = Bc.length := ⟨_, rfl⟩
  obtain ⟨lg, elg⟩ : ∃ l, l = G.length := ⟨_, rfl⟩
  obtain ⟨ls, els⟩ : ∃ l, l = Sx.length := ⟨_, rfl⟩
  have HLA : Hid (la = A.length) := ela
  have HLB : Hid (lb = Bc.length) := elb
  have HLG : Hid (lg = G.length) := elg
  have HLS : Hid (ls = Sx.length) := els
  have HBA : Hid (Bd A) := bU.1
  have HBB : Hid (Bd Bc) := bU.2
  have HBG : Hid (Bd G) := bS.1
  have HBS : Hid (Bd Sx) := bS.2
  have hla : la ≤ 2001 := by rw [ela]; exact bU.1.len
  have hlb : lb ≤ 2001 := by rw [elb]; exact bU.2.len
  have hlg : lg ≤ 2001 := by rw [elg]; exact bS.1.len
  have hls : ls ≤ 2001 := by rw [els]; exact bS.2.len
  have HDU : Hid (∀ W, Below w.heap.size w W → Calls Tryz.prog 4 #[.slice p lx cap] W fun e w' => ∃ p1 c1 p2 c2, e = .returned (.tuple #[.slice p1 la c1, .slice p2 lb c2]) ∧ TAt w' p1 c1 A ∧ TAt w' p2 c2 Bc ∧ Below W.heap.size W w') := fun W hW => (HDU0.out W hW).mono (by
    rintro e w' ⟨p1, n1, c1, p2, n2, c2, rfl, ⟨h1, h2, h3⟩, ⟨h4, h5, h6⟩, h7⟩
    exact ⟨p1, c1, p2, c2, by rw [h1, h4, HLA.out, HLB.out], ⟨h2, h3⟩, ⟨h5, h6⟩, h7⟩)
  have HDS : Hid (∀ W, Below w.heap.size w W → Calls Tryz.prog 11 #[.slice p lx cap] W fun e w' => ∃ p1 c1 p2 c2, e = .returned (.tuple #[.slice p1 lg c1, .slice p2 ls c2]) ∧ TAt w' p1 c1 G ∧ TAt w' p2 c2 Sx ∧ Below W.heap.size W w' ∧ (validB G = true → validB Sx = true → ∃ g, p2 = some ⟨g, 0, none⟩ ∧ OwnC w' W.heap.size p2 ls c2 Sx ∧ FarC w' g p1 G)) := fun W hW => (HDS0.out W hW).mono (by
    rintro e w' ⟨p1, n1, c1, p2, n2, c2, rfl, ⟨h1, h2, h3⟩, ⟨h4, h5, h6⟩, h7, h8⟩
    refine ⟨p1, c1, p2, c2, by rw [h1, h4, HLG.out, HLS.out], ⟨h2, h3⟩, ⟨h5, h6⟩, h7, fun a b => ?_⟩
    obtain ⟨g, e1, e2, e3⟩ := h8 a b
    refine ⟨g, e1, ?_, e3⟩
    rw [show ls = n2 by rw [h4, HLS.out]]
    exact e2)
  obtain ⟨Rb, hRb⟩ := subsIs (xs := G) (ys := Sx) HBG.out.byte.get HBS.out.byte.get
  obtain ⟨Rv, hRv⟩ := subsIs (xs := Sx) (ys := G) HBS.out.byte.get HBG.out.byte.get
  have HRB : Hid (SubsIs G Sx Rb) := hRb
  have HRV : Hid (SubsIs Sx G Rv) := hRv
  have HSS : Hid (∀ W p1 c1 p2 c2, TAt W p1 c1 G → TAt W p2 c2 Sx → Calls Tryz.prog 12 #[.slice p1 lg c1, .slice p2 ls c2] W fun e w' => e = .returned (.bool Rb) ∧ Below W.heap.size W w') := fun W p1 c1 p2 c2 h1 h2 => by
    rw [HLG.out, HLS.out]
    exact specSubsC_any G Sx Rb p1 p2 c1 c2 h1.2 h2.2 W HRB.out (by have := HBG.out.len; omega) (by have := HBS.out.len; omega) h1.1 h2.1
  have HIS : Hid (∀ W p1 c1 p2 c2, TAt W p1 c1 G → TAt W p2 c2 Sx → Calls Tryz.prog 10 #[.slice p1 lg c1, .slice p2 ls c2] W fun e w' => e = .returned (.bool Rb) ∧ Below W.heap.size W w') := fun W p1 c1 p2 c2 h1 h2 => by
    rw [HLG.out, HLS.out]
    exact implSubsC_any G Sx Rb p1 p2 c1 c2 h1.2 h2.2 W HRB.out (by have := HBG.out.len; omega) (by have := HBS.out.len; omega) h1.1 h2.1
  have HIV : Hid (∀ W p1 c1 p2 c2, TAt W p1 c1 Sx → TAt W p2 c2 G → Calls Tryz.prog 10 #[.slice p1 ls c1, .slice p2 lg c2] W fun e w' => e = .returned (.bool Rv) ∧ Below W.heap.size W w') := fun W p1 c1 p2 c2 h1 h2 => by
    rw [HLG.out, HLS.out]
    exact implSubsC_any Sx G Rv p1 p2 c1 c2 h1.2 h2.2 W HRV.out (by have := HBS.out.len; omega) (by have := HBG.out.len; omega) h1.1 h2.1
  have HVT : Hid (Rb = true → ∀ W p1 c1 p2 c2, TAt W p1 c1 G → TAt W p2 c2 Sx → Calls Tryz.prog 13 #[.slice p1 lg c1, .slice p2 ls c2] W fun e w' => e = .returned (.bool Rv) ∧ Below W.heap.size W w') := fun hR W p1 c1 p2 c2 h1 h2 => by
    have hr := HRB.out
    rw [hR] at hr
    have := implVariantC_any G Sx p1 p2 c1 c2 h1.2 h2.2 W HBG.out.byte.get HBS.out.byte.get (by have := HBG.out.len; omega) (by have := HBS.out.len; omega) h1.1 h2.1
    rw [SubsIs.variant hr HRV.out] at this
    rw [HLG.out, HLS.out]
    exact this
  have HVAL : Hid (Rb = true → validB G = true ∧ validB Sx = true) := fun hR => by
    rcases HRB.out with ⟨h1, h2, _⟩ | ⟨_, h⟩
    · exact ⟨h1, h2⟩
    · rw [hR] at h; cases h
  have HU2 : Hid (∀ W p1 c1 p2 c2, TAt W p1 c1 G → TAt W p2 c2 (Sx.map (shC 2000)) → Calls Tryz.prog 6 #[.slice p1 lg c1, .slice p2 ls c2] W (UniO W G (Sx.map (shC 2000)))) := fun W p1 c1 p2 c2 h1 h2 => by
    have hl : (Sx.map (shC 2000)).length = ls := by rw [List.length_map, HLS.out]
    have := implUniC_any G (Sx.map (shC 2000)) p1 p2 c1 c2 h1.2 h2.2 W HBG.out.byte.get HBS.out.byte.sh.get (by have := HBG.out.len; omega) (by rw [hl]; omega) h1.1 h2.1
    rw [hl, ← HLG.out] at this
    exact this
  rw [eU] at hu hX
  have HUI : Hid (UniIs A Bc bs 0) := hu
  have HSU : Hid (∀ W p1 c1 p2 c2, TAt W p1 c1 A → TAt W p2 c2 Bc → Calls Tryz.prog 5 #[.slice p1 la c1, .slice p2 lb c2] W fun e w' => ∃ q n c, e = .returned (.tuple #[.slice q n c, .int .i64 0]) ∧ Below W.heap.size W w') := fun W p1 c1 p2 c2 h1 h2 => by
    rw [HLA.out, HLB.out]
    refine (specUniC_any A Bc p1 p2 c1 c2 h1.2 h2.2 W HBA.out.byte.get HBB.out.byte.get (by have := HBA.out.len; omega) (by have := HBB.out.len; omega) h1.1 h2.1).mono ?_
    rintro e w' ⟨bs', code', q, n, c, h3, rfl, _, h4⟩
    obtain ⟨e1, e2⟩ := UniIs.det HUI.out h3
    exact ⟨q, n, c, by rw [e2], h4⟩
  have HIU : Hid (∀ W p1 c1 p2 c2, TAt W p1 c1 A → TAt W p2 c2 Bc → Calls Tryz.prog 6 #[.slice p1 la c1, .slice p2 lb c2] W fun e w' => ∃ q n c, e = .returned (.tuple #[.slice q n c, .int .i64 0]) ∧ OwnBB w' W.heap.size w'.heap.size q n c bs ∧ Below W.heap.size W w') := fun W p1 c1 p2 c2 h1 h2 => by
    rw [HLA.out, HLB.out]
    refine (implUniC_any A Bc p1 p2 c1 c2 h1.2 h2.2 W HBA.out.byte.get HBB.out.byte.get (by have := HBA.out.len; omega) (by have := HBB.out.len; omega) h1.1 h2.1).mono ?_
    rintro e w' ⟨bs', code', q, n, c, h3, rfl, h5, h4⟩
    obtain ⟨e1, e2⟩ := UniIs.det HUI.out h3
    exact ⟨q, n, c, by rw [e2], by rw [← e1]; exact h5, h4⟩
  have HIU2 : Hid (∀ W p1 c1 p2 c2, TAt W p1 c1 Bc → TAt W p2 c2 A → Calls Tryz.prog 6 #[.slice p1 lb c1, .slice p2 la c2] W fun e w' => ∃ q n c, e = .returned (.tuple #[.slice q n c, .int .i64 0]) ∧ OwnBB w' W.heap.size w'.heap.size q n c bs ∧ Below W.heap.size W w') := fun W p1 c1 p2 c2 h1 h2 => by
    rw [HLA.out, HLB.out]
    refine (implUniC_any Bc A p1 p2 c1 c2 h1.2 h2.2 W HBB.out.byte.get HBA.out.byte.get (by have := HBB.out.len; omega) (by have := HBA.out.len; omega) h1.1 h2.1).mono ?_
    rintro e w' ⟨bs', code', q, n, c, h3, rfl, h5, h4⟩
    obtain ⟨e1, e2⟩ := UniIs.det HUI.out.turn h3
    exact ⟨q, n, c, by rw [e2], by rw [← e1]; exact h5, h4⟩
  obtain ⟨hva, hvb, hsub, X, eXa, eXb, eXX, hXX⟩ := uni_good hu
  have hsz := (UniIs.size hu).1
  have hby := UniIs.byte hu
  have hbb : ∀ i, i < bs.length → ∀ j, j < (bs.getD i Bnd.zero).2.length → Byte ((bs.getD i Bnd.zero).2.getD j Cel.none).2.2 := fun i hi j hj => by
    have hm : bs.getD i Bnd.zero ∈ bs := by rw [List.getD, List.getElem?_eq_getElem hi]; exact List.getElem_mem hi
    exact (hby _ hm).get j hj
  have hwv : ∀ i, i < bs.length → -9223372036854775808 ≤ (bs.getD i Bnd.zero).1 ∧ (bs.getD i Bnd.zero).1 ≤ 9223372036854775807 := fun i hi => by
    have hm : bs.getD i Bnd.zero ∈ bs := by rw [List.getD, List.getElem?_eq_getElem hi]; exact List.getElem_mem hi
    have := substFrom_mem bs (-1) (by simp only [substB, Bool.and_eq_true] at hsub; exact hsub.2) _ hm
    omega
  have HIA : Hid (∀ (W : World) (pS pc : Option Addr) (nS cS cc : Nat) (cs : List Cel), nS = bs.length → BdIn W pS bs → CapBd W pS bs → TAt W pc cc cs → ByteC cs → cs.length ≤ 2001 → Calls Tryz.prog 7 #[.slice pS nS cS, .slice pc cs.length cc] W (ApplyOut W bs cs)) := fun W pS pc nS cS cc cs h1 h2 h3 h4 h5 h6 =>
    implApplyC_any bs cs pS pc nS cs.length cS cc h4.2 W h1 rfl hbb h5.get (by omega) (by omega) h2 h3 h4.1
  have HSA : Hid (∀ (W : World) (pS pc : Option Addr) (nS cS cc : Nat) (cs : List Cel), nS = bs.length → BdIn W pS bs → TAt W pc cc cs → cs.length + tl cs ≤ 1048576 → Calls Tryz.prog 8 #[.slice pS nS cS, .slice pc cs.length cc] W (ApplyOut W bs cs)) := fun W pS pc nS cS cc cs h1 h2 h3 h4 =>
    specApplyC_any bs cs pS pc nS cs.length cS cc h3.2.1 h3.2.2 W h1 rfl hwv (by omega) h4 h2 h3.1
  have HBL : Hid (bs.length ≤ 1000) := by simp only [substB, Bool.and_eq_true, decide_eq_true_eq] at hsub; exact hsub.1
  have hXl : ¬ X.length ≤ 2000 := by rw [← eXa]; exact hX
  have hRA : applyR bs A = ([], 3) := by rw [applyR, if_pos ⟨hsub, hva⟩, eXa, if_neg hXl]
  have hRB : applyR bs Bc = ([], 3) := by rw [applyR, if_pos ⟨hsub, hvb⟩, eXb, if_neg hXl]
  have HI3 : Hid (∀ (W : World) (pS pc : Option Addr) (nS cS cc : Nat) (cs : List Cel), cs = A ∨ cs = Bc → nS = bs.length → BdIn W pS bs → CapBd W pS bs → TAt W pc cc cs → Calls Tryz.prog 7 #[.slice pS nS cS, .slice pc cs.length cc] W fun e w' => ∃ q m c2, e = .returned (.tuple #[.slice q m c2, .int .i64 3]) ∧ Below W.heap.size W w') := fun W pS pc nS cS cc cs hcs h1 h2 h3 h4 => by
    have hq : ByteC cs ∧ cs.length ≤ 2001 ∧ applyR bs cs = ([], 3) := by
      rcases hcs with rfl | rfl
      · exact ⟨HBA.out.byte, HBA.out.len, hRA⟩
      · exact ⟨HBB.out.byte, HBB.out.len, hRB⟩
    refine (HIA.out W pS pc nS cS cc cs h1 h2 h3 h4 hq.1 hq.2.1).mono ?_
    rintro e w' ⟨q, m, c2, rfl, _, hb'⟩
    exact ⟨q, m, c2, by rw [hq.2.2], hb'⟩
  have HS3 : Hid (∀ (W : World) (pS pc : Option Addr) (nS cS cc : Nat) (cs : List Cel), cs = A ∨ cs = Bc → nS = bs.length → BdIn W pS bs → TAt W pc cc cs → Calls Tryz.prog 8 #[.slice pS nS cS, .slice pc cs.length cc] W fun e w' => ∃ q m c2, e = .returned (.tuple #[.slice q m c2, .int .i64 3]) ∧ Below W.heap.size W w') := fun W pS pc nS cS cc cs hcs h1 h2 h4 => by
    have hq : cs.length + tl cs ≤ 1048576 ∧ applyR bs cs = ([], 3) := by
      rcases hcs with rfl | rfl
      · exact ⟨by have := HBA.out.len; have := HBA.out.txt; omega, hRA⟩
      · exact ⟨by have := HBB.out.len; have := HBB.out.txt; omega, hRB⟩
    refine (HSA.out W pS pc nS cS cc cs h1 h2 h4 hq.1).mono ?_
    rintro e w' ⟨q, m, c2, rfl, _, hb'⟩
    exact ⟨q, m, c2, by rw [hq.2], hb'⟩
  clear hva hvb hsub eXa eXb eXX hXX hsz hby hbb hwv hX hXl hRA hRB hu
  clear HDU0 HDS0 eU eS bU bS ela elb elg els elx hb hc hx hRb hRv
  go_enter Tryz.func3, Tryz.ntmps3
  go_wp2_with fail
  refine (HDU.out w (Below.refl _ _)).mono ?_
  rintro e w1 ⟨pa, ca, pb, cb, rfl, hta, htb, hb1⟩
  have HTA : Hid (TAt w1 pa ca A) := hta
  have HTB : Hid (TAt w1 pb cb Bc) := htb
  have HW1 : Hid (Below w.heap.size w w1) := hb1
  clear hta htb hb1
  go_wp2_with fail
  refine (HSU.out w1 pa ca pb cb HTA.out HTB.out).mono ?_
  rintro e w2 ⟨q2, n2, c2, rfl, hb2⟩
  have HTA2 : Hid (TAt w2 pa ca A) := HTA.out.below hb2
  have HTB2 : Hid (TAt w2 pb cb Bc) := HTB.out.below hb2
  have HW2 : Hid (Below w.heap.size w w2) := Below.on HW1.out hb2
  clear hb2
  go_wp2_with fail
  refine (HDU.out w2 HW2.out).mono ?_
  rintro e w3 ⟨pA, cA, pB, cB, rfl, htA, htB, hb3⟩
  have HA3 : Hid (TAt w3 pA cA A) := htA
  have HB3 : Hid (TAt w3 pB cB Bc) := htB
  have HTA3 : Hid (TAt w3 pa ca A) := HTA2.out.below hb3
  have HTB3 : Hid (TAt w3 pb cb Bc) := HTB2.out.below hb3
  have HW3 : Hid (Below w.heap.size w w3) := Below.on HW2.out hb3
  clear htA htB hb3
  go_wp2_with fail
  refine (HIU.out w3 pA cA pB cB HA3.out HB3.out).mono ?_
  rintro e w4 ⟨pS, nS, cS, rfl, hob, hb4⟩
  have HOB : Hid (OwnBB w4 w3.heap.size w4.heap.size pS nS cS bs) := hob
  have HA4 : Hid (TAt w4 pA cA A) := HA3.out.below hb4
  have HB4 : Hid (TAt w4 pB cB Bc) := HB3.out.below hb4
  have HTA4 : Hid (TAt w4 pa ca A) := HTA3.out.below hb4
  have HTB4 : Hid (TAt w4 pb cb Bc) := HTB3.out.below hb4
  have HW4 : Hid (Below w.heap.size w w4) := Below.on HW3.out hb4
  have HNS : Hid (nS = bs.length) := by obtain ⟨ds, hd⟩ := hob; exact hd.len
  have hns : nS ≤ 1000 := by rw [HNS.out]; exact HBL.out
  have HBD4 : Hid (BdIn w4 pS bs) := hob.bdin
  have HCB4 : Hid (CapBd w4 pS bs) := hob.capB
  clear hob hb4
  have HI4 : Hid (∀ W, Below w4.heap.size w4 W → BdIn W pS bs ∧ CapBd W pS bs ∧ TAt W pA cA A ∧ TAt W pB cB Bc ∧ TAt W pa ca A ∧ TAt W pb cb Bc) := fun W hW => ⟨HBD4.out.below hW, HCB4.out.below hW, HA4.out.below hW, HB4.out.below hW, HTA4.out.below hW, HTB4.out.below hW⟩
  have HP1 := HI3.out w4 pS pA nS cS cA A (.inl rfl) HNS.out HBD4.out HCB4.out HA4.out
  rw [← HLA.out] at HP1
  go_wp2_with fail
  refine HP1.mono ?_
  rintro e w5 ⟨q5, m5, c5, rfl, hb5⟩
  have HB5 : Hid (Below w4.heap.size w4 w5) := hb5
  obtain ⟨t1, t2, t3, t4, t5, t6⟩ := HI4.out w5 hb5
  have HP2 := HI3.out w5 pS pB nS cS cB Bc (.inr rfl) HNS.out t1 t2 t4
  rw [← HLB.out] at HP2
  clear hb5 HP1 t1 t2 t3 t4 t5 t6
  go_wp2_with fail
  refine HP2.mono ?_
  rintro e w6 ⟨q6, m6, c6, rfl, hb6⟩
  have HB6 : Hid (Below w4.heap.size w4 w6) := Below.on HB5.out hb6
  obtain ⟨t1, t2, t3, t4, t5, t6⟩ := HI4.out w6 HB6.out
  have HP3 := HS3.out w6 pS pa nS cS ca A (.inl rfl) HNS.out t1 t5
  rw [← HLA.out] at HP3
  clear hb6 HP2 t1 t2 t3 t4 t5 t6
  go_wp2_with fail
  refine HP3.mono ?_
  rintro e w7 ⟨q7, m7, c7, rfl, hb7⟩
  have HB7 : Hid (Below w4.heap.size w4 w7) := Below.on HB6.out hb7
  obtain ⟨t1, t2, t3, t4, t5, t6⟩ := HI4.out w7 HB7.out
  have HP4 := HS3.out w7 pS pb nS cS cb Bc (.inr rfl) HNS.out t1 t6
  rw [← HLB.out] at HP4
  clear hb7 HP3 t1 t2 t3 t4 t5 t6
  go_wp2_with fail
  refine HP4.mono ?_
  rintro e w8 ⟨q8, m8, c8, rfl, hb8⟩
  have FIN : Hid (Below w.heap.size w w8) := Below.on HW4.out (Below.on HB7.out hb8)
  clear hb8 HP4
  go_wp2_with fail
  go_ret
  exact ⟨rfl, FIN.out⟩
end Go.Proofs.YtaakpdakeolgeaaGreat

