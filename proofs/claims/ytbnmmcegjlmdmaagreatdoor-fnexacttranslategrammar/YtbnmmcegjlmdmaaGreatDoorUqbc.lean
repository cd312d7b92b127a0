/- Texts of GrZ3, GrZ4, GrZ5, GrZ6. Own work of the verifier. -/
import Derived.Test.YtbnmmcegjlmdmaaGreatDoorUqbb
import Derived.Test.YtbnmmcegjlmdmaaGreatDoorUqan
namespace Go.Proofs.YtbnmmcegjlmdmaaGreatDoor
open Go Go.RowKit Go.Maps Go.Shelf
set_option linter.unusedVariables false
set_option linter.unusedSimpArgs false
set_option maxRecDepth 100000 in
set_option maxHeartbeats 8000000 in
theorem clauseB_any {w0 : World} {gp gb nb : Nat} {a a2 : Addr} (l r : Tr) (y1 y2 : TypeId) (u1 u2 : Value) (Bt Bt2 : Nat) (nx : Int) (w : World) (hl : l.fo.ok) (hr : r.fo.ok) (hfl : FoIn w0 Bt l.fo [.iface y1 u1]) (hfr : FoIn w0 Bt2 r.fo [.iface y2 u2]) (hll : (itC l).length ≤ 2000) (hlr : (itC r).length ≤ 2000) (hnx : 0 ≤ nx ∧ nx + 5000 ≤ 1100000) (h : GMi w0 gp gb nb a a2 (nx, 0) w) (hc : l.1 = cComma) :
    Calls Tryz.prog 48 #[ptrV gb, .iface y1 u1, .iface y2 u2] w (GOutI w0 gp gb nb a a2 w (gCl failT l r nx)) := by
  obtain ⟨S, n, ok, hFO, hiff⟩ := fun_of hl hfl
  obtain ⟨Wd, eD⟩ : ∃ Wd, Wd = World.drew w := ⟨_, rfl⟩
  have hMd : GMi w0 gp gb nb a a2 (nx, 0) Wd := by rw [eD]; exact h.drew
  have HFd : Hid (GFr gb nb w Wd) := by rw [eD]; exact GFr.drew gb nb _
  have k1 := hMd.c0
  have HV1 := newVar_any hMd (by simp only; omega)
  have HD1 : Hid (World.drew w = Wd) := eD.symm
  have HFO : Hid (∀ X st, GMi w0 gp gb nb a a2 st X → Calls Tryz.prog 24 #[.iface y1 u1] X fun e w' => e = .returned (.tuple #[.agg #[.string S, .int .i64 n], .bool ok]) ∧ Below X.heap.size X w') := fun X st hX => hFO X hX.bel
  rw [gCl_push failT r nx hc]
  have hk : l.1.1 = 2 ∨ l.1.1 = 3 := by rw [hc]; decide
  obtain ⟨pa, ca, us, hul, hca, _, hAR, hpa, hpz, hfk⟩ := call_parts hl hk hfl
  have hcnt : l.2.count = 2 := count_of hl hc
  have hlen : (trs l.2).length = 2 := by rw [trs_len, hcnt]
  obtain ⟨g, rfl, hgc⟩ := hpa (by rw [hlen]; decide)
  obtain rfl : ca = 2 := hca.trans hlen
  rw [hlen] at hAR
  have f0 := kid_at hfk 0 (by rw [hlen]; decide)
  obtain ⟨y3, u3, ey3⟩ := FoIn.iface f0
  rw [ey3] at f0
  have g0 := hgc 0 (by rw [hlen]; decide)
  rw [ey3] at g0
  have f1 := kid_at hfk 1 (by rw [hlen]; decide)
  obtain ⟨y4, u4, ey4⟩ := FoIn.iface f1
  rw [ey4] at f1
  have g1 := hgc 1 (by rw [hlen]; decide)
  rw [ey4] at g1
  have kk0 := kid_ok hl (i := 0) (by rw [hcnt]; decide)
  have kk1 := kid_ok hl (i := 1) (by rw [hcnt]; decide)
  have hfst := gHd_fst failT (kidG l 0) nx (nx + 1) (nx + 3, 0)
  have HH1 : Hid (∀ X, GMi w0 gp gb nb a a2 (nx + 3, 0) X → Calls Tryz.prog 65 #[ptrV gb, .iface y3 u3, varV nx, varV (nx + 1)] X (GOutI w0 gp gb nb a a2 X (gHd failT (kidG l 0) nx (nx + 1) (nx + 3, 0)))) := fun X hX => head_any (kidG l 0) _ Bt nx (nx + 1) (nx + 3, 0) X kk0.1 f0 hX
  have HP1 : Hid (∀ X, GMi w0 gp gb nb a a2 (gHd failT (kidG l 0) nx (nx + 1) (nx + 3, 0)).2 X → Calls Tryz.prog 58 #[ptrV gb, .iface y2 u2, varV nx, varV (nx + 2)] X (GOutI w0 gp gb nb a a2 X (gPh failT (itC r).length r nx (nx + 2) (gHd failT (kidG l 0) nx (nx + 1) (nx + 3, 0)).2))) := fun X hX => phrI_all w0 gp gb nb a a2 _ r _ Bt2 nx (nx + 2) _ X hr (Nat.le_refl _) hlr hfr ⟨hnx.1, by omega⟩ ⟨by omega, by omega⟩ (by rw [hfst]; simp only; omega) hX
  obtain ⟨r1, e1⟩ : ∃ r1, r1 = gHd failT (kidG l 0) nx (nx + 1) (nx + 3, 0) := ⟨_, rfl⟩
  rw [← e1] at HH1 HP1 ⊢
  obtain ⟨r2, e2⟩ : ∃ r2, r2 = gPh failT (itC r).length r nx (nx + 2) r1.2 := ⟨_, rfl⟩
  rw [← e2] at HP1 ⊢
  have HT1 : Hid (∀ X, GMi w0 gp gb nb a a2 r2.2 X → Calls Tryz.prog 66 #[ptrV gb, .iface y4 u4, varV (nx + 1), varV (nx + 2)] X (GOutI w0 gp gb nb a a2 X (gTer failT (kidG l 1) (nx + 1) (nx + 2) r2.2))) := fun X hX => terminals_any hX (kidG l 1) _ Bt (nx + 1) (nx + 2) kk1.1 (by omega) f1
  obtain ⟨r3, e3⟩ : ∃ r3, r3 = gTer failT (kidG l 1) (nx + 1) (nx + 2) r2.2 := ⟨_, rfl⟩
  rw [← e3] at HT1 ⊢
  have h2n : nx + 1 + 1 = nx + 2 := by omega
  have h3n : nx + 2 + 1 = nx + 3 := by omega
  obtain ⟨hS, hn2⟩ := hiff.1 hc
  subst hn2
  have HKC : Hid (∀ X st, GMi w0 gp gb nb a a2 st X → X.cell? ⟨g, 0, none⟩ = some (.iface y3 u3) ∧ X.cell? ⟨g, 1, none⟩ = some (.iface y4 u4)) := fun X st hX => ⟨(hX.bel.cell (World.block_lt_of_cell? _ _ g0)).trans g0, (hX.bel.cell (World.block_lt_of_cell? _ _ g1)).trans g1⟩
  have HAR : Hid (∀ X st, GMi w0 gp gb nb a a2 st X → Calls Tryz.prog 25 #[.iface y1 u1] X fun e w' => e = .returned (.slice (some ⟨g, 0, none⟩) 2 2) ∧ w' = X) := fun X st hX => hAR X hX.bel
  have HST : Hid (S.toList = [44]) := hS
  clear hl hr hfl hfr hll hlr h hc hMd eD hiff hFO hfst e1 e2 e3 hk hul hca hAR hpz hfk hcnt hlen hgc f0 f1 g0 g1 ey3 ey4 kk0 kk1 hS
  go_enter Tryz.func48, Tryz.ntmps48
  go_wp2_with fail
  refine wp_region_held_drew (S := fun X => X.cell? ⟨gb, 0, none⟩ = some (.func (.func 54) #[] #[ptrV nb])) (by kernel_rfl) ?_ (fun hHeld => ?_)
  · rw [HD1.out]; exact k1
  rw [HD1.out]
  refine hTake (i := 0) (v := ptrV gb) (some 13) (by kernel_rfl) (by kernel_rfl) (by kernel_rfl) (by kernel_rfl) (by kernel_rfl) (fun _ _ _ h => h) (fun o ho W hSw => ?y0) (by assumption) ?_
  case y0 =>
    cases ho
    simp [execOp, go_sem, Act.eval]
  simp only [Act.put, List.setIfInBounds_toArray, List.set_cons_zero, List.set_cons_succ]
  refine hTake (i := 1) (v := ptrV gb) (some 14) (by kernel_rfl) (by kernel_rfl) (by kernel_rfl) (by kernel_rfl) (by kernel_rfl) (fun _ _ _ h => h) (fun o ho W hSw => ?y1) (by assumption) ?_
  case y1 =>
    cases ho
    simp [execOp, go_sem, Act.eval]
  simp only [Act.put, List.setIfInBounds_toArray, List.set_cons_zero, List.set_cons_succ]
  refine hTake (i := 2) (v := .pointer (some ⟨gb, 0, none⟩)) (some 15) (by kernel_rfl) (by kernel_rfl) (by kernel_rfl) (by kernel_rfl) (by kernel_rfl) (fun _ _ _ h => h) (fun o ho W hSw => ?y2) (by assumption) ?_
  case y2 =>
    cases ho
    simp [execOp, go_sem, Act.eval]
  simp only [Act.put, List.setIfInBounds_toArray, List.set_cons_zero, List.set_cons_succ]
  refine hTake (i := 3) (v := .func (.func 54) #[] #[ptrV nb]) (some 16) (by kernel_rfl) (by kernel_rfl) (by kernel_rfl) (by kernel_rfl) (by kernel_rfl) (fun _ _ _ h => h) (fun o ho W hSw => ?y3) (by assumption) ?_
  case y3 =>
    cases ho
    have kk := hSw
    simp [execOp, go_sem, Act.eval, kk]
  simp only [Act.put, List.setIfInBounds_toArray, List.set_cons_zero, List.set_cons_succ]
  refine hTake (i := 5) (v := ptrV gb) (some 18) (by kernel_rfl) (by kernel_rfl) (by kernel_rfl) (by kernel_rfl) (by kernel_rfl) (fun _ _ _ h => h) (fun o ho W hSw => ?y4) (by assumption) ?_
  case y4 =>
    cases ho
    simp [execOp, go_sem, Act.eval]
  simp only [Act.put, List.setIfInBounds_toArray, List.set_cons_zero, List.set_cons_succ]
  refine hTake (i := 6) (v := ptrV gb) (some 19) (by kernel_rfl) (by kernel_rfl) (by kernel_rfl) (by kernel_rfl) (by kernel_rfl) (fun _ _ _ h => h) (fun o ho W hSw => ?y5) (by assumption) ?_
  case y5 =>
    cases ho
    simp [execOp, go_sem, Act.eval]
  simp only [Act.put, List.setIfInBounds_toArray, List.set_cons_zero, List.set_cons_succ]
  refine hTake (i := 7) (v := .pointer (some ⟨gb, 0, none⟩)) (some 20) (by kernel_rfl) (by kernel_rfl) (by kernel_rfl) (by kernel_rfl) (by kernel_rfl) (fun _ _ _ h => h) (fun o ho W hSw => ?y6) (by assumption) ?_
  case y6 =>
    cases ho
    simp [execOp, go_sem, Act.eval]
  simp only [Act.put, List.setIfInBounds_toArray, List.set_cons_zero, List.set_cons_succ]
  refine hTake (i := 8) (v := .func (.func 54) #[] #[ptrV nb]) (some 21) (by kernel_rfl) (by kernel_rfl) (by kernel_rfl) (by kernel_rfl) (by kernel_rfl) (fun _ _ _ h => h) (fun o ho W hSw => ?y7) (by assumption) ?_
  case y7 =>
    cases ho
    have kk := hSw
    simp [execOp, go_sem, Act.eval, kk]
  simp only [Act.put, List.setIfInBounds_toArray, List.set_cons_zero, List.set_cons_succ]
  refine hCallE (i := 4) (f := 54) (args := #[ptrV nb]) (some 17) (by kernel_rfl) (by kernel_rfl) (by kernel_rfl) (fun o ho => ?c8) HV1 ?k8 (fun ch w' hh => by cases hh.1) (fun w' hh => by cases hh.1)
  case c8 =>
    cases ho
    simp [execOp, go_sem, Act.eval]
  case k8 =>
    rintro qv1 v1 ⟨hz, hm, hf⟩
    obtain rfl := Ending.returned.inj hz
    have HMv1 : Hid (GMi w0 gp gb nb a a2 (nx + 1, 0) v1) := hm
    have HFv1 : Hid (GFr gb nb w v1) := (HFd.out.trans hf)
    have kv1 : v1.cell? ⟨gb, 0, none⟩ = some (.func (.func 54) #[] #[ptrV nb]) := hm.c0
    have HV2 := newVar_any hm (by simp only; omega)
    clear hz hm hf HV1
    refine ⟨kv1, ?_⟩
    simp only [Act.put, List.setIfInBounds_toArray, List.set_cons_zero, List.set_cons_succ]
    refine hCallE (i := 9) (f := 54) (args := #[ptrV nb]) (some 22) (by kernel_rfl) (by kernel_rfl) (by kernel_rfl) (fun o ho => ?c9) HV2 ?k9 (fun ch w' hh => by cases hh.1) (fun w' hh => by cases hh.1)
    case c9 =>
      cases ho
      simp [execOp, go_sem, Act.eval]
    case k9 =>
      rintro qv2 v2 ⟨hz, hm, hf⟩
      obtain rfl := Ending.returned.inj hz
      have HMv2 : Hid (GMi w0 gp gb nb a a2 (nx + 1 + 1, 0) v2) := hm
      have HFv2 : Hid (GFr gb nb w v2) := (HFv1.out.trans hf)
      have kv2 : v2.cell? ⟨gb, 0, none⟩ = some (.func (.func 54) #[] #[ptrV nb]) := hm.c0
      clear hz hm hf HV2
      refine ⟨kv2, ?_⟩
      simp only [Act.put, List.setIfInBounds_toArray, List.set_cons_zero, List.set_cons_succ]
      refine hTake (i := 10) (v := varV nx) (some 7) (by kernel_rfl) (by kernel_rfl) (by kernel_rfl) (by kernel_rfl) (by kernel_rfl) (fun _ _ _ h => h) (fun o ho W hSw => ?y10) (by assumption) ?_
      case y10 =>
        cases ho
        simp [execOp, go_sem, Act.eval]
      simp only [Act.put, List.setIfInBounds_toArray, List.set_cons_zero, List.set_cons_succ]
      refine hTake (i := 11) (v := varV (nx + 1)) (some 8) (by kernel_rfl) (by kernel_rfl) (by kernel_rfl) (by kernel_rfl) (by kernel_rfl) (fun _ _ _ h => h) (fun o ho W hSw => ?y11) (by assumption) ?_
      case y11 =>
        cases ho
        simp [execOp, go_sem, Act.eval]
      simp only [Act.put, List.setIfInBounds_toArray, List.set_cons_zero, List.set_cons_succ]
      refine wpAnyH_done (by kernel_rfl) ?_ _
      change Exit.then _ _ _ _ v2
      rw [h2n] at HMv2
      have HC1 := HFO.out v2 _ HMv2.out
      clear HFO
      go_wp2_with fail
      refine HC1.mono ?_
      rintro e w1 ⟨rfl, hb1⟩
      obtain ⟨W1, eW⟩ : ∃ W1, W1 = w1.alloc (.cells #[.string S, .int .i64 2] 52) := ⟨_, rfl⟩
      obtain ⟨We, eE⟩ : ∃ We, We = W1.drew := ⟨_, rfl⟩
      have hb2 : Below v2.heap.size v2 We := by rw [eE, eW]; exact (Below.on hb1 (below_new _ _)).drew
      have HMe : Hid (GMi w0 gp gb nb a a2 (nx + 2, 0) We) := HMv2.out.below hb2
      have HFe : Hid (GFr gb nb w We) := HFv2.out.trans (GFr.of gb nb hb2)
      have HW1 : Hid (W1 = w1.alloc (.cells #[.string S, .int .i64 2] 52)) := eW
      have HDE : Hid (W1.drew = We) := eE.symm
      have HCA := HAR.out We _ HMe.out
      have HVE := newVar_any HMe.out (by simp only; omega)
      have kE := HMe.out.c0
      have hS := HST.out
      clear hb1 hb2 HC1 eW eE
      go_wp2_with fail
      rw [← HW1.out]
      refine wp_region_held_drew (S := fun X => X.cell? ⟨gb, 0, none⟩ = some (.func (.func 54) #[] #[ptrV nb])) (by kernel_rfl) ?_ (fun hHeld => ?_)
      · rw [HDE.out]; exact kE
      rw [HDE.out]
      refine hTake (i := 0) (v := .iface y1 u1) (some 43) (by kernel_rfl) (by kernel_rfl) (by kernel_rfl) (by kernel_rfl) (by kernel_rfl) (fun _ _ _ h => h) (fun o ho W hSw => ?y12) (by assumption) ?_
      case y12 =>
        cases ho
        simp [execOp, go_sem, Act.eval]
      simp only [Act.put, List.setIfInBounds_toArray, List.set_cons_zero, List.set_cons_succ]
      refine hTake (i := 2) (v := ptrV gb) (some 45) (by kernel_rfl) (by kernel_rfl) (by kernel_rfl) (by kernel_rfl) (by kernel_rfl) (fun _ _ _ h => h) (fun o ho W hSw => ?y13) (by assumption) ?_
      case y13 =>
        cases ho
        simp [execOp, go_sem, Act.eval]
      simp only [Act.put, List.setIfInBounds_toArray, List.set_cons_zero, List.set_cons_succ]
      refine hTake (i := 3) (v := ptrV gb) (some 46) (by kernel_rfl) (by kernel_rfl) (by kernel_rfl) (by kernel_rfl) (by kernel_rfl) (fun _ _ _ h => h) (fun o ho W hSw => ?y14) (by assumption) ?_
      case y14 =>
        cases ho
        simp [execOp, go_sem, Act.eval]
      simp only [Act.put, List.setIfInBounds_toArray, List.set_cons_zero, List.set_cons_succ]
      refine hTake (i := 4) (v := .pointer (some ⟨gb, 0, none⟩)) (some 47) (by kernel_rfl) (by kernel_rfl) (by kernel_rfl) (by kernel_rfl) (by kernel_rfl) (fun _ _ _ h => h) (fun o ho W hSw => ?y15) (by assumption) ?_
      case y15 =>
        cases ho
        simp [execOp, go_sem, Act.eval]
      simp only [Act.put, List.setIfInBounds_toArray, List.set_cons_zero, List.set_cons_succ]
      refine hTake (i := 5) (v := .func (.func 54) #[] #[ptrV nb]) (some 48) (by kernel_rfl) (by kernel_rfl) (by kernel_rfl) (by kernel_rfl) (by kernel_rfl) (fun _ _ _ h => h) (fun o ho W hSw => ?y16) (by assumption) ?_
      case y16 =>
        cases ho
        have kk := hSw
        simp [execOp, go_sem, Act.eval, kk]
      simp only [Act.put, List.setIfInBounds_toArray, List.set_cons_zero, List.set_cons_succ]
      refine hCallE (i := 1) (f := 25) (args := #[.iface y1 u1]) (some 44) (by kernel_rfl) (by kernel_rfl) (by kernel_rfl) (fun o ho => ?c17) HCA ?k17 (fun ch w' hh => by cases hh.1) (fun w' hh => by cases hh.1)
      case c17 =>
        cases ho
        simp [execOp, go_sem, Act.eval]
      case k17 =>
        rintro qa wa ⟨hz, hwa⟩
        obtain rfl := Ending.returned.inj hz
        rw [hwa]
        clear hz hwa wa HCA
        refine ⟨kE, ?_⟩
        simp only [Act.put, List.setIfInBounds_toArray, List.set_cons_zero, List.set_cons_succ]
        refine hCallE (i := 6) (f := 54) (args := #[ptrV nb]) (some 49) (by kernel_rfl) (by kernel_rfl) (by kernel_rfl) (fun o ho => ?c18) HVE ?k18 (fun ch w' hh => by cases hh.1) (fun w' hh => by cases hh.1)
        case c18 =>
          cases ho
          simp [execOp, go_sem, Act.eval]
        case k18 =>
          rintro qb v3 ⟨hz, hm, hf⟩
          obtain rfl := Ending.returned.inj hz
          have hm' : GMi w0 gp gb nb a a2 (nx + 3, 0) v3 := by rw [← h3n]; exact hm
          have HM3 : Hid (GMi w0 gp gb nb a a2 (nx + 3, 0) v3) := hm'
          have HF3 : Hid (GFr gb nb w v3) := HFe.out.trans hf
          have k3 := hm.c0
          clear hz hm hf hm' HVE
          refine ⟨k3, ?_⟩
          simp only [Act.put, List.setIfInBounds_toArray, List.set_cons_zero, List.set_cons_succ]
          refine hTake (i := 7) (v := .slice (some ⟨g, 0, none⟩) 2 2) (some 11) (by kernel_rfl) (by kernel_rfl) (by kernel_rfl) (by kernel_rfl) (by kernel_rfl) (fun _ _ _ h => h) (fun o ho W hSw => ?y19) (by assumption) ?_
          case y19 =>
            cases ho
            simp [execOp, go_sem, Act.eval]
          simp only [Act.put, List.setIfInBounds_toArray, List.set_cons_zero, List.set_cons_succ]
          refine hTake (i := 8) (v := varV (nx + 2)) (some 12) (by kernel_rfl) (by kernel_rfl) (by kernel_rfl) (by kernel_rfl) (by kernel_rfl) (fun _ _ _ h => h) (fun o ho W hSw => ?y20) (by assumption) ?_
          case y20 =>
            cases ho
            simp [execOp, go_sem, Act.eval]
          simp only [Act.put, List.setIfInBounds_toArray, List.set_cons_zero, List.set_cons_succ]
          refine wpAnyH_done (by kernel_rfl) ?_ _
          change Exit.then _ _ _ _ v3
          obtain ⟨Wf, eF⟩ : ∃ Wf, Wf = v3.drew := ⟨_, rfl⟩
          have HMf : Hid (GMi w0 gp gb nb a a2 (nx + 3, 0) Wf) := by rw [eF]; exact HM3.out.drew
          have HFf : Hid (GFr gb nb w Wf) := by rw [eF]; exact HF3.out.trans (GFr.drew gb nb _)
          have HDF : Hid (v3.drew = Wf) := eF.symm
          have hSf := HKC.out Wf _ HMf.out
          have HC2 := HH1.out Wf HMf.out
          clear eF HM3 HF3
          go_wp2_with fail
          refine wp_region_held_drew (S := fun X => X.cell? ⟨g, 0, none⟩ = some (.iface y3 u3) ∧ X.cell? ⟨g, 1, none⟩ = some (.iface y4 u4)) (by kernel_rfl) ?_ (fun hHeld => ?_)
          · rw [HDF.out]; exact hSf
          rw [HDF.out]
          refine hTake (i := 0) (v := ptrV gb) (some 50) (by kernel_rfl) (by kernel_rfl) (by kernel_rfl) (by kernel_rfl) (by kernel_rfl) (fun _ _ _ h => h) (fun o ho W hSw => ?y21) (by assumption) ?_
          case y21 =>
            cases ho
            simp [execOp, go_sem, Act.eval]
          simp only [Act.put, List.setIfInBounds_toArray, List.set_cons_zero, List.set_cons_succ]
          refine hTake (i := 1) (v := .slice (some ⟨g, 0, none⟩) 2 2) (some 51) (by kernel_rfl) (by kernel_rfl) (by kernel_rfl) (by kernel_rfl) (by kernel_rfl) (fun _ _ _ h => h) (fun o ho W hSw => ?y22) (by assumption) ?_
          case y22 =>
            cases ho
            simp [execOp, go_sem, Act.eval]
          simp only [Act.put, List.setIfInBounds_toArray, List.set_cons_zero, List.set_cons_succ]
          refine hTake (i := 2) (v := .pointer (some ⟨g, 0, none⟩)) (some 52) (by kernel_rfl) (by kernel_rfl) (by kernel_rfl) (by kernel_rfl) (by kernel_rfl) (fun _ _ _ h => h) (fun o ho W hSw => ?y23) (by assumption) ?_
          case y23 =>
            cases ho
            simp [execOp, go_sem, Act.eval]
          simp only [Act.put, List.setIfInBounds_toArray, List.set_cons_zero, List.set_cons_succ]
          refine hTake (i := 3) (v := .iface y3 u3) (some 53) (by kernel_rfl) (by kernel_rfl) (by kernel_rfl) (by kernel_rfl) (by kernel_rfl) (fun _ _ _ h => h) (fun o ho W hSw => ?y24) (by assumption) ?_
          case y24 =>
            cases ho
            obtain ⟨kk0, kk1⟩ := hSw
            simp [execOp, go_sem, Act.eval, kk0]
          simp only [Act.put, List.setIfInBounds_toArray, List.set_cons_zero, List.set_cons_succ]
          refine hTake (i := 4) (v := varV nx) (some 54) (by kernel_rfl) (by kernel_rfl) (by kernel_rfl) (by kernel_rfl) (by kernel_rfl) (fun _ _ _ h => h) (fun o ho W hSw => ?y25) (by assumption) ?_
          case y25 =>
            cases ho
            simp [execOp, go_sem, Act.eval]
          simp only [Act.put, List.setIfInBounds_toArray, List.set_cons_zero, List.set_cons_succ]
          refine hTake (i := 5) (v := varV (nx + 1)) (some 55) (by kernel_rfl) (by kernel_rfl) (by kernel_rfl) (by kernel_rfl) (by kernel_rfl) (fun _ _ _ h => h) (fun o ho W hSw => ?y26) (by assumption) ?_
          case y26 =>
            cases ho
            simp [execOp, go_sem, Act.eval]
          simp only [Act.put, List.setIfInBounds_toArray, List.set_cons_zero, List.set_cons_succ]
          refine hTake (i := 7) (v := ptrV gb) (some 57) (by kernel_rfl) (by kernel_rfl) (by kernel_rfl) (by kernel_rfl) (by kernel_rfl) (fun _ _ _ h => h) (fun o ho W hSw => ?y27) (by assumption) ?_
          case y27 =>
            cases ho
            simp [execOp, go_sem, Act.eval]
          simp only [Act.put, List.setIfInBounds_toArray, List.set_cons_zero, List.set_cons_succ]
          refine hTake (i := 8) (v := .iface y2 u2) (some 58) (by kernel_rfl) (by kernel_rfl) (by kernel_rfl) (by kernel_rfl) (by kernel_rfl) (fun _ _ _ h => h) (fun o ho W hSw => ?y28) (by assumption) ?_
          case y28 =>
            cases ho
            simp [execOp, go_sem, Act.eval]
          simp only [Act.put, List.setIfInBounds_toArray, List.set_cons_zero, List.set_cons_succ]
          refine hTake (i := 9) (v := varV nx) (some 59) (by kernel_rfl) (by kernel_rfl) (by kernel_rfl) (by kernel_rfl) (by kernel_rfl) (fun _ _ _ h => h) (fun o ho W hSw => ?y29) (by assumption) ?_
          case y29 =>
            cases ho
            simp [execOp, go_sem, Act.eval]
          simp only [Act.put, List.setIfInBounds_toArray, List.set_cons_zero, List.set_cons_succ]
          refine hTake (i := 10) (v := varV (nx + 2)) (some 60) (by kernel_rfl) (by kernel_rfl) (by kernel_rfl) (by kernel_rfl) (by kernel_rfl) (fun _ _ _ h => h) (fun o ho W hSw => ?y30) (by assumption) ?_
          case y30 =>
            cases ho
            simp [execOp, go_sem, Act.eval]
          simp only [Act.put, List.setIfInBounds_toArray, List.set_cons_zero, List.set_cons_succ]
          refine hTake (i := 12) (v := ptrV gb) (some 62) (by kernel_rfl) (by kernel_rfl) (by kernel_rfl) (by kernel_rfl) (by kernel_rfl) (fun _ _ _ h => h) (fun o ho W hSw => ?y31) (by assumption) ?_
          case y31 =>
            cases ho
            simp [execOp, go_sem, Act.eval]
          simp only [Act.put, List.setIfInBounds_toArray, List.set_cons_zero, List.set_cons_succ]
          refine hTake (i := 13) (v := .slice (some ⟨g, 0, none⟩) 2 2) (some 63) (by kernel_rfl) (by kernel_rfl) (by kernel_rfl) (by kernel_rfl) (by kernel_rfl) (fun _ _ _ h => h) (fun o ho W hSw => ?y32) (by assumption) ?_
          case y32 =>
            cases ho
            simp [execOp, go_sem, Act.eval]
          simp only [Act.put, List.setIfInBounds_toArray, List.set_cons_zero, List.set_cons_succ]
          refine hTake (i := 14) (v := .pointer (some ⟨g, 1, none⟩)) (some 64) (by kernel_rfl) (by kernel_rfl) (by kernel_rfl) (by kernel_rfl) (by kernel_rfl) (fun _ _ _ h => h) (fun o ho W hSw => ?y33) (by assumption) ?_
          case y33 =>
            cases ho
            simp [execOp, go_sem, Act.eval]
          simp only [Act.put, List.setIfInBounds_toArray, List.set_cons_zero, List.set_cons_succ]
          refine hTake (i := 15) (v := .iface y4 u4) (some 65) (by kernel_rfl) (by kernel_rfl) (by kernel_rfl) (by kernel_rfl) (by kernel_rfl) (fun _ _ _ h => h) (fun o ho W hSw => ?y34) (by assumption) ?_
          case y34 =>
            cases ho
            obtain ⟨kk0, kk1⟩ := hSw
            simp [execOp, go_sem, Act.eval, kk1]
          simp only [Act.put, List.setIfInBounds_toArray, List.set_cons_zero, List.set_cons_succ]
          refine hTake (i := 16) (v := varV (nx + 1)) (some 66) (by kernel_rfl) (by kernel_rfl) (by kernel_rfl) (by kernel_rfl) (by kernel_rfl) (fun _ _ _ h => h) (fun o ho W hSw => ?y35) (by assumption) ?_
          case y35 =>
            cases ho
            simp [execOp, go_sem, Act.eval]
          simp only [Act.put, List.setIfInBounds_toArray, List.set_cons_zero, List.set_cons_succ]
          refine hTake (i := 17) (v := varV (nx + 2)) (some 67) (by kernel_rfl) (by kernel_rfl) (by kernel_rfl) (by kernel_rfl) (by kernel_rfl) (fun _ _ _ h => h) (fun o ho W hSw => ?y36) (by assumption) ?_
          case y36 =>
            cases ho
            simp [execOp, go_sem, Act.eval]
          simp only [Act.put, List.setIfInBounds_toArray, List.set_cons_zero, List.set_cons_succ]
          refine hCallE (i := 6) (f := 65) (args := #[ptrV gb, .iface y3 u3, varV nx, varV (nx + 1)]) (some 56) (by kernel_rfl) (by kernel_rfl) (by kernel_rfl) (fun o ho => ?c37) HC2 ?k37 (fun ch w' hh => by obtain ⟨_, h, _⟩ := hh; cases h) (fun w' hh => by obtain ⟨_, h, _⟩ := hh; cases h)
          case c37 =>
            cases ho
            simp [execOp, go_sem, Act.eval]
          case k37 =>
            rintro q1 a1 ⟨z1, hz1, hfo1, hm1, hfr1⟩
            obtain rfl := Ending.returned.inj hz1
            obtain ⟨t1, x1, rfl⟩ := foC_if hfo1
            have HC3 := HP1.out a1 hm1
            have hS1 := HKC.out a1 _ hm1
            have HO1 : Hid (FoC a1 r1.1.fo [.iface t1 x1]) := hfo1
            have HM1 : Hid (GMi w0 gp gb nb a a2 r1.2 a1) := hm1
            have HF1 : Hid (GFr gb nb w a1) := HFf.out.trans hfr1
            clear hz1 hfo1 hm1 hfr1 HC2 HP1 HH1
            refine ⟨hS1, ?_⟩
            simp only [Act.put, List.setIfInBounds_toArray, List.set_cons_zero, List.set_cons_succ]
            refine hCallE (i := 11) (f := 58) (args := #[ptrV gb, .iface y2 u2, varV nx, varV (nx + 2)]) (some 61) (by kernel_rfl) (by kernel_rfl) (by kernel_rfl) (fun o ho => ?c38) HC3 ?k38 (fun ch w' hh => by obtain ⟨_, h, _⟩ := hh; cases h) (fun w' hh => by obtain ⟨_, h, _⟩ := hh; cases h)
            case c38 =>
              cases ho
              simp [execOp, go_sem, Act.eval]
            case k38 =>
              rintro q2 a2' ⟨z2, hz2, hfo2, hm2, hfr2⟩
              obtain rfl := Ending.returned.inj hz2
              obtain ⟨t2, x2, rfl⟩ := foC_if hfo2
              have HC4 := HT1.out a2' hm2
              have hS2 := HKC.out a2' _ hm2
              have HO1b : Hid (FoC a2' r1.1.fo [.iface t1 x1]) := HM1.out.tree hfr2 HO1.out
              have HO2 : Hid (FoC a2' r2.1.fo [.iface t2 x2]) := hfo2
              have HM2 : Hid (GMi w0 gp gb nb a a2 r2.2 a2') := hm2
              have HF2 : Hid (GFr gb nb w a2') := HF1.out.trans hfr2
              clear hz2 hfo2 hm2 hfr2 HC3 HT1
              refine ⟨hS2, ?_⟩
              simp only [Act.put, List.setIfInBounds_toArray, List.set_cons_zero, List.set_cons_succ]
              refine hCallE (i := 18) (f := 66) (args := #[ptrV gb, .iface y4 u4, varV (nx + 1), varV (nx + 2)]) (some 68) (by kernel_rfl) (by kernel_rfl) (by kernel_rfl) (fun o ho => ?c39) HC4 ?k39 (fun ch w' hh => by obtain ⟨_, h, _⟩ := hh; cases h) (fun w' hh => by obtain ⟨_, h, _⟩ := hh; cases h)
              case c39 =>
                cases ho
                simp [execOp, go_sem, Act.eval]
              case k39 =>
                rintro q3 a3 ⟨z3, hz3, hfo3, hm3, hfr3⟩
                obtain rfl := Ending.returned.inj hz3
                obtain ⟨t3, x3, rfl⟩ := foC_if hfo3
                have hS3 := HKC.out a3 _ hm3
                have HO1c : Hid (FoC a3 r1.1.fo [.iface t1 x1]) := HM2.out.tree hfr3 HO1b.out
                have HC5 := call2_any [44] ⟨#[44]⟩ rfl r2.1 r3.1 (.iface t2 x2) (.iface t3 x3) a3 (HM2.out.tree hfr3 HO2.out) hfo3
                have HM3 : Hid (GMi w0 gp gb nb a a2 r3.2 a3) := hm3
                have HF3 : Hid (GFr gb nb w a3) := HF2.out.trans hfr3
                obtain ⟨Y1, eY1⟩ : ∃ Y1, Y1 = a3.alloc (.cells #[.iface t2 x2, .iface t3 x3] 49) := ⟨_, rfl⟩
                have hSY1 := HKC.out Y1 _ (hm3.below (by rw [eY1]; exact below_new _ _))
                rw [← eY1] at HC5
                have HY1 : Hid (a3.alloc (.cells #[.iface t2 x2, .iface t3 x3] 49) = Y1) := eY1.symm
                clear hz3 hfo3 hm3 hfr3 HC4 eY1
                refine ⟨hS3, ?_⟩
                simp only [Act.put, List.setIfInBounds_toArray, List.set_cons_zero, List.set_cons_succ]
                refine hStep (i := 19) (v := .slice (some ⟨a3.heap.size, 0, none⟩) 2 2) (w' := Y1) (some 69) (by kernel_rfl) (by kernel_rfl) (by kernel_rfl) (fun o ho => ?y40) hSY1 ?_
                case y40 =>
                  cases ho
                  simp [execOp, go_sem, Act.eval]
                  exact HY1.out
                simp only [Act.put, List.setIfInBounds_toArray, List.set_cons_zero, List.set_cons_succ]
                refine hCallE (i := 20) (f := 57) (args := #[.string ⟨#[44]⟩, .slice (some ⟨a3.heap.size, 0, none⟩) 2 2]) (some 70) (by kernel_rfl) (by kernel_rfl) (by kernel_rfl) (fun o ho => ?c41) HC5 ?k41 (fun ch w' hh => by obtain ⟨_, h, _⟩ := hh; cases h) (fun w' hh => by obtain ⟨_, h, _⟩ := hh; cases h)
                case c41 =>
                  cases ho
                  simp [execOp, go_sem, Act.eval]
                case k41 =>
                  rintro q4 a4 ⟨z4, hz4, hfo4, hb4⟩
                  obtain rfl := Ending.returned.inj hz4
                  obtain ⟨t4, x4, rfl⟩ := foC_if hfo4
                  have hm4 := HM3.out.below hb4
                  have hS4 := HKC.out a4 _ hm4
                  have HC6 := call2_any [58, 45] ⟨#[58, 45]⟩ rfl r1.1 (cmpT [44] [r2.1, r3.1]) (.iface t1 x1) (.iface t4 x4) a4 (HO1c.out.below hb4) hfo4
                  have HM4 : Hid (GMi w0 gp gb nb a a2 r3.2 a4) := hm4
                  have HF4 : Hid (GFr gb nb w a4) := HF3.out.trans (GFr.of gb nb hb4)
                  obtain ⟨Y2, eY2⟩ : ∃ Y2, Y2 = a4.alloc (.cells #[.iface t1 x1, .iface t4 x4] 49) := ⟨_, rfl⟩
                  have hSY2 := HKC.out Y2 _ (hm4.below (by rw [eY2]; exact below_new _ _))
                  rw [← eY2] at HC6
                  have HY2 : Hid (a4.alloc (.cells #[.iface t1 x1, .iface t4 x4] 49) = Y2) := eY2.symm
                  clear hz4 hfo4 hb4 hm4 HC5 eY2
                  refine ⟨hS4, ?_⟩
                  simp only [Act.put, List.setIfInBounds_toArray, List.set_cons_zero, List.set_cons_succ]
                  refine hStep (i := 21) (v := .slice (some ⟨a4.heap.size, 0, none⟩) 2 2) (w' := Y2) (some 71) (by kernel_rfl) (by kernel_rfl) (by kernel_rfl) (fun o ho => ?y42) hSY2 ?_
                  case y42 =>
                    cases ho
                    simp [execOp, go_sem, Act.eval]
                    exact HY2.out
                  simp only [Act.put, List.setIfInBounds_toArray, List.set_cons_zero, List.set_cons_succ]
                  refine hCallE (i := 22) (f := 57) (args := #[.string ⟨#[58, 45]⟩, .slice (some ⟨a4.heap.size, 0, none⟩) 2 2]) (some 72) (by kernel_rfl) (by kernel_rfl) (by kernel_rfl) (fun o ho => ?c43) HC6 ?k43 (fun ch w' hh => by obtain ⟨_, h, _⟩ := hh; cases h) (fun w' hh => by obtain ⟨_, h, _⟩ := hh; cases h)
                  case c43 =>
                    cases ho
                    simp [execOp, go_sem, Act.eval]
                  case k43 =>
                    rintro q5 a5 h5
                    have hb5 : Below a4.heap.size a4 a5 := by obtain ⟨_, _, _, hb⟩ := h5; exact hb
                    have hS5 := HKC.out a5 _ (HM4.out.below hb5)
                    have HG : Hid (GOutI w0 gp gb nb a a2 w (cmpT [58, 45] [r1.1, cmpT [44] [r2.1, r3.1]], r3.2) (.returned q5) a5) := (GOutI.tree HM4.out h5).from HF4.out
                    clear h5 hb5 HC6
                    refine ⟨hS5, ?_⟩
                    simp only [Act.put, List.setIfInBounds_toArray, List.set_cons_zero, List.set_cons_succ]
                    refine hTake (i := 23) (v := q5) (some 6) (by kernel_rfl) (by kernel_rfl) (by kernel_rfl) (by kernel_rfl) (by kernel_rfl) (fun _ _ _ h => h) (fun o ho W hSw => ?y44) (by assumption) ?_
                    case y44 =>
                      cases ho
                      simp [execOp, go_sem, Act.eval]
                    simp only [Act.put, List.setIfInBounds_toArray, List.set_cons_zero, List.set_cons_succ]
                    refine wpAnyH_done (by kernel_rfl) ?_ _
                    change Exit.then _ _ _ _ a5
                    go_wp2_with fail
                    go_ret
                    exact HG.out
theorem clause_any {w0 : World} {gp gb nb : Nat} {a a2 : Addr} (l r : Tr) (y1 y2 : TypeId) (u1 u2 : Value) (Bt Bt2 : Nat) (nx : Int) (w : World) (hl : l.fo.ok) (hr : r.fo.ok) (hfl : FoIn w0 Bt l.fo [.iface y1 u1]) (hfr : FoIn w0 Bt2 r.fo [.iface y2 u2]) (hll : (itC l).length ≤ 2000) (hlr : (itC r).length ≤ 2000) (hnx : 0 ≤ nx ∧ nx + 5000 ≤ 1100000) (h : GMi w0 gp gb nb a a2 (nx, 0) w) :
    Calls Tryz.prog 48 #[ptrV gb, .iface y1 u1, .iface y2 u2] w (GOutI w0 gp gb nb a a2 w (gCl failT l r nx)) := by
  by_cases hc : l.1 = cComma
  · exact clauseB_any l r y1 y2 u1 u2 Bt Bt2 nx w hl hr hfl hfr hll hlr hnx h hc
  · exact clauseP_any l r y1 y2 u1 u2 Bt Bt2 nx w hl hr hfl hfr hll hlr hnx h hc
end Go.Proofs.YtbnmmcegjlmdmaaGreatDoor

namespace Go.Proofs.YtbnmmcegjlmdmaaGreatDoor
open Go Go.RowKit Go.Maps Go.Shelf
set_option linter.unusedVariables false
set_option linter.unusedSimpArgs false
def mxL : Int → List Int → Int
  | m, [] => m
  | m, x :: r => mxL (if x + 1 > m then x + 1 else m) r
theorem mxL_snoc : ∀ (l : List Int) (x m : Int), mxL m (l ++ [x]) = if x + 1 > mxL m l then x + 1 else mxL m l
  | [], x, m => rfl
  | y :: r, x, m => mxL_snoc r x _
theorem mxL_range : ∀ (l : List Int) (m : Int), 0 ≤ m → m ≤ 1100001 → (∀ x ∈ l, 0 ≤ x ∧ x ≤ 1100000) → 0 ≤ mxL m l ∧ mxL m l ≤ 1100001
  | [], m, h0, h1, _ => ⟨h0, h1⟩
  | x :: r, m, h0, h1, h => by
    have hx := h x (by simp)
    exact mxL_range r _ (by split <;> omega) (by split <;> omega) (fun y hy => h y (by simp [hy]))
theorem mxL_ge : ∀ (l : List Int) (m : Int), m ≤ mxL m l ∧ ∀ x ∈ l, x < mxL m l
  | [], m => ⟨Int.le_refl _, fun x hx => by cases hx⟩
  | y :: r, m => by
    have h := mxL_ge r (if y + 1 > m then y + 1 else m)
    refine ⟨?_, fun x hx => ?_⟩
    · show m ≤ mxL (if y + 1 > m then y + 1 else m) r
      have := h.1
      split at this <;> split <;> omega
    · show x < mxL (if y + 1 > m then y + 1 else m) r
      rcases List.mem_cons.1 hx with rfl | hx
      · have := h.1
        split at this <;> split <;> omega
      · exact h.2 x hx
theorem mxL_at : ∀ (l : List Int) (m : Int), mxL m l = m ∨ ∃ x ∈ l, mxL m l = x + 1
  | [], m => .inl rfl
  | y :: r, m => by
    rcases mxL_at r (if y + 1 > m then y + 1 else m) with h | ⟨x, hx, h⟩
    · by_cases hy : y + 1 > m
      · right; exact ⟨y, by simp, by show mxL _ r = _; rw [h, if_pos hy]⟩
      · left; show mxL _ r = _; rw [h, if_neg hy]
    · right; exact ⟨x, by simp [hx], h⟩
theorem mem_visitsG : ∀ (cs : List Cel) (ks : List Int) (x : Int), x ∈ visits ks cs ↔ x ∈ ks ∨ ∃ c ∈ cs, c.1 = 0 ∧ c.2.1 = x
  | [], ks, x => by simp [visits]
  | c :: r, ks, x => by
    rw [visits_cons, mem_visitsG r]
    have hv : x ∈ visitL ks c ↔ x ∈ ks ∨ (c.1 = 0 ∧ c.2.1 = x) := by
      unfold visitL
      split
      · rename_i h0
        unfold putV
        split
        · rename_i hm
          constructor
          · exact fun h => .inl h
          · rintro (h | ⟨_, h⟩)
            · exact h
            · rw [← h]; exact hm
        · simp only [List.mem_append, List.mem_singleton]
          constructor
          · rintro (h | h)
            · exact .inl h
            · exact .inr ⟨h0, h.symm⟩
          · rintro (h | ⟨_, h⟩)
            · exact .inl h
            · exact .inr h.symm
      · rename_i h0
        constructor
        · exact fun h => .inl h
        · rintro (h | ⟨h, _⟩)
          · exact h
          · exact absurd h h0
    rw [hv]
    simp only [List.mem_cons]
    constructor
    · rintro ((h | h) | ⟨d, hd, h⟩)
      · exact .inl h
      · exact .inr ⟨c, .inl rfl, h⟩
      · exact .inr ⟨d, .inr hd, h⟩
    · rintro (h | ⟨d, rfl | hd, h⟩)
      · exact .inl (.inl h)
      · exact .inl (.inr h)
      · exact .inr ⟨d, hd, h⟩
def nxV (ts : List Tr) : Int := mxL 0 (visits [] (itC (cmpT [] ts)))
theorem okG_mem : ∀ {F : Fo}, okG F → ∀ c ∈ F.cells, cellG c.1 c.2.1 c.2.2.length
  | .nil, _, c, hc => by cases hc
  | .node d k r, h, c, hc => by
    simp only [Fo.cells, List.mem_cons, List.mem_append] at hc
    rcases hc with rfl | hc | hc
    · exact h.1
    · exact okG_mem h.2.2.2.2.1 c hc
    · exact okG_mem h.2.2.2.2.2 c hc
set_option maxRecDepth 100000 in
set_option maxHeartbeats 4000000 in
theorem nextVar_any (ts : List Tr) (vs : List Value) (g k : Nat) (w : World) (hk : k = vs.length) (h1 : 1 ≤ k) (h2 : k ≤ 2) (hts : ts.length = k) (hg : ∀ i, i < vs.length → w.cell? ⟨g, i, none⟩ = some (vs.getD i .nilIface)) (hF : FoC w (itsF ts) vs) (hok : ∀ x ∈ ts, okG x.fo) (hl : (itsF ts).cells.length ≤ 10000) :
    Calls Tryz.prog 47 #[.slice (some ⟨g, 0, none⟩) k k] w fun e w' => e = .returned (.int .i64 (nxV ts)) ∧ Below w.heap.size w w' := by
  have hokc : okG (cmpT [] ts).fo := cmpT_okG (fun x hx => by cases hx) (by decide) (by omega) (by omega) hok
  have hfc := foC_comp w [] ts vs g k (by omega) hg hF
  rw [← hk] at hfc
  have HV := variablesG_any (cmpT [] ts).1 (cmpT [] ts).2 _ _ hokc hfc hl
  have hrange : ∀ x ∈ visits [] (itC (cmpT [] ts)), 0 ≤ x ∧ x ≤ 1100000 := fun x hx => by
    rcases (mem_visitsG _ _ _).1 hx with h | ⟨c, hc, h0, hx⟩
    · cases h
    · have hcg := okG_mem hokc c (by simpa [Tr.fo, Fo.cells, itC] using hc)
      rcases hcg with h | h | h | h
      · omega
      · omega
      · omega
      · omega
  have e0 : itC (cmpT [] ts) = (cmpT [] ts).1 :: (cmpT [] ts).2.cells := rfl
  rw [← e0] at HV
  unfold nxV
  obtain ⟨xs, ex⟩ : ∃ xs, xs = visits [] (itC (cmpT [] ts)) := ⟨_, rfl⟩
  rw [← ex] at HV hrange ⊢
  have HR : Hid (∀ x ∈ xs, 0 ≤ x ∧ x ≤ 1100000) := hrange
  have HB0 : Hid (Below w.heap.size w (w.alloc (.cells #[.string (strOfNums []), .slice (some ⟨g, 0, none⟩) k k] 79))) := below_new _ _
  have eS : strOfNums [] = ⟨#[]⟩ := rfl
  rw [eS] at HV HB0
  have hxl : xs.length ≤ 20000 := by
    have h3 := visits_len (itC (cmpT [] ts)) []
    have h4 : (itC (cmpT [] ts)).length = (itsF ts).cells.length + 1 := rfl
    rw [ex]; simp only [List.length_nil] at h3; omega
  clear hokc hfc hg hF hok hl hrange e0 ex hts hk
  go_enter Tryz.func47, Tryz.ntmps47
  go_wp2_with fail
  refine HV.mono ?_
  rintro e w1 ⟨p, n, cp, rfl, hown, hb⟩
  have HB : Hid (Below w.heap.size w w1) := Below.on HB0.out hb
  have hnl : n = xs.length := hown.1
  have HC : Hid (IIn w1 p xs) := hown.iin
  clear HV HB0 hown hb
  by_cases h0 : 0 < n
  · obtain ⟨b, o, rfl, hcc⟩ := HC.out (by omega)
    have HC : Hid (∀ i, i < xs.length → w1.cell? ⟨b, o + i, none⟩ = some (.int .i64 (xs.getD i 0))) := hcc
    clear hcc
    go_wp2_with fail
    go_loopw [3, 12] (fun z i wr => ∃ (j : Nat) (m : Int), j ≤ n ∧ 0 ≤ m ∧ m ≤ 1100001 ∧ i = .int .i64 j ∧ z = .int .i64 m ∧ w1 = wr ∧ Hid (m = mxL 0 (xs.take j))) (fun _ i _ => n - (intOf i).toNat)
    case atStart => exact ⟨0, 0, by omega, by omega, by omega, rfl, rfl, rfl, rfl⟩
    case round =>
      obtain ⟨j, m, hj, hm0, hm1, rfl, rfl, rfl, HMx⟩ := hrel
      by_cases hlt : j < n
      · obtain ⟨x, exx⟩ : ∃ x, x = xs.getD j 0 := ⟨_, rfl⟩
        have hjx : j < xs.length := by omega
        have egx : xs[j]? = some x := by rw [List.getElem?_eq_getElem hjx, exx, List.getD_eq_getElem?_getD, List.getElem?_eq_getElem hjx]; rfl
        have hx := HR.out x (List.mem_of_getElem? egx)
        have c0 := HC.out j hjx
        rw [← exx] at c0
        have HNx : Hid ((if x + 1 > m then x + 1 else m) = mxL 0 (xs.take (j + 1))) := by
          show (if x + 1 > m then x + 1 else m) = mxL 0 (xs.take (j + 1))
          rw [List.take_add_one, egx, Option.toList_some, mxL_snoc, ← HMx.out]
        obtain ⟨m2, em2⟩ : ∃ m2, m2 = (if x + 1 > m then x + 1 else m) := ⟨_, rfl⟩
        rw [← em2] at HNx
        have hm2 : 0 ≤ m2 ∧ m2 ≤ 1100001 := by rw [em2]; split <;> omega
        have HE2 : Hid ((if x + 1 > m then x + 1 else m) = m2) := em2.symm
        clear exx egx em2 hjx
        go_wp2_with fail
        go_roundw
        case rel => exact ⟨j + 1, m2, by omega, hm2.1, hm2.2, by go_num, by rw [← HE2.out], by trivial, HNx⟩
        case measure => simp [intOf]; omega
      · obtain rfl : j = n := by omega
        have HFin : Hid (m = mxL 0 xs) := by
          have h := HMx.out
          rw [List.take_of_length_le (by omega)] at h
          exact h
        go_wp2_with fail
        go_ret
        exact ⟨(show Ending.returned (Value.int .i64 m) = .returned (Value.int .i64 (mxL 0 xs)) from by rw [HFin.out]), HB.out⟩
  · have hn0 : n = 0 := by omega
    go_wp2_with fail
    go_loopw [3, 12] (fun z i wr => ∃ (j : Nat) (m : Int), j ≤ n ∧ 0 ≤ m ∧ m ≤ 1100001 ∧ i = .int .i64 j ∧ z = .int .i64 m ∧ w1 = wr ∧ Hid (m = mxL 0 (xs.take j))) (fun _ i _ => n - (intOf i).toNat)
    case atStart => exact ⟨0, 0, by omega, by omega, by omega, rfl, rfl, rfl, rfl⟩
    case round =>
      obtain ⟨j, m, hj, hm0, hm1, rfl, rfl, rfl, HMx⟩ := hrel
      obtain rfl : j = n := by omega
      have HFin : Hid (m = mxL 0 xs) := by
        have h := HMx.out
        rw [List.take_of_length_le (by omega)] at h
        exact h
      go_wp2_with fail
      go_ret
      exact ⟨(show Ending.returned (Value.int .i64 m) = .returned (Value.int .i64 (mxL 0 xs)) from by rw [HFin.out]), HB.out⟩
end Go.Proofs.YtbnmmcegjlmdmaaGreatDoor

namespace Go.Proofs.YtbnmmcegjlmdmaaGreatDoor
open Go Go.RowKit Go.Maps Go.Shelf
set_option linter.unusedVariables false
set_option linter.unusedSimpArgs false
theorem tooLongC_any (c : Cel) (k : Fo) (v : Value) (w : World) (hok : okG (Fo.node c k .nil)) (hfo : FoC w (.node c k .nil) [v]) (hl : k.cells.length ≤ 10000) :
    Calls Tryz.prog 67 #[v] w fun e w' => e = .returned (.bool (decide (2000 < k.cells.length + 1))) ∧ Below w.heap.size w w' := by
  have HC := cellsC_any c k v w hok hfo hl
  obtain ⟨t, x, rfl⟩ := hfo.iface
  obtain ⟨L, eL⟩ : ∃ L, L = k.cells.length + 1 := ⟨_, rfl⟩
  have HL : Hid (L = (c :: k.cells).length) := by rw [eL]; rfl
  rw [← eL]
  have hLl : L ≤ 10001 := by omega
  clear hok hfo hl eL
  go_enter Tryz.func67, Tryz.ntmps67
  go_wp2_with fail
  refine HC.mono ?_
  rintro e w1 ⟨p, n, cp, rfl, ho, hb⟩
  have hn : n = L := by rw [ho.1, HL.out]
  subst hn
  have HB : Hid (Below w.heap.size w w1) := hb
  clear ho hb HC
  go_wp2_with fail
  go_ret
  exact ⟨ret_bool (by rw [Bool.eq_iff_iff]; simp; omega), HB.out⟩
theorem keptC_tree (c : Cel) (k : Fo) (v : Value) (a a2 : Addr) (w : World) (hok : okG (Fo.node c k .nil)) (hfo : FoC w (.node c k .nil) [v]) (hl : k.cells.length ≤ 10000) (he : ErrAt w a a2) :
    Calls Tryz.prog 49 #[v, .nilIface] w fun e w' => e = .returned (.tuple #[v, if k.cells.length + 1 ≤ 2000 then .nilIface else efV a2]) ∧ Below w.heap.size w w' := by
  have HT := tooLongC_any c k v w hok hfo hl
  obtain ⟨t, x, rfl⟩ := hfo.iface
  have HE : Hid (ErrAt w a a2) := he
  clear hok hfo hl he
  by_cases hs : k.cells.length + 1 ≤ 2000
  · have e1 : decide (2000 < k.cells.length + 1) = false := by simp; omega
    rw [e1] at HT
    rw [if_pos hs]
    clear e1 hs
    go_enter Tryz.func49, Tryz.ntmps49
    go_wp2_with fail
    refine HT.mono ?_
    rintro e w1 ⟨rfl, hb⟩
    have HB : Hid (Below w.heap.size w w1) := hb
    clear hb HT
    go_wp2_with fail
    go_ret2
    exact ⟨rfl, HB.out⟩
  · have e1 : decide (2000 < k.cells.length + 1) = true := by simp; omega
    rw [e1] at HT
    rw [if_neg hs]
    clear e1 hs
    go_enter Tryz.func49, Tryz.ntmps49
    go_wp2_with fail
    refine HT.mono ?_
    rintro e w1 ⟨rfl, hb⟩
    have HB : Hid (Below w.heap.size w w1) := hb
    have hc := (HE.out.below hb).beyond
    clear hb HT
    go_wp2_with fail
    go_ret2
    exact ⟨rfl, HB.out⟩
theorem answeredC_tree (c : Cel) (k : Fo) (v : Value) (w : World) (hok : okG (Fo.node c k .nil)) (hfo : FoC w (.node c k .nil) [v]) (hl : k.cells.length ≤ 10000) :
    Calls Tryz.prog 26 #[v, .nilIface] w (NbRes w (c :: k.cells, 0)) := by
  have HC := cellsC_any c k v w hok hfo hl
  obtain ⟨t, x, rfl⟩ := hfo.iface
  clear hok hfo hl
  go_enter Tryz.func26, Tryz.ntmps26
  go_wp2_with fail
  refine HC.mono ?_
  rintro e w' ⟨p, n, cp, rfl, ho, hb⟩
  have HF : Hid (NbRes w (c :: k.cells, 0) (.returned (.tuple #[.slice p n cp, .int .i64 0])) w') := ⟨p, n, cp, rfl, ho, hb⟩
  clear ho hb HC
  go_wp2_with fail
  go_ret2
  exact HF.out
theorem keptC_err (q : Addr) (t : TypeId) (x : Value) (w : World) : Calls Tryz.prog 49 #[.iface t x, efV q] w fun e w' => e = .returned (.tuple #[.iface t x, efV q]) ∧ w' = w := by
  go_enter Tryz.func49, Tryz.ntmps49
  go_wp2_with fail
  go_ret2
  exact ⟨rfl, rfl⟩
end Go.Proofs.YtbnmmcegjlmdmaaGreatDoor

namespace Go.Proofs.YtbnmmcegjlmdmaaGreatDoor
open Go Go.RowKit Go.Maps Go.Shelf
set_option linter.unusedVariables false
set_option linter.unusedSimpArgs false
def TlOut (w : World) (a a2 : Addr) (x : Tr × GSt) (e : Ending) (w' : World) : Prop := Below w.heap.size w w' ∧
  (((x.2.2 = 3 ∨ x.2.2 = 4) ∧ ∃ t u, e = .returned (.tuple #[.iface t u, fltV a a2 x.2.2])) ∨ (x.2.2 = 0 ∧ 1000000 < nxV [x.1] - 1 ∧ e = .returned (.tuple #[.nilIface, efV a2])) ∨
    (x.2.2 = 0 ∧ ¬ 1000000 < nxV [x.1] - 1 ∧ ∃ v, e = .returned (.tuple #[v, if (itC x.1).length ≤ 2000 then .nilIface else efV a2]) ∧ FoC w' x.1.fo [v]))
set_option maxRecDepth 100000 in
set_option maxHeartbeats 4000000 in
theorem translated_any (l r : Tr) (y1 y2 : TypeId) (u1 u2 : Value) (Bt : Nat) (a a2 : Addr) (w : World) (hfl : FoIn w Bt l.fo [.iface y1 u1]) (hfr : FoIn w Bt r.fo [.iface y2 u2]) (hgi : GIn l r (nxV [l, r])) (he : ErrAt w a a2) :
    Calls Tryz.prog 27 #[.iface y1 u1, .iface y2 u2] w (TlOut w a a2 (gCl failT l r (nxV [l, r]))) := by
  have hsz := hgi.sz
  have hl1 : 1 ≤ (itC l).length := by simp [itC]
  have hr1 : 1 ≤ (itC r).length := by simp [itC]
  have hbA := below_new w (.cells #[.iface y1 u1, .iface y2 u2] 49)
  have HN1 := nextVar_any [l, r] [.iface y1 u1, .iface y2 u2] w.heap.size 2 _ rfl (by decide) (by decide) rfl (fun i hi => new_cells2 w (.iface y1 u1) (.iface y2 u2) 49 i hi) (foC_cons ((FoC.of _ _ hfl).below hbA) (foC_cons ((FoC.of _ _ hfr).below hbA) (foC_nil _))) (fun x hx => by rcases mem2 hx with rfl | rfl; exact okG_of hgi.lo; exact okG_of hgi.ro) (by rw [itsF_cells]; simp [List.flatMap_cons]; omega)
  have hcl := gCl_ok failT_ok hgi
  obtain ⟨x, ex⟩ : ∃ x, x = gCl failT l r (nxV [l, r]) := ⟨_, rfl⟩
  rw [← ex]
  obtain ⟨nx, enx⟩ : ∃ nx, nx = nxV [l, r] := ⟨_, rfl⟩
  have h0 := hgi.nx0
  have h1 := hgi.nx1
  rw [← enx] at HN1 h0 h1 ex
  have HBA : Hid (Below w.heap.size w (w.alloc (.cells #[.iface y1 u1, .iface y2 u2] 49))) := hbA
  have HNG : Hid (∀ W, Below w.heap.size w W → Calls Tryz.prog 46 #[.int .i64 nx] W fun e w' => ∃ gp gb nb, e = .returned (ptrV gb) ∧ GMi W gp gb nb a a2 (nx, 0) w' ∧ Below W.heap.size W w') := fun W hW => newGrammar_any nx ⟨h0, by omega⟩ a a2 W (he.below hW)
  have HCL : Hid (∀ W W2 gp gb nb, Below w.heap.size w W → GMi W gp gb nb a a2 (nx, 0) W2 → Calls Tryz.prog 48 #[ptrV gb, .iface y1 u1, .iface y2 u2] W2 (GOutI W gp gb nb a a2 W2 x)) := fun W W2 gp gb nb hW hM => by
    rw [ex]
    exact clause_any l r y1 y2 u1 u2 Bt Bt nx W2 hgi.lo hgi.ro (FoIn.imp2 (Nat.le_refl _) (fun q v hq => (hW.cell (World.block_lt_of_cell? _ _ hq)).trans hq) hW.size _ _ hfl) (FoIn.imp2 (Nat.le_refl _) (fun q v hq => (hW.cell (World.block_lt_of_cell? _ _ hq)).trans hq) hW.size _ _ hfr) (by omega) (by omega) ⟨h0, by omega⟩ hM
  have hok : okG x.1.fo := by rw [ex, enx]; exact hcl.ok
  have hlen : (itC x.1).length ≤ 9999 := by rw [ex, enx]; exact hcl.len
  have hlc : x.1.2.cells.length ≤ 10000 := by simp only [itC, List.length_cons] at hlen; omega
  have HN2 : Hid (∀ W v, FoC W x.1.fo [v] → Calls Tryz.prog 47 #[.slice (some ⟨W.heap.size, 0, none⟩) 1 1] (W.alloc (.cells #[v] 49)) fun e w' => e = .returned (.int .i64 (nxV [x.1])) ∧ Below W.heap.size W w') := fun W v hv => by
    have hb := below_new W (.cells #[v] 49)
    refine (nextVar_any [x.1] [v] W.heap.size 1 _ rfl (by decide) (by decide) rfl (fun i hi => new_cells1 W v 49 i hi) (foC_cons (hv.below hb) (foC_nil _)) (fun y hy => by rw [List.mem_singleton.1 hy]; exact hok) (by rw [itsF_cells]; simp [List.flatMap_cons]; omega)).mono ?_
    rintro e w' ⟨h1, h2⟩
    exact ⟨h1, Below.on hb h2⟩
  have HKT : Hid (∀ W v, FoC W x.1.fo [v] → ErrAt W a a2 → Calls Tryz.prog 49 #[v, .nilIface] W fun e w' => e = .returned (.tuple #[v, if (itC x.1).length ≤ 2000 then .nilIface else efV a2]) ∧ Below W.heap.size W w') := fun W v hv hE => keptC_tree x.1.1 x.1.2 v a a2 W hok hv hlc hE
  have hnv : 0 ≤ nxV [x.1] ∧ nxV [x.1] ≤ 1100001 := by
    refine mxL_range _ 0 (by omega) (by omega) (fun y hy => ?_)
    rcases (mem_visitsG _ _ _).1 hy with h | ⟨c, hc, h0, hy⟩
    · cases h
    · have hmem : c ∈ (cmpT [] [x.1]).fo.cells := by simpa [Tr.fo, Fo.cells, itC] using hc
      have hcg := okG_mem (cmpT_okG (nm := []) (ts := [x.1]) (fun x hx => by cases hx) (by simp) (by simp) (by simp) (fun y hy => by rw [List.mem_singleton.1 hy]; exact hok)) c hmem
      rcases hcg with h | h | h | h <;> omega
  clear hfl hfr hgi he hsz hl1 hr1 hbA hcl enx ex hok hlen hlc
  go_enter Tryz.func27, Tryz.ntmps27
  go_wp2_with fail
  refine HN1.mono ?_
  rintro e w1 ⟨rfl, hb1⟩
  have hbw := Below.on HBA.out hb1
  have HG1 := HNG.out w1 hbw
  have HB1 : Hid (Below w.heap.size w w1) := hbw
  clear hb1 hbw HN1 HNG HBA
  go_wp2_with fail
  refine HG1.mono ?_
  rintro e w2 ⟨gp, gb, nb, rfl, hm2, hb2⟩
  have HC1 := HCL.out w1 w2 gp gb nb HB1.out hm2
  clear hm2 hb2 HG1 HCL
  go_wp2_with fail
  refine HC1.mono ?_
  rintro e w3 ⟨v, rfl, hfo3, hm3, hfr3⟩
  obtain ⟨t3, x3, rfl⟩ := foC_if hfo3
  have c2 := hm3.c2
  have HRG : Hid (x.2.2 = 0 ∨ x.2.2 = 3 ∨ x.2.2 = 4) := hm3.rng.2.2
  have hb3 : Below w.heap.size w w3 := Below.on HB1.out hm3.bel
  have HB3 : Hid (Below w.heap.size w w3) := hb3
  have HE3 : Hid (ErrAt w3 a a2) := hm3.errs
  have HF3 : Hid (FoC w3 x.1.fo [.iface t3 x3]) := hfo3
  clear hm3 hfr3 hb3 HC1 HB1
  by_cases hz : x.2.2 = 0
  · have c2' : w3.cell? ⟨gb, 2, none⟩ = some .nilIface := by rw [c2, hz]; rfl
    have HN := HN2.out w3 _ hfo3
    have HZ : Hid (x.2.2 = 0) := hz
    obtain ⟨nv, env⟩ : ∃ nv, nv = nxV [x.1] := ⟨_, rfl⟩
    have HNV : Hid (nv = nxV [x.1]) := env
    rw [← env] at HN hnv
    clear c2 hfo3 HN2 env hz
    go_wp2_with fail
    refine HN.mono ?_
    rintro e w4 ⟨rfl, hb4⟩
    have HB4 : Hid (Below w.heap.size w w4) := Below.on HB3.out hb4
    have HF4 : Hid (FoC w4 x.1.fo [.iface t3 x3]) := HF3.out.below hb4
    have HE4 : Hid (ErrAt w4 a a2) := HE3.out.below hb4
    have c4 : w4.cell? ⟨gb, 2, none⟩ = some .nilIface := (hb4.cell (World.block_lt_of_cell? _ _ c2')).trans c2'
    have g4 := HE4.out.beyond
    by_cases hv : 1000000 < nv - 1
    · have HG : Hid (∀ w5, Below w4.heap.size w4 w5 → TlOut w a a2 x (.returned (.tuple #[.nilIface, efV a2])) w5) := fun w5 h5 => ⟨Below.on HB4.out h5, .inr (.inl ⟨HZ.out, by rw [← HNV.out]; exact hv, rfl⟩)⟩
      have hvb : decide (1000000 < nv - 1) = true := by simpa using hv
      clear hb4 HN c2'
      go_wp2_with fail
      obtain ⟨Wd, eD⟩ : ∃ Wd, Wd = w4.drew := ⟨_, rfl⟩
      have HD : Hid (w4.drew = Wd) := eD.symm
      have gd : Wd.cell? ⟨0, 0, none⟩ = some (efV a2) := by rw [eD]; exact g4
      have HGd := HG.out Wd (by rw [eD]; exact (Below.refl _ _).drew)
      clear eD
      refine wp_region_held_drew (S := fun X => X = Wd) (by kernel_rfl) ?_ (fun hHeld => ?_)
      · exact HD.out
      rw [HD.out]
      have hSd : Wd = Wd := rfl
      refine hTake (i := 0) (v := efV a2) (some 29) (by kernel_rfl) (by kernel_rfl) (by kernel_rfl) (by kernel_rfl) (by kernel_rfl) (fun _ _ _ h => h) (fun o ho W hSw => ?y0) (by assumption) ?_
      case y0 =>
        cases ho
        rw [hSw]
        simp [execOp, go_sem, Act.eval, gd]
      simp only [Act.put, List.setIfInBounds_toArray, List.set_cons_zero, List.set_cons_succ]
      refine hTake (i := 1) (v := .nilIface) (some 4) (by kernel_rfl) (by kernel_rfl) (by kernel_rfl) (by kernel_rfl) (by kernel_rfl) (fun _ _ _ h => h) (fun o ho W hSw => ?y1) (by assumption) ?_
      case y1 =>
        cases ho
        simp [execOp, go_sem, Act.eval]
      simp only [Act.put, List.setIfInBounds_toArray, List.set_cons_zero, List.set_cons_succ]
      refine hTake (i := 2) (v := efV a2) (some 5) (by kernel_rfl) (by kernel_rfl) (by kernel_rfl) (by kernel_rfl) (by kernel_rfl) (fun _ _ _ h => h) (fun o ho W hSw => ?y2) (by assumption) ?_
      case y2 =>
        cases ho
        simp [execOp, go_sem, Act.eval]
      simp only [Act.put, List.setIfInBounds_toArray, List.set_cons_zero, List.set_cons_succ]
      refine wpAnyH_done (by kernel_rfl) ?_ _
      change Exit.then _ _ _ _ Wd
      have HH9 : Hid (TlOut w a a2 x (.returned (.tuple #[.nilIface, efV a2])) Wd) := HGd
      clear HGd
      go_wp2_with fail
      go_ret2
      exact HH9.out
    · have HK := HKT.out w4 _ HF4.out HE4.out
      have HV : Hid (¬ 1000000 < nv - 1) := hv
      obtain ⟨ev, eev⟩ : ∃ ev, ev = (if (itC x.1).length ≤ 2000 then Value.nilIface else efV a2) := ⟨_, rfl⟩
      rw [← eev] at HK
      have HEV : Hid (ev = (if (itC x.1).length ≤ 2000 then Value.nilIface else efV a2)) := eev
      clear eev
      have hvb : decide (1000000 < nv - 1) = false := by simpa using hv
      clear hb4 HN c2'
      go_wp2_with fail
      refine HK.mono ?_
      rintro e w5 ⟨rfl, hb5⟩
      have HG : Hid (TlOut w a a2 x (.returned (.tuple #[.iface t3 x3, ev])) w5) := ⟨Below.on HB4.out hb5, .inr (.inr ⟨HZ.out, by rw [← HNV.out]; have := HV.out; omega, _, by rw [HEV.out], HF4.out.below hb5⟩)⟩
      clear hb5 HK
      go_wp2_with fail
      go_ret2
      exact HG.out
  · obtain ⟨q, eq⟩ := fltV_ne (a := a) (a2 := a2) hz
    have HK := keptC_err q t3 x3 w3
    have HG : Hid (TlOut w a a2 x (.returned (.tuple #[.iface t3 x3, efV q])) w3) := ⟨HB3.out, .inl ⟨by have := HRG.out; omega, t3, x3, by rw [eq]⟩⟩
    rw [eq] at c2
    clear hz eq HN2 HKT hfo3
    go_wp2_with fail
    refine HK.mono ?_
    rintro e w5 ⟨rfl, hw5⟩
    rw [hw5]
    clear hw5 HK
    go_wp2_with fail
    go_ret2
    exact HG.out
end Go.Proofs.YtbnmmcegjlmdmaaGreatDoor

