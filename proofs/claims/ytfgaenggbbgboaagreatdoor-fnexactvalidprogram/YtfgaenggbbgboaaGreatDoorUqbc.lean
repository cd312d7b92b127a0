/- Texts of VpS. Own work of the verifier. -/
import Derived.Test.YtfgaenggbbgboaaGreatDoorUqau
import Derived.Test.YtfgaenggbbgboaaGreatDoorUqax
import Derived.Test.YtfgaenggbbgboaaGreatDoorUqay
import Derived.Test.YtfgaenggbbgboaaGreatDoorUqba
import Derived.Test.YtfgaenggbbgboaaGreatDoorUqbb
namespace Go.Proofs.YtfgaenggbbgboaaGreatDoor
open Go Go.RowKit
set_option linter.unusedVariables false
set_option linter.unusedSimpArgs false
theorem Fo.byteV : ∀ F : Fo, F.ok → ∀ x ∈ F.cells, Byte x.2.2
  | .nil, _, x, h => by simp [Fo.cells] at h
  | .node c k r, h, x, hx => by
    simp only [Fo.cells, List.mem_cons, List.mem_append] at hx
    rcases hx with rfl | hx | hx
    · exact h.2.1
    · exact Fo.byteV k h.2.2.2.2.1 x hx
    · exact Fo.byteV r h.2.2.2.2.2 x hx
set_option maxRecDepth 100000 in
theorem sameV_any (xs ys : List Cel) (p q : Option Addr) (c1 c2 n m : Nat) (w : World) (hn : n = xs.length) (hm : m = ys.length) (hl : n ≤ 1000000) (hl2 : m ≤ 2000000) (h0 : 0 < n) (hx : CIn w p xs) (hy : CIn w q ys) (hbx : ∀ c ∈ xs, Byte c.2.2) (hby : ∀ c ∈ ys, Byte c.2.2) :
    Calls Tryz.prog 15 #[.slice p n c1, .slice q m c2] w fun e w' => e = .returned (.bool (decide (xs = ys))) ∧ Below w.heap.size w w' := by
  by_cases e : n = m
  · subst e
    exact same_any xs ys p q c1 c2 n w hn hm hl h0 hx hy hbx hby
  · have hd : decide (xs = ys) = false := decide_eq_false (fun h => e (by rw [hn, hm, h]))
    rw [hd]
    have e1 : ¬ (n : Int) = (m : Int) := by omega
    have e2 : ((n : Int) == (m : Int)) = false := by simpa using e1
    clear hn hm hx hy hbx hby hd e
    go_enter Tryz.func15, Tryz.ntmps15
    go_wp2_with fail
    go_ret
    exact ⟨rfl, Below.refl _ _⟩
set_option maxRecDepth 100000 in
set_option maxHeartbeats 8000000 in
theorem clauseOK_any (nm : List Int) (ar : Int) (dy : Bool) (q : Option Addr) (m c : Nat) (r : Option Addr) (n d : Nat) (cs : List Cel) (p : Option Addr) (w : World) (hnm : Byte nm) (hm : m = nm.length) (hmb : m ≤ 1048576) (hq : BIn w q nm) (hxb : ∀ i, i < cs.length → Byte (cs.getD i Cel.none).2.2) (hl : cs.length + tl cs ≤ 1048576) (hin : CIn w p cs) :
    Calls Tryz.prog 13 #[.agg #[.slice q m c, .int .i64 ar, .bool dy, .slice r n d], .slice p cs.length cs.length] w fun e w' => e = .returned (.bool (clB nm ar cs)) ∧ Below w.heap.size w w' := by
  obtain ⟨bx, ebx⟩ : ∃ bx : Obj, bx = .cells #[.slice q m c, .int .i64 ar, .bool dy, .slice r n d] 39 := ⟨_, rfl⟩
  have HAL : Hid (Below w.heap.size w (w.alloc bx)) := (Below.refl _ _).alloc (Nat.le_refl _) _
  have HBX : Hid (∀ W, Below (w.alloc bx).heap.size (w.alloc bx) W → Box4 W w.heap.size (.slice q m c) (.int .i64 ar) (.bool dy) (.slice r n d) ∧ Below w.heap.size w W) := fun W hW => by
    have hk : W.heap[w.heap.size]? = some bx := (hW.block w.heap.size (by simp)).trans (heap_alloc_new w _)
    rw [ebx] at hk
    exact ⟨Box4.of_block hk, Below.on HAL.out hW⟩
  have HEB : Hid (bx = .cells #[.slice q m c, .int .i64 ar, .bool dy, .slice r n d] 39) := ebx
  have HV := specValid_any p cs.length cs (w.alloc bx) (by omega) (hin.below HAL.out)
  clear ebx
  by_cases hv : validB cs = true
  · obtain ⟨cc, k, ex, hok, hlx⟩ := tree_of hxb hv
    rw [hv] at HV
    have hkl : k.cells.length + 1 = cs.length := by rw [ex]; simp
    have HTI : Hid (∀ W, Below w.heap.size w W → TI W p cs.length cs.length (cc, k)) := fun W hW => ⟨by show cs.length = k.cells.length + 1; omega, Nat.le_refl _, by omega, by have := hin.below hW; rw [ex] at this; exact this⟩
    have HIS : Hid (∀ W, Below w.heap.size w W → Calls Tryz.prog 37 #[.slice p cs.length cs.length, .string ⟨#[58, 45]⟩, .int .i64 2] W fun e w' => e = .returned (.bool (decide (cc = ruleC))) ∧ w' = W) := fun W hW => by
      have h9 := isT_any (HTI.out W hW) ⟨#[58, 45]⟩ 2
      have e9 : isB (strOfNums (cc, k).1.2.2) ⟨#[58, 45]⟩ (cc, k).1.1 (cc, k).1.2.1 2 = decide (cc = ruleC) := isB_pos hok.2.1 [58, 45] 2 (by decide)
      rw [e9] at h9
      exact h9
    have HCL : Hid (clB nm ar cs = clT nm ar (cc, k)) := clB_of hv ex hok
    have hbm : ∀ x ∈ cs, Byte x.2.2 := byte_mem hxb
    have HRN : Hid (∀ W, Below w.heap.size w W → Calls Tryz.prog 38 #[.slice p cs.length cs.length] W fun e w' => ∃ q m c2, e = .returned (.slice q m c2) ∧ OwnC w' W.heap.size q m c2 (renCells cs) ∧ Below W.heap.size W w') := fun W hW => by
      have := specRen_any cs p cs.length cs.length W rfl (by omega) (hin.below hW)
      rwa [if_pos hv] at this
    have HSM : Hid (∀ (W : World) (q : Option Addr) (c2 : Nat), Below w.heap.size w W → CIn W q (renCells cs) → Calls Tryz.prog 15 #[.slice p cs.length cs.length, .slice q cs.length c2] W fun e w' => e = .returned (.bool (decide (cs = renCells cs))) ∧ Below W.heap.size W w') := fun W q c2 hW hq => same_any cs (renCells cs) p q cs.length c2 cs.length W rfl (by rw [ren_len]) (by omega) (by omega) (hin.below hW) hq hbm (ren_byte hbm)
    have HRL : Hid ((renCells cs).length = cs.length) := ren_len cs
    obtain ⟨R, eR⟩ : ∃ R, R = clB nm ar cs := ⟨_, rfl⟩
    have HR : Hid (R = clT nm ar (cc, k)) := by show _ = _; rw [eR]; exact HCL.out
    rw [← eR]
    by_cases hr : cc = ruleC
    · rw [decide_eq_true hr] at HIS
      have hcnt : k.count = 2 := by
        have h9 := hok.2.2.1 (by rw [hr]; rfl)
        rw [hr] at h9
        have e2 : (ruleC.2.1 : Int) = 2 := rfl
        omega
      obtain ⟨x1, k1, x2, k2, ek⟩ := two_of hcnt
      have etr : trsF k = [(x1, k1), (x2, k2)] := by rw [ek]; rfl
      have HAR : Hid (∀ W, Below w.heap.size w W → Calls Tryz.prog 39 #[.slice p cs.length cs.length] W (ArgsOut W k)) := fun W hW => l2args_any cc k p cs.length cs.length W (by rw [hr]; rfl) hok (by rw [← ex]) (by omega) (Nat.le_refl _) (by omega) (HTI.out W hW).2.2.2
      have hk := hok.2.2.2.2.1
      rw [ek] at hk
      have hok1 : (Fo.node x1 k1 .nil).ok := ⟨hk.1, hk.2.1, hk.2.2.1, hk.2.2.2.1, hk.2.2.2.2.1, trivial⟩
      have hok2 : (Fo.node x2 k2 .nil).ok := hk.2.2.2.2.2
      have hlen : k1.cells.length + k2.cells.length + 3 = cs.length := by
        rw [ek] at hkl
        simp [Fo.cells] at hkl
        omega
      have HK : Hid (kid0 (cc, k) = (x1, k1) ∧ kid1 (cc, k) = (x2, k2)) := by
        have etr' : trs k = [(x1, k1), (x2, k2)] := by rw [ek]; rfl
        exact ⟨by unfold kid0; rw [etr']; rfl, by unfold kid1; rw [etr']; rfl⟩
      have HRV : Hid (R = (calC x1 && (decide (x1.2.2 = nm) && (decide (fA x1 = ar) && (norB x2 k2 && decide (renCells cs = cs)))))) := by
        show _ = _
        rw [HR.out]
        unfold clT
        rw [HK.out.1, HK.out.2, decide_eq_true (show (cc, k).1 = ruleC from hr), Bool.true_and, show (cc, k).1 :: (cc, k).2.cells = cs from ex.symm]
      have HB8 : Hid (∀ (W : World) (p9 : Option Addr) (n9 c9 : Nat), n9 = 1 + k2.cells.length → n9 ≤ c9 → c9 ≤ 1000000000 → CIn W p9 (x2 :: k2.cells) → Calls Tryz.prog 42 #[.slice p9 n9 c9] W (SbOut W (normT x2 k2))) := fun W p9 n9 c9 h1 h2 h3 h4 => l8body_all _ x2 k2 p9 n9 c9 W (Nat.le_refl _) hok2 h1 (by omega) h2 h3 h4
      have HS8 : Hid (∀ (G : Fo) (W : World) (pa pb : Option Addr) (na ca nb cb : Nat), normT x2 k2 = some G → na = G.cells.length → nb = 1 + k2.cells.length → CIn W pa G.cells → CIn W pb (x2 :: k2.cells) → Calls Tryz.prog 15 #[.slice pa na ca, .slice pb nb cb] W fun e w' => e = .returned (.bool (norB x2 k2)) ∧ Below W.heap.size W w') := fun G W pa pb na ca nb cb hG hna hnb ha hb => by
        obtain ⟨c', k', rfl, hGok, hGl⟩ := normT_ok hG hok2
        have e9 : decide ((Fo.node c' k' .nil).cells = x2 :: k2.cells) = norB x2 k2 := by
          by_cases e : (Fo.node c' k' .nil).cells = x2 :: k2.cells
          · have e' : c' :: k'.cells = x2 :: k2.cells := by simpa [Fo.cells] using e
            obtain ⟨rfl, rfl⟩ := tree_one e' hGok hok2
            rw [norB_yes hG]
            simpa using e
          · rw [norB_no (fun h9 => e (by rw [hG] at h9; simp only [Option.some.injEq] at h9; rw [h9]; simp [Fo.cells]))]
            simpa using e
        rw [← e9]
        have bG : ∀ (F : Fo), F.ok → ∀ x ∈ F.cells, Byte x.2.2 := fun F hF x hx => Fo.byteV F hF x hx
        exact sameV_any _ _ pa pb ca cb na nb W hna (by rw [hnb]; simp; omega) (by rw [hna]; omega) (by rw [hnb]; omega) (by rw [hna]; simp [Fo.cells]) ha hb (bG _ hGok) (fun x hx => bG (.node x2 k2 .nil) hok2 x (by simpa [Fo.cells] using hx))
      have HT1 : Hid (x1.2.2 = nm ↔ strOfNums x1.2.2 = strOfNums nm) := ⟨fun h => by rw [h], fun h => str_ne hok1.2.1 hnm h⟩
      have HNQ : Hid (BIn w q nm ∧ m = nm.length) := ⟨hq, hm⟩
      have HCV : Hid (∀ W, Below w.heap.size w W → (convert 37 9 (.slice q m c)).run Tryz.prog W = .ok (.string (strOfNums nm)) W) := fun W hW => conv_str (hq.below hW) m c hm 9 Tryz.underlying9
      obtain ⟨sn, esn⟩ : ∃ x, x = strOfNums nm := ⟨_, rfl⟩
      rw [← esn] at HT1 HCV
      obtain ⟨l, el⟩ : ∃ l, l = cs.length := ⟨_, rfl⟩
      have hl2 : l ≤ 2000 := by omega
      have HLN : Hid (l = cs.length ∧ k1.cells.length + k2.cells.length + 3 = l ∧ trsF k = [(x1, k1), (x2, k2)] ∧ k.count = 2) := ⟨el, by omega, etr, hcnt⟩
      obtain ⟨sm, esm⟩ : ∃ x, x = decide (cs = renCells cs) := ⟨_, rfl⟩
      have HSE : Hid (decide (renCells cs = cs) = sm) := by
        show _ = _
        rw [esm]
        congr 1
        rw [eq_iff_iff]
        exact eq_comm
      rw [← esm] at HSM
      rw [← el] at HV HIS HRN HSM HAR HRL ⊢
      obtain ⟨ft1, e1t⟩ : ∃ x, x = decide (x1.2.2 = nm) := ⟨_, rfl⟩
      have HFT : Hid (ft1 = decide (x1.2.2 = nm)) := e1t
      clear hm hq hxb hin hv ex hok hlx hkl hbm hr hcnt ek etr hk hok1 hok2 hlen esn el esm e1t eR HCL HTI hnm hl
      go_enter Tryz.func13, Tryz.ntmps13
      go_wp2_with fail
      rw [← HEB.out]
      refine HV.mono ?_
      rintro e w1 ⟨rfl, hb1⟩
      have HA1 : Hid (Below (w.alloc bx).heap.size (w.alloc bx) w1) := hb1
      have HIS1 := HIS.out w1 (HBX.out w1 hb1).2
      clear hb1 HV HIS
      go_wp2_with fail
      refine HIS1.mono ?_
      rintro e w1' ⟨rfl, hw1⟩
      subst hw1
      have HRN1 := HRN.out w1' (HBX.out w1' HA1.out).2
      clear HIS1 HRN
      go_wp2_with fail
      refine HRN1.mono ?_
      rintro e w2 ⟨q2, m2, c2', rfl, ho2, hb2⟩
      have hm2e : m2 = l := by rw [ho2.1, HRL.out]
      subst hm2e
      have HA2 : Hid (Below (w.alloc bx).heap.size (w.alloc bx) w2) := Below.on HA1.out hb2
      have HSM2 := HSM.out w2 q2 c2' (HBX.out w2 HA2.out).2 ho2.cin
      clear ho2 hb2 HRN1 HSM
      go_wp2_with fail
      refine HSM2.mono ?_
      rintro e w3 ⟨rfl, hb3⟩
      have HA3 : Hid (Below (w.alloc bx).heap.size (w.alloc bx) w3) := Below.on HA2.out hb3
      clear hb3 HSM2
      cases sm with
      | false =>
        have HRF : Hid (R = false) := by show _ = _; rw [HRV.out, HSE.out]; simp
        clear HAR
        go_wp2_with fail
        go_ret
        exact ⟨ret_bool HRF.out.symm, (HBX.out _ HA3.out).2⟩
      | true =>
        have HAR3 := HAR.out w3 (HBX.out _ HA3.out).2
        unfold ArgsOut at HAR3
        rw [HLN.out.2.2.1, HLN.out.2.2.2] at HAR3
        clear HAR
        go_wp2_with fail
        refine HAR3.mono ?_
        rintro e w4 ⟨q5, m5, mc5, rs5, rfl, hm5, hrow5, harg5, hb5⟩
        obtain ⟨ra, rb, e5⟩ : ∃ ra rb, rs5 = [ra, rb] := by
          match rs5, harg5 with
          | [ra, rb], _ => exact ⟨ra, rb, rfl⟩
          | [_], h => exact h.2.2.2.2.elim
          | [], h => exact h.elim
          | _ :: _ :: _ :: _, h => exact h.2.2.2.2.2.2.2.2.elim
        subst e5
        subst hm5
        obtain ⟨g5, cap5, hv5, hbg5, hgl5⟩ := World.ownsRow.form hrow5 (by decide)
        obtain ⟨rfl, rfl⟩ : q5 = some ⟨g5, 0, none⟩ ∧ mc5 = cap5 := by injection hv5 with h1 _ h2; exact ⟨h1, h2⟩
        have x0 : w4.cell? ⟨g5, 0, none⟩ = some (.slice ra.1 ra.2.1 ra.2.2) := hrow5.cellAt 0 (by decide)
        have x1c : w4.cell? ⟨g5, 1, none⟩ = some (.slice rb.1 rb.2.1 rb.2.2) := hrow5.cellAt 1 (by decide)
        obtain ⟨a1, a2, a3, a4, a5, a6, a7, a8, _⟩ := harg5
        obtain ⟨pa, na, ca⟩ := ra
        obtain ⟨pb, nb, cb⟩ := rb
        simp only at x0 x1c a1 a2 a3 a4 a5 a6 a7 a8
        have hb4 := hb5
        have HA4 : Hid (Below (w.alloc bx).heap.size (w.alloc bx) w4) := Below.on HA3.out hb4
        have hTa : TI w4 pa na ca (x1, k1) := ⟨by show na = k1.cells.length + 1; omega, a2, by omega, a4.below hb4⟩
        have HTB : Hid (nb = 1 + k2.cells.length ∧ nb ≤ cb ∧ cb ≤ 1000000000 ∧ CIn w4 pb (x2 :: k2.cells)) := ⟨a5, a6, a7, a8.below hb4⟩
        obtain ⟨⟨y0, y1, y2, y3, _⟩, hBw4⟩ := HBX.out w4 HA4.out
        obtain ⟨b6, o6, q6, qc6, rfl, t0, t1, t2, t3⟩ := hTa.head
        have hcv1 := conv_str t3 x1.2.2.length qc6 rfl 9 Tryz.underlying9
        have hcv2 := HCV.out w4 hBw4
        have HCA := callable_any hTa (by have := HLN.out; omega)
        have HRT := arity_any hTa (by have := HLN.out; omega)
        obtain ⟨s1, es1⟩ : ∃ x, x = strOfNums x1.2.2 := ⟨_, rfl⟩
        obtain ⟨l1, el1⟩ : ∃ x, x = x1.2.2.length := ⟨_, rfl⟩
        obtain ⟨cal, ecal⟩ : ∃ x, x = calC x1 := ⟨_, rfl⟩
        obtain ⟨a1r, ea1⟩ : ∃ x, x = fA x1 := ⟨_, rfl⟩
        replace HCA : Calls Tryz.prog 40 #[.slice (some ⟨b6, o6, none⟩) na ca] w4 fun e w' => e = .returned (.bool cal) ∧ w' = w4 := by rw [ecal]; exact HCA
        replace HRT : Calls Tryz.prog 41 #[.slice (some ⟨b6, o6, none⟩) na ca] w4 fun e w' => e = .returned (.int .i64 a1r) ∧ w' = w4 := by rw [ea1]; exact HRT
        rw [← es1] at hcv1 HT1
        rw [← el1] at hcv1
        rw [show (x1, k1).1 = x1 from rfl] at t0 t1 t2
        rw [← el1] at t2
        rw [← ecal, ← ea1] at HRV
        have hna0 : 0 < na := by have := a1; omega
        have HBw : Hid (Below w.heap.size w w4) := hBw4
        obtain ⟨Wd, eD⟩ : ∃ Wd, Wd = World.drew w4 := ⟨_, rfl⟩
        have HBd : Hid (Below w.heap.size w Wd) := by show Below _ _ _; rw [eD]; exact hBw4.drew
        have HDe : Hid (World.drew w4 = Wd) := eD.symm
        have hz0 : Wd.cell? ⟨g5, 0, none⟩ = some (.slice (some ⟨b6, o6, none⟩) na ca) := by rw [eD]; exact x0
        have hz2 : Wd.cell? ⟨b6, o6 + 2, none⟩ = some (.slice q6 l1 qc6) := by rw [eD]; exact t2
        have hy0 : Wd.cell? ⟨w.heap.size, 0, none⟩ = some (.slice q m c) := by rw [eD]; exact y0
        have hy1 : Wd.cell? ⟨w.heap.size, 1, none⟩ = some (.int .i64 ar) := by rw [eD]; exact y1
        have hz1 : Wd.cell? ⟨g5, 1, none⟩ = some (.slice pb nb cb) := by rw [eD]; exact x1c
        have HZ1 : Hid (Wd.cell? ⟨g5, 1, none⟩ = some (.slice pb nb cb)) := hz1
        have hb4d : Below w4.heap.size w4 Wd := by rw [eD]; exact (Below.refl _ _).drew
        have HTBd : Hid (nb = 1 + k2.cells.length ∧ nb ≤ cb ∧ cb ≤ 1000000000 ∧ CIn Wd pb (x2 :: k2.cells)) := ⟨a5, a6, a7, HTB.out.2.2.2.below hb4d⟩
        have hTd := hTa.below hb4d
        replace HCA : Calls Tryz.prog 40 #[.slice (some ⟨b6, o6, none⟩) na ca] Wd fun e w' => e = .returned (.bool cal) ∧ w' = Wd := by
          have h9 := callable_any hTd (by have := HLN.out; omega)
          rw [ecal]; exact h9
        replace HRT : Calls Tryz.prog 41 #[.slice (some ⟨b6, o6, none⟩) na ca] Wd fun e w' => e = .returned (.int .i64 a1r) ∧ w' = Wd := by
          have h9 := arity_any hTd (by have := HLN.out; omega)
          rw [ea1]; exact h9
        have hcv1d : (convert 37 9 (.slice q6 l1 qc6)).run Tryz.prog Wd = .ok (.string s1) Wd := by
          have h9 := conv_str (t3.below hb4d) x1.2.2.length qc6 rfl 9 Tryz.underlying9
          rw [el1, es1]; exact h9
        have hcv2d : (convert 37 9 (.slice q m c)).run Tryz.prog Wd = .ok (.string sn) Wd := HCV.out Wd HBd.out
        have hnaz : ¬ na = 0 := by omega
        clear hrow5 hv5 hbg5 hgl5 a1 a2 a3 a4 a5 a6 a7 a8 hb4 hb5 hTa y0 y1 y2 y3 hBw4 t0 t1 t2 t3 hcv1 hcv2 es1 el1 ecal ea1 hz1 hb4d hTd eD x0 x1c HTB HAR3
        cases cal with
        | false =>
          go_wp2_with fail
          refine wp_region_held_drew (S := (fun W => W = Wd)) (by kernel_rfl) ?_ (fun hHeld => ?_)
          · exact HDe.out
          rw [HDe.out]
          have hS0 : Wd = Wd := rfl
          refine hTake (i := 0) (v := .slice (some ⟨g5, 0, none⟩) 2 mc5) (some 25) (by kernel_rfl) (by kernel_rfl) (by kernel_rfl) (by kernel_rfl) (by kernel_rfl) (fun _ _ _ h => h) (fun o ho W hSw => ?y0) (by assumption) ?_
          case y0 =>
            cases ho
            simp [execOp, go_sem, Act.eval]
          simp only [Act.put, List.setIfInBounds_toArray, List.set_cons_zero, List.set_cons_succ]
          refine hTake (i := 1) (v := .pointer (some ⟨g5, 0, none⟩)) (some 26) (by kernel_rfl) (by kernel_rfl) (by kernel_rfl) (by kernel_rfl) (by kernel_rfl) (fun _ _ _ h => h) (fun o ho W hSw => ?y1) (by assumption) ?_
          case y1 =>
            cases ho
            simp [execOp, go_sem, Act.eval]
          simp only [Act.put, List.setIfInBounds_toArray, List.set_cons_zero, List.set_cons_succ]
          refine hTake (i := 2) (v := .slice (some ⟨b6, o6, none⟩) na ca) (some 27) (by kernel_rfl) (by kernel_rfl) (by kernel_rfl) (by kernel_rfl) (by kernel_rfl) (fun _ _ _ h => h) (fun o ho W hSw => ?y2) (by assumption) ?_
          case y2 =>
            cases ho
            subst hSw
            simp [execOp, go_sem, Act.eval, hz0]
          simp only [Act.put, List.setIfInBounds_toArray, List.set_cons_zero, List.set_cons_succ]
          refine hCallE (i := 3) (f := 40) (args := #[.slice (some ⟨b6, o6, none⟩) na ca]) (some 28) (by kernel_rfl) (by kernel_rfl) (by kernel_rfl) (fun o ho => ?c3) HCA ?k3 (fun ch w' hh => by cases hh.1) (fun w' hh => by cases hh.1)
          case c3 =>
            cases ho
            simp [execOp, go_sem, Act.eval]
          case k3 =>
            rintro u w5 ⟨hu, hw5⟩
            injection hu with hu
            subst hu
            rw [hw5]
            refine ⟨rfl, ?_⟩
            simp only [Act.put, List.setIfInBounds_toArray, List.set_cons_zero, List.set_cons_succ]
            refine hTake (i := 4) (v := .bool true) (some 29) (by kernel_rfl) (by kernel_rfl) (by kernel_rfl) (by kernel_rfl) (by kernel_rfl) (fun _ _ _ h => h) (fun o ho W hSw => ?y4) (by assumption) ?_
            case y4 =>
              cases ho
              simp [execOp, go_sem, Act.eval]
            simp only [Act.put, List.setIfInBounds_toArray, List.set_cons_zero, List.set_cons_succ]
            refine hTake (i := 5) (v := .bool true) (some 30) (by kernel_rfl) (by kernel_rfl) (by kernel_rfl) (by kernel_rfl) (by kernel_rfl) (fun _ _ _ h => h) (fun o ho W hSw => ?y5) (by assumption) ?_
            case y5 =>
              cases ho
              simp [execOp, go_sem, Act.eval]
            simp only [Act.put, List.setIfInBounds_toArray, List.set_cons_zero, List.set_cons_succ]
            refine hSkip (i := 6) (some 31) (by kernel_rfl) (by kernel_rfl) (by kernel_rfl) (by kernel_rfl) (by kernel_rfl) (fun _ _ _ h => h) (by assumption) ?_
            simp only [Act.put, List.setIfInBounds_toArray, List.set_cons_zero, List.set_cons_succ]
            refine hSkip (i := 7) (some 32) (by kernel_rfl) (by kernel_rfl) (by kernel_rfl) (by kernel_rfl) (by kernel_rfl) (fun _ _ _ h => h) (by assumption) ?_
            simp only [Act.put, List.setIfInBounds_toArray, List.set_cons_zero, List.set_cons_succ]
            refine hSkip (i := 8) (some 33) (by kernel_rfl) (by kernel_rfl) (by kernel_rfl) (by kernel_rfl) (by kernel_rfl) (fun _ _ _ h => h) (by assumption) ?_
            simp only [Act.put, List.setIfInBounds_toArray, List.set_cons_zero, List.set_cons_succ]
            refine hSkip (i := 9) (some 34) (by kernel_rfl) (by kernel_rfl) (by kernel_rfl) (by kernel_rfl) (by kernel_rfl) (fun _ _ _ h => h) (by assumption) ?_
            simp only [Act.put, List.setIfInBounds_toArray, List.set_cons_zero, List.set_cons_succ]
            refine hSkip (i := 10) (some 35) (by kernel_rfl) (by kernel_rfl) (by kernel_rfl) (by kernel_rfl) (by kernel_rfl) (fun _ _ _ h => h) (by assumption) ?_
            simp only [Act.put, List.setIfInBounds_toArray, List.set_cons_zero, List.set_cons_succ]
            refine hSkip (i := 11) (some 36) (by kernel_rfl) (by kernel_rfl) (by kernel_rfl) (by kernel_rfl) (by kernel_rfl) (fun _ _ _ h => h) (by assumption) ?_
            simp only [Act.put, List.setIfInBounds_toArray, List.set_cons_zero, List.set_cons_succ]
            refine hSkip (i := 12) (some 37) (by kernel_rfl) (by kernel_rfl) (by kernel_rfl) (by kernel_rfl) (by kernel_rfl) (fun _ _ _ h => h) (by assumption) ?_
            simp only [Act.put, List.setIfInBounds_toArray, List.set_cons_zero, List.set_cons_succ]
            refine hSkip (i := 13) (some 38) (by kernel_rfl) (by kernel_rfl) (by kernel_rfl) (by kernel_rfl) (by kernel_rfl) (fun _ _ _ h => h) (by assumption) ?_
            simp only [Act.put, List.setIfInBounds_toArray, List.set_cons_zero, List.set_cons_succ]
            refine hSkip (i := 14) (some 39) (by kernel_rfl) (by kernel_rfl) (by kernel_rfl) (by kernel_rfl) (by kernel_rfl) (fun _ _ _ h => h) (by assumption) ?_
            simp only [Act.put, List.setIfInBounds_toArray, List.set_cons_zero, List.set_cons_succ]
            refine hSkip (i := 15) (some 40) (by kernel_rfl) (by kernel_rfl) (by kernel_rfl) (by kernel_rfl) (by kernel_rfl) (fun _ _ _ h => h) (by assumption) ?_
            simp only [Act.put, List.setIfInBounds_toArray, List.set_cons_zero, List.set_cons_succ]
            refine hSkip (i := 16) (some 41) (by kernel_rfl) (by kernel_rfl) (by kernel_rfl) (by kernel_rfl) (by kernel_rfl) (fun _ _ _ h => h) (by assumption) ?_
            simp only [Act.put, List.setIfInBounds_toArray, List.set_cons_zero, List.set_cons_succ]
            refine hTake (i := 17) (v := .bool true) (some 42) (by kernel_rfl) (by kernel_rfl) (by kernel_rfl) (by kernel_rfl) (by kernel_rfl) (fun _ _ _ h => h) (fun o ho W hSw => ?y6) (by assumption) ?_
            case y6 =>
              cases ho
              simp [execOp, go_sem, Act.eval]
            simp only [Act.put, List.setIfInBounds_toArray, List.set_cons_zero, List.set_cons_succ]
            refine hTake (i := 18) (v := .bool true) (some 43) (by kernel_rfl) (by kernel_rfl) (by kernel_rfl) (by kernel_rfl) (by kernel_rfl) (fun _ _ _ h => h) (fun o ho W hSw => ?y7) (by assumption) ?_
            case y7 =>
              cases ho
              simp [execOp, go_sem, Act.eval]
            simp only [Act.put, List.setIfInBounds_toArray, List.set_cons_zero, List.set_cons_succ]
            refine hSkip (i := 19) (some 44) (by kernel_rfl) (by kernel_rfl) (by kernel_rfl) (by kernel_rfl) (by kernel_rfl) (fun _ _ _ h => h) (by assumption) ?_
            simp only [Act.put, List.setIfInBounds_toArray, List.set_cons_zero, List.set_cons_succ]
            refine hSkip (i := 20) (some 45) (by kernel_rfl) (by kernel_rfl) (by kernel_rfl) (by kernel_rfl) (by kernel_rfl) (fun _ _ _ h => h) (by assumption) ?_
            simp only [Act.put, List.setIfInBounds_toArray, List.set_cons_zero, List.set_cons_succ]
            refine hSkip (i := 21) (some 46) (by kernel_rfl) (by kernel_rfl) (by kernel_rfl) (by kernel_rfl) (by kernel_rfl) (fun _ _ _ h => h) (by assumption) ?_
            simp only [Act.put, List.setIfInBounds_toArray, List.set_cons_zero, List.set_cons_succ]
            refine hSkip (i := 22) (some 47) (by kernel_rfl) (by kernel_rfl) (by kernel_rfl) (by kernel_rfl) (by kernel_rfl) (fun _ _ _ h => h) (by assumption) ?_
            simp only [Act.put, List.setIfInBounds_toArray, List.set_cons_zero, List.set_cons_succ]
            refine hSkip (i := 23) (some 48) (by kernel_rfl) (by kernel_rfl) (by kernel_rfl) (by kernel_rfl) (by kernel_rfl) (fun _ _ _ h => h) (by assumption) ?_
            simp only [Act.put, List.setIfInBounds_toArray, List.set_cons_zero, List.set_cons_succ]
            refine hSkip (i := 24) (some 49) (by kernel_rfl) (by kernel_rfl) (by kernel_rfl) (by kernel_rfl) (by kernel_rfl) (fun _ _ _ h => h) (by assumption) ?_
            simp only [Act.put, List.setIfInBounds_toArray, List.set_cons_zero, List.set_cons_succ]
            refine hSkip (i := 25) (some 50) (by kernel_rfl) (by kernel_rfl) (by kernel_rfl) (by kernel_rfl) (by kernel_rfl) (fun _ _ _ h => h) (by assumption) ?_
            simp only [Act.put, List.setIfInBounds_toArray, List.set_cons_zero, List.set_cons_succ]
            refine hTake (i := 26) (v := .bool true) (some 51) (by kernel_rfl) (by kernel_rfl) (by kernel_rfl) (by kernel_rfl) (by kernel_rfl) (fun _ _ _ h => h) (fun o ho W hSw => ?y8) (by assumption) ?_
            case y8 =>
              cases ho
              simp [execOp, go_sem, Act.eval]
            simp only [Act.put, List.setIfInBounds_toArray, List.set_cons_zero, List.set_cons_succ]
            refine wpAnyH_done (by kernel_rfl) ?_ _
            change Exit.then _ _ _ _ Wd
            have HRF : Hid (R = false) := by show _ = _; rw [HRV.out]; simp
            go_wp2_with fail
            go_ret
            exact ⟨ret_bool HRF.out.symm, HBd.out⟩
        | true =>
          by_cases hs : s1 = sn
          · have hft : ft1 = true := by rw [HFT.out]; exact decide_eq_true (HT1.out.2 hs)
            subst hs
            by_cases hq9 : a1r = ar
            · subst hq9
              go_wp2_with fail
              refine wp_region_held_drew (S := (fun W => W = Wd)) (by kernel_rfl) ?_ (fun hHeld => ?_)
              · exact HDe.out
              rw [HDe.out]
              have hS0 : Wd = Wd := rfl
              refine hTake (i := 0) (v := .slice (some ⟨g5, 0, none⟩) 2 mc5) (some 25) (by kernel_rfl) (by kernel_rfl) (by kernel_rfl) (by kernel_rfl) (by kernel_rfl) (fun _ _ _ h => h) (fun o ho W hSw => ?y0) (by assumption) ?_
              case y0 =>
                cases ho
                simp [execOp, go_sem, Act.eval]
              simp only [Act.put, List.setIfInBounds_toArray, List.set_cons_zero, List.set_cons_succ]
              refine hTake (i := 1) (v := .pointer (some ⟨g5, 0, none⟩)) (some 26) (by kernel_rfl) (by kernel_rfl) (by kernel_rfl) (by kernel_rfl) (by kernel_rfl) (fun _ _ _ h => h) (fun o ho W hSw => ?y1) (by assumption) ?_
              case y1 =>
                cases ho
                simp [execOp, go_sem, Act.eval]
              simp only [Act.put, List.setIfInBounds_toArray, List.set_cons_zero, List.set_cons_succ]
              refine hTake (i := 2) (v := .slice (some ⟨b6, o6, none⟩) na ca) (some 27) (by kernel_rfl) (by kernel_rfl) (by kernel_rfl) (by kernel_rfl) (by kernel_rfl) (fun _ _ _ h => h) (fun o ho W hSw => ?y2) (by assumption) ?_
              case y2 =>
                cases ho
                subst hSw
                simp [execOp, go_sem, Act.eval, hz0]
              simp only [Act.put, List.setIfInBounds_toArray, List.set_cons_zero, List.set_cons_succ]
              refine hCallE (i := 3) (f := 40) (args := #[.slice (some ⟨b6, o6, none⟩) na ca]) (some 28) (by kernel_rfl) (by kernel_rfl) (by kernel_rfl) (fun o ho => ?c3) HCA ?k3 (fun ch w' hh => by cases hh.1) (fun w' hh => by cases hh.1)
              case c3 =>
                cases ho
                simp [execOp, go_sem, Act.eval]
              case k3 =>
                rintro u w5 ⟨hu, hw5⟩
                injection hu with hu
                subst hu
                rw [hw5]
                refine ⟨rfl, ?_⟩
                simp only [Act.put, List.setIfInBounds_toArray, List.set_cons_zero, List.set_cons_succ]
                refine hTake (i := 4) (v := .bool false) (some 29) (by kernel_rfl) (by kernel_rfl) (by kernel_rfl) (by kernel_rfl) (by kernel_rfl) (fun _ _ _ h => h) (fun o ho W hSw => ?y4) (by assumption) ?_
                case y4 =>
                  cases ho
                  simp [execOp, go_sem, Act.eval]
                simp only [Act.put, List.setIfInBounds_toArray, List.set_cons_zero, List.set_cons_succ]
                refine hTake (i := 5) (v := .bool false) (some 30) (by kernel_rfl) (by kernel_rfl) (by kernel_rfl) (by kernel_rfl) (by kernel_rfl) (fun _ _ _ h => h) (fun o ho W hSw => ?y5) (by assumption) ?_
                case y5 =>
                  cases ho
                  simp [execOp, go_sem, Act.eval]
                simp only [Act.put, List.setIfInBounds_toArray, List.set_cons_zero, List.set_cons_succ]
                refine hTake (i := 6) (v := .slice (some ⟨g5, 0, none⟩) 2 mc5) (some 31) (by kernel_rfl) (by kernel_rfl) (by kernel_rfl) (by kernel_rfl) (by kernel_rfl) (fun _ _ _ h => h) (fun o ho W hSw => ?y6) (by assumption) ?_
                case y6 =>
                  cases ho
                  simp [execOp, go_sem, Act.eval]
                simp only [Act.put, List.setIfInBounds_toArray, List.set_cons_zero, List.set_cons_succ]
                refine hTake (i := 7) (v := .pointer (some ⟨g5, 0, none⟩)) (some 32) (by kernel_rfl) (by kernel_rfl) (by kernel_rfl) (by kernel_rfl) (by kernel_rfl) (fun _ _ _ h => h) (fun o ho W hSw => ?y7) (by assumption) ?_
                case y7 =>
                  cases ho
                  simp [execOp, go_sem, Act.eval]
                simp only [Act.put, List.setIfInBounds_toArray, List.set_cons_zero, List.set_cons_succ]
                refine hTake (i := 8) (v := .slice (some ⟨b6, o6, none⟩) na ca) (some 33) (by kernel_rfl) (by kernel_rfl) (by kernel_rfl) (by kernel_rfl) (by kernel_rfl) (fun _ _ _ h => h) (fun o ho W hSw => ?y8) (by assumption) ?_
                case y8 =>
                  cases ho
                  subst hSw
                  simp [execOp, go_sem, Act.eval, hz0]
                simp only [Act.put, List.setIfInBounds_toArray, List.set_cons_zero, List.set_cons_succ]
                refine hTake (i := 9) (v := .pointer (some ⟨b6, o6, none⟩)) (some 34) (by kernel_rfl) (by kernel_rfl) (by kernel_rfl) (by kernel_rfl) (by kernel_rfl) (fun _ _ _ h => h) (fun o ho W hSw => ?y9) (by assumption) ?_
                case y9 =>
                  cases ho
                  simp [execOp, go_sem, Act.eval, hnaz]
                simp only [Act.put, List.setIfInBounds_toArray, List.set_cons_zero, List.set_cons_succ]
                refine hTake (i := 10) (v := .pointer (some ⟨b6, o6 + 2, none⟩)) (some 35) (by kernel_rfl) (by kernel_rfl) (by kernel_rfl) (by kernel_rfl) (by kernel_rfl) (fun _ _ _ h => h) (fun o ho W hSw => ?y10) (by assumption) ?_
                case y10 =>
                  cases ho
                  simp [execOp, go_sem, Act.eval]
                simp only [Act.put, List.setIfInBounds_toArray, List.set_cons_zero, List.set_cons_succ]
                refine hTake (i := 11) (v := .slice q6 l1 qc6) (some 36) (by kernel_rfl) (by kernel_rfl) (by kernel_rfl) (by kernel_rfl) (by kernel_rfl) (fun _ _ _ h => h) (fun o ho W hSw => ?y11) (by assumption) ?_
                case y11 =>
                  cases ho
                  subst hSw
                  simp [execOp, go_sem, Act.eval, hz2]
                simp only [Act.put, List.setIfInBounds_toArray, List.set_cons_zero, List.set_cons_succ]
                refine hTake (i := 12) (v := .string s1) (some 37) (by kernel_rfl) (by kernel_rfl) (by kernel_rfl) (by kernel_rfl) (by kernel_rfl) (fun _ _ _ h => h) (fun o ho W hSw => ?y12) (by assumption) ?_
                case y12 =>
                  cases ho
                  subst hSw
                  simp [execOp, go_sem, Act.eval, hcv1d]
                simp only [Act.put, List.setIfInBounds_toArray, List.set_cons_zero, List.set_cons_succ]
                refine hTake (i := 13) (v := .pointer (some ⟨w.heap.size, 0, none⟩)) (some 38) (by kernel_rfl) (by kernel_rfl) (by kernel_rfl) (by kernel_rfl) (by kernel_rfl) (fun _ _ _ h => h) (fun o ho W hSw => ?y13) (by assumption) ?_
                case y13 =>
                  cases ho
                  simp [execOp, go_sem, Act.eval]
                simp only [Act.put, List.setIfInBounds_toArray, List.set_cons_zero, List.set_cons_succ]
                refine hTake (i := 14) (v := .slice q m c) (some 39) (by kernel_rfl) (by kernel_rfl) (by kernel_rfl) (by kernel_rfl) (by kernel_rfl) (fun _ _ _ h => h) (fun o ho W hSw => ?y14) (by assumption) ?_
                case y14 =>
                  cases ho
                  subst hSw
                  simp [execOp, go_sem, Act.eval, hy0]
                simp only [Act.put, List.setIfInBounds_toArray, List.set_cons_zero, List.set_cons_succ]
                refine hTake (i := 15) (v := .string s1) (some 40) (by kernel_rfl) (by kernel_rfl) (by kernel_rfl) (by kernel_rfl) (by kernel_rfl) (fun _ _ _ h => h) (fun o ho W hSw => ?y15) (by assumption) ?_
                case y15 =>
                  cases ho
                  subst hSw
                  simp [execOp, go_sem, Act.eval, hcv2d]
                simp only [Act.put, List.setIfInBounds_toArray, List.set_cons_zero, List.set_cons_succ]
                refine hTake (i := 16) (v := .bool false) (some 41) (by kernel_rfl) (by kernel_rfl) (by kernel_rfl) (by kernel_rfl) (by kernel_rfl) (fun _ _ _ h => h) (fun o ho W hSw => ?y16) (by assumption) ?_
                case y16 =>
                  cases ho
                  simp [execOp, go_sem, Act.eval]
                simp only [Act.put, List.setIfInBounds_toArray, List.set_cons_zero, List.set_cons_succ]
                refine hTake (i := 17) (v := .bool false) (some 42) (by kernel_rfl) (by kernel_rfl) (by kernel_rfl) (by kernel_rfl) (by kernel_rfl) (fun _ _ _ h => h) (fun o ho W hSw => ?y17) (by assumption) ?_
                case y17 =>
                  cases ho
                  simp [execOp, go_sem, Act.eval]
                simp only [Act.put, List.setIfInBounds_toArray, List.set_cons_zero, List.set_cons_succ]
                refine hTake (i := 18) (v := .bool false) (some 43) (by kernel_rfl) (by kernel_rfl) (by kernel_rfl) (by kernel_rfl) (by kernel_rfl) (fun _ _ _ h => h) (fun o ho W hSw => ?y18) (by assumption) ?_
                case y18 =>
                  cases ho
                  simp [execOp, go_sem, Act.eval]
                simp only [Act.put, List.setIfInBounds_toArray, List.set_cons_zero, List.set_cons_succ]
                refine hTake (i := 19) (v := .slice (some ⟨g5, 0, none⟩) 2 mc5) (some 44) (by kernel_rfl) (by kernel_rfl) (by kernel_rfl) (by kernel_rfl) (by kernel_rfl) (fun _ _ _ h => h) (fun o ho W hSw => ?y19) (by assumption) ?_
                case y19 =>
                  cases ho
                  simp [execOp, go_sem, Act.eval]
                simp only [Act.put, List.setIfInBounds_toArray, List.set_cons_zero, List.set_cons_succ]
                refine hTake (i := 20) (v := .pointer (some ⟨g5, 0, none⟩)) (some 45) (by kernel_rfl) (by kernel_rfl) (by kernel_rfl) (by kernel_rfl) (by kernel_rfl) (fun _ _ _ h => h) (fun o ho W hSw => ?y20) (by assumption) ?_
                case y20 =>
                  cases ho
                  simp [execOp, go_sem, Act.eval]
                simp only [Act.put, List.setIfInBounds_toArray, List.set_cons_zero, List.set_cons_succ]
                refine hTake (i := 21) (v := .slice (some ⟨b6, o6, none⟩) na ca) (some 46) (by kernel_rfl) (by kernel_rfl) (by kernel_rfl) (by kernel_rfl) (by kernel_rfl) (fun _ _ _ h => h) (fun o ho W hSw => ?y21) (by assumption) ?_
                case y21 =>
                  cases ho
                  subst hSw
                  simp [execOp, go_sem, Act.eval, hz0]
                simp only [Act.put, List.setIfInBounds_toArray, List.set_cons_zero, List.set_cons_succ]
                refine hTake (i := 23) (v := .pointer (some ⟨w.heap.size, 1, none⟩)) (some 48) (by kernel_rfl) (by kernel_rfl) (by kernel_rfl) (by kernel_rfl) (by kernel_rfl) (fun _ _ _ h => h) (fun o ho W hSw => ?y22) (by assumption) ?_
                case y22 =>
                  cases ho
                  simp [execOp, go_sem, Act.eval]
                simp only [Act.put, List.setIfInBounds_toArray, List.set_cons_zero, List.set_cons_succ]
                refine hTake (i := 24) (v := .int .i64 a1r) (some 49) (by kernel_rfl) (by kernel_rfl) (by kernel_rfl) (by kernel_rfl) (by kernel_rfl) (fun _ _ _ h => h) (fun o ho W hSw => ?y23) (by assumption) ?_
                case y23 =>
                  cases ho
                  subst hSw
                  simp [execOp, go_sem, Act.eval, hy1]
                simp only [Act.put, List.setIfInBounds_toArray, List.set_cons_zero, List.set_cons_succ]
                refine hCallE (i := 22) (f := 41) (args := #[.slice (some ⟨b6, o6, none⟩) na ca]) (some 47) (by kernel_rfl) (by kernel_rfl) (by kernel_rfl) (fun o ho => ?c24) HRT ?k24 (fun ch w' hh => by cases hh.1) (fun w' hh => by cases hh.1)
                case c24 =>
                  cases ho
                  simp [execOp, go_sem, Act.eval]
                case k24 =>
                  rintro u w6 ⟨hu, hw6⟩
                  injection hu with hu
                  subst hu
                  rw [hw6]
                  refine ⟨rfl, ?_⟩
                  simp only [Act.put, List.setIfInBounds_toArray, List.set_cons_zero, List.set_cons_succ]
                  refine hTake (i := 25) (v := .bool false) (some 50) (by kernel_rfl) (by kernel_rfl) (by kernel_rfl) (by kernel_rfl) (by kernel_rfl) (fun _ _ _ h => h) (fun o ho W hSw => ?y25) (by assumption) ?_
                  case y25 =>
                    cases ho
                    simp [execOp, go_sem, Act.eval]
                  simp only [Act.put, List.setIfInBounds_toArray, List.set_cons_zero, List.set_cons_succ]
                  refine hTake (i := 26) (v := .bool false) (some 51) (by kernel_rfl) (by kernel_rfl) (by kernel_rfl) (by kernel_rfl) (by kernel_rfl) (fun _ _ _ h => h) (fun o ho W hSw => ?y26) (by assumption) ?_
                  case y26 =>
                    cases ho
                    simp [execOp, go_sem, Act.eval]
                  simp only [Act.put, List.setIfInBounds_toArray, List.set_cons_zero, List.set_cons_succ]
                  refine wpAnyH_done (by kernel_rfl) ?_ _
                  change Exit.then _ _ _ _ Wd
                  have HRT9 : Hid (R = norB x2 k2) := by show _ = _; rw [HRV.out, ← HFT.out, hft, HSE.out]; simp
                  have hz1 := HZ1.out
                  have HB9 := HB8.out Wd pb nb cb HTBd.out.1 HTBd.out.2.1 HTBd.out.2.2.1 HTBd.out.2.2.2
                  have HTC : Hid _ := HTBd
                  clear HCA HRT hcv1d hcv2d hy0 hy1 hz0 hz2 hft
                  unfold SbOut at HB9
                  cases hG : normT x2 k2 with
                  | none =>
                    rw [hG] at HB9
                    have HRF : Hid (R = false) := by show _ = _; rw [HRT9.out]; exact norB_no (by rw [hG]; simp)
                    clear hG
                    go_wp2_with fail
                    refine HB9.mono ?_
                    rintro e w7 ⟨hb7, rfl⟩
                    have HB7 : Hid (Below w.heap.size w w7) := Below.on HBd.out hb7
                    clear hb7 HB9
                    go_wp2_with fail
                    go_ret
                    exact ⟨ret_bool HRF.out.symm, HB7.out⟩
                  | some G =>
                    rw [hG] at HB9
                    replace HB9 : Calls Tryz.prog 42 #[.slice pb nb cb] Wd (fun e w' => Below Wd.heap.size Wd w' ∧ ∃ q m c2, e = .returned (.tuple #[.slice q m c2, .int .i64 0]) ∧ OwnC w' Wd.heap.size q m c2 G.cells) := HB9
                    have HG : Hid (normT x2 k2 = some G) := hG
                    clear hG
                    go_wp2_with fail
                    refine HB9.mono ?_
                    rintro e w7 ⟨hb7, q7, m7, c7, rfl, ho7⟩
                    have HB7 : Hid (Below w.heap.size w w7) := Below.on HBd.out hb7
                    have z7 := (hb7.cell (World.block_lt_of_cell? _ _ HZ1.out)).trans HZ1.out
                    have HS7 := HS8.out G w7 q7 pb m7 c7 nb cb HG.out ho7.1 HTBd.out.1 ho7.cin (HTBd.out.2.2.2.below hb7)
                    clear hb7 HB9 ho7
                    obtain ⟨R9, eR9⟩ : ∃ x, x = norB x2 k2 := ⟨_, rfl⟩
                    rw [← eR9] at HS7
                    have HR9 : Hid (R = R9) := by show _ = _; rw [HRT9.out, eR9]
                    clear eR9
                    go_wp2_with fail
                    refine HS7.mono ?_
                    rintro e w8 ⟨rfl, hb8⟩
                    have HB8' : Hid (Below w.heap.size w w8) := Below.on HB7.out hb8
                    clear hb8 HS7
                    go_wp2_with fail
                    go_ret
                    exact ⟨ret_bool HR9.out.symm, HB8'.out⟩
            · have hqb : (a1r == ar) = false := by simpa using hq9
              have hqn : ¬ a1r = ar := hq9
              go_wp2_with fail
              refine wp_region_held_drew (S := (fun W => W = Wd)) (by kernel_rfl) ?_ (fun hHeld => ?_)
              · exact HDe.out
              rw [HDe.out]
              have hS0 : Wd = Wd := rfl
              refine hTake (i := 0) (v := .slice (some ⟨g5, 0, none⟩) 2 mc5) (some 25) (by kernel_rfl) (by kernel_rfl) (by kernel_rfl) (by kernel_rfl) (by kernel_rfl) (fun _ _ _ h => h) (fun o ho W hSw => ?y27) (by assumption) ?_
              case y27 =>
                cases ho
                simp [execOp, go_sem, Act.eval]
              simp only [Act.put, List.setIfInBounds_toArray, List.set_cons_zero, List.set_cons_succ]
              refine hTake (i := 1) (v := .pointer (some ⟨g5, 0, none⟩)) (some 26) (by kernel_rfl) (by kernel_rfl) (by kernel_rfl) (by kernel_rfl) (by kernel_rfl) (fun _ _ _ h => h) (fun o ho W hSw => ?y28) (by assumption) ?_
              case y28 =>
                cases ho
                simp [execOp, go_sem, Act.eval]
              simp only [Act.put, List.setIfInBounds_toArray, List.set_cons_zero, List.set_cons_succ]
              refine hTake (i := 2) (v := .slice (some ⟨b6, o6, none⟩) na ca) (some 27) (by kernel_rfl) (by kernel_rfl) (by kernel_rfl) (by kernel_rfl) (by kernel_rfl) (fun _ _ _ h => h) (fun o ho W hSw => ?y29) (by assumption) ?_
              case y29 =>
                cases ho
                subst hSw
                simp [execOp, go_sem, Act.eval, hz0]
              simp only [Act.put, List.setIfInBounds_toArray, List.set_cons_zero, List.set_cons_succ]
              refine hCallE (i := 3) (f := 40) (args := #[.slice (some ⟨b6, o6, none⟩) na ca]) (some 28) (by kernel_rfl) (by kernel_rfl) (by kernel_rfl) (fun o ho => ?c30) HCA ?k30 (fun ch w' hh => by cases hh.1) (fun w' hh => by cases hh.1)
              case c30 =>
                cases ho
                simp [execOp, go_sem, Act.eval]
              case k30 =>
                rintro u w5 ⟨hu, hw5⟩
                injection hu with hu
                subst hu
                rw [hw5]
                refine ⟨rfl, ?_⟩
                simp only [Act.put, List.setIfInBounds_toArray, List.set_cons_zero, List.set_cons_succ]
                refine hTake (i := 4) (v := .bool false) (some 29) (by kernel_rfl) (by kernel_rfl) (by kernel_rfl) (by kernel_rfl) (by kernel_rfl) (fun _ _ _ h => h) (fun o ho W hSw => ?y31) (by assumption) ?_
                case y31 =>
                  cases ho
                  simp [execOp, go_sem, Act.eval]
                simp only [Act.put, List.setIfInBounds_toArray, List.set_cons_zero, List.set_cons_succ]
                refine hTake (i := 5) (v := .bool false) (some 30) (by kernel_rfl) (by kernel_rfl) (by kernel_rfl) (by kernel_rfl) (by kernel_rfl) (fun _ _ _ h => h) (fun o ho W hSw => ?y32) (by assumption) ?_
                case y32 =>
                  cases ho
                  simp [execOp, go_sem, Act.eval]
                simp only [Act.put, List.setIfInBounds_toArray, List.set_cons_zero, List.set_cons_succ]
                refine hTake (i := 6) (v := .slice (some ⟨g5, 0, none⟩) 2 mc5) (some 31) (by kernel_rfl) (by kernel_rfl) (by kernel_rfl) (by kernel_rfl) (by kernel_rfl) (fun _ _ _ h => h) (fun o ho W hSw => ?y33) (by assumption) ?_
                case y33 =>
                  cases ho
                  simp [execOp, go_sem, Act.eval]
                simp only [Act.put, List.setIfInBounds_toArray, List.set_cons_zero, List.set_cons_succ]
                refine hTake (i := 7) (v := .pointer (some ⟨g5, 0, none⟩)) (some 32) (by kernel_rfl) (by kernel_rfl) (by kernel_rfl) (by kernel_rfl) (by kernel_rfl) (fun _ _ _ h => h) (fun o ho W hSw => ?y34) (by assumption) ?_
                case y34 =>
                  cases ho
                  simp [execOp, go_sem, Act.eval]
                simp only [Act.put, List.setIfInBounds_toArray, List.set_cons_zero, List.set_cons_succ]
                refine hTake (i := 8) (v := .slice (some ⟨b6, o6, none⟩) na ca) (some 33) (by kernel_rfl) (by kernel_rfl) (by kernel_rfl) (by kernel_rfl) (by kernel_rfl) (fun _ _ _ h => h) (fun o ho W hSw => ?y35) (by assumption) ?_
                case y35 =>
                  cases ho
                  subst hSw
                  simp [execOp, go_sem, Act.eval, hz0]
                simp only [Act.put, List.setIfInBounds_toArray, List.set_cons_zero, List.set_cons_succ]
                refine hTake (i := 9) (v := .pointer (some ⟨b6, o6, none⟩)) (some 34) (by kernel_rfl) (by kernel_rfl) (by kernel_rfl) (by kernel_rfl) (by kernel_rfl) (fun _ _ _ h => h) (fun o ho W hSw => ?y36) (by assumption) ?_
                case y36 =>
                  cases ho
                  simp [execOp, go_sem, Act.eval, hnaz]
                simp only [Act.put, List.setIfInBounds_toArray, List.set_cons_zero, List.set_cons_succ]
                refine hTake (i := 10) (v := .pointer (some ⟨b6, o6 + 2, none⟩)) (some 35) (by kernel_rfl) (by kernel_rfl) (by kernel_rfl) (by kernel_rfl) (by kernel_rfl) (fun _ _ _ h => h) (fun o ho W hSw => ?y37) (by assumption) ?_
                case y37 =>
                  cases ho
                  simp [execOp, go_sem, Act.eval]
                simp only [Act.put, List.setIfInBounds_toArray, List.set_cons_zero, List.set_cons_succ]
                refine hTake (i := 11) (v := .slice q6 l1 qc6) (some 36) (by kernel_rfl) (by kernel_rfl) (by kernel_rfl) (by kernel_rfl) (by kernel_rfl) (fun _ _ _ h => h) (fun o ho W hSw => ?y38) (by assumption) ?_
                case y38 =>
                  cases ho
                  subst hSw
                  simp [execOp, go_sem, Act.eval, hz2]
                simp only [Act.put, List.setIfInBounds_toArray, List.set_cons_zero, List.set_cons_succ]
                refine hTake (i := 12) (v := .string s1) (some 37) (by kernel_rfl) (by kernel_rfl) (by kernel_rfl) (by kernel_rfl) (by kernel_rfl) (fun _ _ _ h => h) (fun o ho W hSw => ?y39) (by assumption) ?_
                case y39 =>
                  cases ho
                  subst hSw
                  simp [execOp, go_sem, Act.eval, hcv1d]
                simp only [Act.put, List.setIfInBounds_toArray, List.set_cons_zero, List.set_cons_succ]
                refine hTake (i := 13) (v := .pointer (some ⟨w.heap.size, 0, none⟩)) (some 38) (by kernel_rfl) (by kernel_rfl) (by kernel_rfl) (by kernel_rfl) (by kernel_rfl) (fun _ _ _ h => h) (fun o ho W hSw => ?y40) (by assumption) ?_
                case y40 =>
                  cases ho
                  simp [execOp, go_sem, Act.eval]
                simp only [Act.put, List.setIfInBounds_toArray, List.set_cons_zero, List.set_cons_succ]
                refine hTake (i := 14) (v := .slice q m c) (some 39) (by kernel_rfl) (by kernel_rfl) (by kernel_rfl) (by kernel_rfl) (by kernel_rfl) (fun _ _ _ h => h) (fun o ho W hSw => ?y41) (by assumption) ?_
                case y41 =>
                  cases ho
                  subst hSw
                  simp [execOp, go_sem, Act.eval, hy0]
                simp only [Act.put, List.setIfInBounds_toArray, List.set_cons_zero, List.set_cons_succ]
                refine hTake (i := 15) (v := .string s1) (some 40) (by kernel_rfl) (by kernel_rfl) (by kernel_rfl) (by kernel_rfl) (by kernel_rfl) (fun _ _ _ h => h) (fun o ho W hSw => ?y42) (by assumption) ?_
                case y42 =>
                  cases ho
                  subst hSw
                  simp [execOp, go_sem, Act.eval, hcv2d]
                simp only [Act.put, List.setIfInBounds_toArray, List.set_cons_zero, List.set_cons_succ]
                refine hTake (i := 16) (v := .bool false) (some 41) (by kernel_rfl) (by kernel_rfl) (by kernel_rfl) (by kernel_rfl) (by kernel_rfl) (fun _ _ _ h => h) (fun o ho W hSw => ?y43) (by assumption) ?_
                case y43 =>
                  cases ho
                  simp [execOp, go_sem, Act.eval]
                simp only [Act.put, List.setIfInBounds_toArray, List.set_cons_zero, List.set_cons_succ]
                refine hTake (i := 17) (v := .bool false) (some 42) (by kernel_rfl) (by kernel_rfl) (by kernel_rfl) (by kernel_rfl) (by kernel_rfl) (fun _ _ _ h => h) (fun o ho W hSw => ?y44) (by assumption) ?_
                case y44 =>
                  cases ho
                  simp [execOp, go_sem, Act.eval]
                simp only [Act.put, List.setIfInBounds_toArray, List.set_cons_zero, List.set_cons_succ]
                refine hTake (i := 18) (v := .bool false) (some 43) (by kernel_rfl) (by kernel_rfl) (by kernel_rfl) (by kernel_rfl) (by kernel_rfl) (fun _ _ _ h => h) (fun o ho W hSw => ?y45) (by assumption) ?_
                case y45 =>
                  cases ho
                  simp [execOp, go_sem, Act.eval]
                simp only [Act.put, List.setIfInBounds_toArray, List.set_cons_zero, List.set_cons_succ]
                refine hTake (i := 19) (v := .slice (some ⟨g5, 0, none⟩) 2 mc5) (some 44) (by kernel_rfl) (by kernel_rfl) (by kernel_rfl) (by kernel_rfl) (by kernel_rfl) (fun _ _ _ h => h) (fun o ho W hSw => ?y46) (by assumption) ?_
                case y46 =>
                  cases ho
                  simp [execOp, go_sem, Act.eval]
                simp only [Act.put, List.setIfInBounds_toArray, List.set_cons_zero, List.set_cons_succ]
                refine hTake (i := 20) (v := .pointer (some ⟨g5, 0, none⟩)) (some 45) (by kernel_rfl) (by kernel_rfl) (by kernel_rfl) (by kernel_rfl) (by kernel_rfl) (fun _ _ _ h => h) (fun o ho W hSw => ?y47) (by assumption) ?_
                case y47 =>
                  cases ho
                  simp [execOp, go_sem, Act.eval]
                simp only [Act.put, List.setIfInBounds_toArray, List.set_cons_zero, List.set_cons_succ]
                refine hTake (i := 21) (v := .slice (some ⟨b6, o6, none⟩) na ca) (some 46) (by kernel_rfl) (by kernel_rfl) (by kernel_rfl) (by kernel_rfl) (by kernel_rfl) (fun _ _ _ h => h) (fun o ho W hSw => ?y48) (by assumption) ?_
                case y48 =>
                  cases ho
                  subst hSw
                  simp [execOp, go_sem, Act.eval, hz0]
                simp only [Act.put, List.setIfInBounds_toArray, List.set_cons_zero, List.set_cons_succ]
                refine hTake (i := 23) (v := .pointer (some ⟨w.heap.size, 1, none⟩)) (some 48) (by kernel_rfl) (by kernel_rfl) (by kernel_rfl) (by kernel_rfl) (by kernel_rfl) (fun _ _ _ h => h) (fun o ho W hSw => ?y49) (by assumption) ?_
                case y49 =>
                  cases ho
                  simp [execOp, go_sem, Act.eval]
                simp only [Act.put, List.setIfInBounds_toArray, List.set_cons_zero, List.set_cons_succ]
                refine hTake (i := 24) (v := .int .i64 ar) (some 49) (by kernel_rfl) (by kernel_rfl) (by kernel_rfl) (by kernel_rfl) (by kernel_rfl) (fun _ _ _ h => h) (fun o ho W hSw => ?y50) (by assumption) ?_
                case y50 =>
                  cases ho
                  subst hSw
                  simp [execOp, go_sem, Act.eval, hy1]
                simp only [Act.put, List.setIfInBounds_toArray, List.set_cons_zero, List.set_cons_succ]
                refine hCallE (i := 22) (f := 41) (args := #[.slice (some ⟨b6, o6, none⟩) na ca]) (some 47) (by kernel_rfl) (by kernel_rfl) (by kernel_rfl) (fun o ho => ?c51) HRT ?k51 (fun ch w' hh => by cases hh.1) (fun w' hh => by cases hh.1)
                case c51 =>
                  cases ho
                  simp [execOp, go_sem, Act.eval]
                case k51 =>
                  rintro u w6 ⟨hu, hw6⟩
                  injection hu with hu
                  subst hu
                  rw [hw6]
                  refine ⟨rfl, ?_⟩
                  simp only [Act.put, List.setIfInBounds_toArray, List.set_cons_zero, List.set_cons_succ]
                  refine hTake (i := 25) (v := .bool true) (some 50) (by kernel_rfl) (by kernel_rfl) (by kernel_rfl) (by kernel_rfl) (by kernel_rfl) (fun _ _ _ h => h) (fun o ho W hSw => ?y52) (by assumption) ?_
                  case y52 =>
                    cases ho
                    simp [execOp, go_sem, Act.eval, hqn]
                  simp only [Act.put, List.setIfInBounds_toArray, List.set_cons_zero, List.set_cons_succ]
                  refine hTake (i := 26) (v := .bool true) (some 51) (by kernel_rfl) (by kernel_rfl) (by kernel_rfl) (by kernel_rfl) (by kernel_rfl) (fun _ _ _ h => h) (fun o ho W hSw => ?y53) (by assumption) ?_
                  case y53 =>
                    cases ho
                    simp [execOp, go_sem, Act.eval]
                  simp only [Act.put, List.setIfInBounds_toArray, List.set_cons_zero, List.set_cons_succ]
                  refine wpAnyH_done (by kernel_rfl) ?_ _
                  change Exit.then _ _ _ _ Wd
                  have HRF : Hid (R = false) := by show _ = _; rw [HRV.out, decide_eq_false hq9]; simp
                  go_wp2_with fail
                  go_ret
                  exact ⟨ret_bool HRF.out.symm, HBd.out⟩
          · have hs2 : ¬ s1.toList = sn.toList := fun h => hs (by
              have : s1.data = sn.data := by
                rw [ByteArray.toList_eq, ByteArray.toList_eq] at h
                exact Array.ext' h
              cases s1; cases sn; simp_all)
            go_wp2_with fail
            refine wp_region_held_drew (S := (fun W => W = Wd)) (by kernel_rfl) ?_ (fun hHeld => ?_)
            · exact HDe.out
            rw [HDe.out]
            have hS0 : Wd = Wd := rfl
            refine hTake (i := 0) (v := .slice (some ⟨g5, 0, none⟩) 2 mc5) (some 25) (by kernel_rfl) (by kernel_rfl) (by kernel_rfl) (by kernel_rfl) (by kernel_rfl) (fun _ _ _ h => h) (fun o ho W hSw => ?y54) (by assumption) ?_
            case y54 =>
              cases ho
              simp [execOp, go_sem, Act.eval]
            simp only [Act.put, List.setIfInBounds_toArray, List.set_cons_zero, List.set_cons_succ]
            refine hTake (i := 1) (v := .pointer (some ⟨g5, 0, none⟩)) (some 26) (by kernel_rfl) (by kernel_rfl) (by kernel_rfl) (by kernel_rfl) (by kernel_rfl) (fun _ _ _ h => h) (fun o ho W hSw => ?y55) (by assumption) ?_
            case y55 =>
              cases ho
              simp [execOp, go_sem, Act.eval]
            simp only [Act.put, List.setIfInBounds_toArray, List.set_cons_zero, List.set_cons_succ]
            refine hTake (i := 2) (v := .slice (some ⟨b6, o6, none⟩) na ca) (some 27) (by kernel_rfl) (by kernel_rfl) (by kernel_rfl) (by kernel_rfl) (by kernel_rfl) (fun _ _ _ h => h) (fun o ho W hSw => ?y56) (by assumption) ?_
            case y56 =>
              cases ho
              subst hSw
              simp [execOp, go_sem, Act.eval, hz0]
            simp only [Act.put, List.setIfInBounds_toArray, List.set_cons_zero, List.set_cons_succ]
            refine hCallE (i := 3) (f := 40) (args := #[.slice (some ⟨b6, o6, none⟩) na ca]) (some 28) (by kernel_rfl) (by kernel_rfl) (by kernel_rfl) (fun o ho => ?c57) HCA ?k57 (fun ch w' hh => by cases hh.1) (fun w' hh => by cases hh.1)
            case c57 =>
              cases ho
              simp [execOp, go_sem, Act.eval]
            case k57 =>
              rintro u w5 ⟨hu, hw5⟩
              injection hu with hu
              subst hu
              rw [hw5]
              refine ⟨rfl, ?_⟩
              simp only [Act.put, List.setIfInBounds_toArray, List.set_cons_zero, List.set_cons_succ]
              refine hTake (i := 4) (v := .bool false) (some 29) (by kernel_rfl) (by kernel_rfl) (by kernel_rfl) (by kernel_rfl) (by kernel_rfl) (fun _ _ _ h => h) (fun o ho W hSw => ?y58) (by assumption) ?_
              case y58 =>
                cases ho
                simp [execOp, go_sem, Act.eval]
              simp only [Act.put, List.setIfInBounds_toArray, List.set_cons_zero, List.set_cons_succ]
              refine hTake (i := 5) (v := .bool false) (some 30) (by kernel_rfl) (by kernel_rfl) (by kernel_rfl) (by kernel_rfl) (by kernel_rfl) (fun _ _ _ h => h) (fun o ho W hSw => ?y59) (by assumption) ?_
              case y59 =>
                cases ho
                simp [execOp, go_sem, Act.eval]
              simp only [Act.put, List.setIfInBounds_toArray, List.set_cons_zero, List.set_cons_succ]
              refine hTake (i := 6) (v := .slice (some ⟨g5, 0, none⟩) 2 mc5) (some 31) (by kernel_rfl) (by kernel_rfl) (by kernel_rfl) (by kernel_rfl) (by kernel_rfl) (fun _ _ _ h => h) (fun o ho W hSw => ?y60) (by assumption) ?_
              case y60 =>
                cases ho
                simp [execOp, go_sem, Act.eval]
              simp only [Act.put, List.setIfInBounds_toArray, List.set_cons_zero, List.set_cons_succ]
              refine hTake (i := 7) (v := .pointer (some ⟨g5, 0, none⟩)) (some 32) (by kernel_rfl) (by kernel_rfl) (by kernel_rfl) (by kernel_rfl) (by kernel_rfl) (fun _ _ _ h => h) (fun o ho W hSw => ?y61) (by assumption) ?_
              case y61 =>
                cases ho
                simp [execOp, go_sem, Act.eval]
              simp only [Act.put, List.setIfInBounds_toArray, List.set_cons_zero, List.set_cons_succ]
              refine hTake (i := 8) (v := .slice (some ⟨b6, o6, none⟩) na ca) (some 33) (by kernel_rfl) (by kernel_rfl) (by kernel_rfl) (by kernel_rfl) (by kernel_rfl) (fun _ _ _ h => h) (fun o ho W hSw => ?y62) (by assumption) ?_
              case y62 =>
                cases ho
                subst hSw
                simp [execOp, go_sem, Act.eval, hz0]
              simp only [Act.put, List.setIfInBounds_toArray, List.set_cons_zero, List.set_cons_succ]
              refine hTake (i := 9) (v := .pointer (some ⟨b6, o6, none⟩)) (some 34) (by kernel_rfl) (by kernel_rfl) (by kernel_rfl) (by kernel_rfl) (by kernel_rfl) (fun _ _ _ h => h) (fun o ho W hSw => ?y63) (by assumption) ?_
              case y63 =>
                cases ho
                simp [execOp, go_sem, Act.eval, hnaz]
              simp only [Act.put, List.setIfInBounds_toArray, List.set_cons_zero, List.set_cons_succ]
              refine hTake (i := 10) (v := .pointer (some ⟨b6, o6 + 2, none⟩)) (some 35) (by kernel_rfl) (by kernel_rfl) (by kernel_rfl) (by kernel_rfl) (by kernel_rfl) (fun _ _ _ h => h) (fun o ho W hSw => ?y64) (by assumption) ?_
              case y64 =>
                cases ho
                simp [execOp, go_sem, Act.eval]
              simp only [Act.put, List.setIfInBounds_toArray, List.set_cons_zero, List.set_cons_succ]
              refine hTake (i := 11) (v := .slice q6 l1 qc6) (some 36) (by kernel_rfl) (by kernel_rfl) (by kernel_rfl) (by kernel_rfl) (by kernel_rfl) (fun _ _ _ h => h) (fun o ho W hSw => ?y65) (by assumption) ?_
              case y65 =>
                cases ho
                subst hSw
                simp [execOp, go_sem, Act.eval, hz2]
              simp only [Act.put, List.setIfInBounds_toArray, List.set_cons_zero, List.set_cons_succ]
              refine hTake (i := 12) (v := .string s1) (some 37) (by kernel_rfl) (by kernel_rfl) (by kernel_rfl) (by kernel_rfl) (by kernel_rfl) (fun _ _ _ h => h) (fun o ho W hSw => ?y66) (by assumption) ?_
              case y66 =>
                cases ho
                subst hSw
                simp [execOp, go_sem, Act.eval, hcv1d]
              simp only [Act.put, List.setIfInBounds_toArray, List.set_cons_zero, List.set_cons_succ]
              refine hTake (i := 13) (v := .pointer (some ⟨w.heap.size, 0, none⟩)) (some 38) (by kernel_rfl) (by kernel_rfl) (by kernel_rfl) (by kernel_rfl) (by kernel_rfl) (fun _ _ _ h => h) (fun o ho W hSw => ?y67) (by assumption) ?_
              case y67 =>
                cases ho
                simp [execOp, go_sem, Act.eval]
              simp only [Act.put, List.setIfInBounds_toArray, List.set_cons_zero, List.set_cons_succ]
              refine hTake (i := 14) (v := .slice q m c) (some 39) (by kernel_rfl) (by kernel_rfl) (by kernel_rfl) (by kernel_rfl) (by kernel_rfl) (fun _ _ _ h => h) (fun o ho W hSw => ?y68) (by assumption) ?_
              case y68 =>
                cases ho
                subst hSw
                simp [execOp, go_sem, Act.eval, hy0]
              simp only [Act.put, List.setIfInBounds_toArray, List.set_cons_zero, List.set_cons_succ]
              refine hTake (i := 15) (v := .string sn) (some 40) (by kernel_rfl) (by kernel_rfl) (by kernel_rfl) (by kernel_rfl) (by kernel_rfl) (fun _ _ _ h => h) (fun o ho W hSw => ?y69) (by assumption) ?_
              case y69 =>
                cases ho
                subst hSw
                simp [execOp, go_sem, Act.eval, hcv2d]
              simp only [Act.put, List.setIfInBounds_toArray, List.set_cons_zero, List.set_cons_succ]
              refine hTake (i := 16) (v := .bool true) (some 41) (by kernel_rfl) (by kernel_rfl) (by kernel_rfl) (by kernel_rfl) (by kernel_rfl) (fun _ _ _ h => h) (fun o ho W hSw => ?y70) (by assumption) ?_
              case y70 =>
                cases ho
                simp [execOp, go_sem, Act.eval, hs2, hs]
              simp only [Act.put, List.setIfInBounds_toArray, List.set_cons_zero, List.set_cons_succ]
              refine hTake (i := 17) (v := .bool true) (some 42) (by kernel_rfl) (by kernel_rfl) (by kernel_rfl) (by kernel_rfl) (by kernel_rfl) (fun _ _ _ h => h) (fun o ho W hSw => ?y71) (by assumption) ?_
              case y71 =>
                cases ho
                simp [execOp, go_sem, Act.eval]
              simp only [Act.put, List.setIfInBounds_toArray, List.set_cons_zero, List.set_cons_succ]
              refine hTake (i := 18) (v := .bool true) (some 43) (by kernel_rfl) (by kernel_rfl) (by kernel_rfl) (by kernel_rfl) (by kernel_rfl) (fun _ _ _ h => h) (fun o ho W hSw => ?y72) (by assumption) ?_
              case y72 =>
                cases ho
                simp [execOp, go_sem, Act.eval]
              simp only [Act.put, List.setIfInBounds_toArray, List.set_cons_zero, List.set_cons_succ]
              refine hSkip (i := 19) (some 44) (by kernel_rfl) (by kernel_rfl) (by kernel_rfl) (by kernel_rfl) (by kernel_rfl) (fun _ _ _ h => h) (by assumption) ?_
              simp only [Act.put, List.setIfInBounds_toArray, List.set_cons_zero, List.set_cons_succ]
              refine hSkip (i := 20) (some 45) (by kernel_rfl) (by kernel_rfl) (by kernel_rfl) (by kernel_rfl) (by kernel_rfl) (fun _ _ _ h => h) (by assumption) ?_
              simp only [Act.put, List.setIfInBounds_toArray, List.set_cons_zero, List.set_cons_succ]
              refine hSkip (i := 21) (some 46) (by kernel_rfl) (by kernel_rfl) (by kernel_rfl) (by kernel_rfl) (by kernel_rfl) (fun _ _ _ h => h) (by assumption) ?_
              simp only [Act.put, List.setIfInBounds_toArray, List.set_cons_zero, List.set_cons_succ]
              refine hSkip (i := 22) (some 47) (by kernel_rfl) (by kernel_rfl) (by kernel_rfl) (by kernel_rfl) (by kernel_rfl) (fun _ _ _ h => h) (by assumption) ?_
              simp only [Act.put, List.setIfInBounds_toArray, List.set_cons_zero, List.set_cons_succ]
              refine hSkip (i := 23) (some 48) (by kernel_rfl) (by kernel_rfl) (by kernel_rfl) (by kernel_rfl) (by kernel_rfl) (fun _ _ _ h => h) (by assumption) ?_
              simp only [Act.put, List.setIfInBounds_toArray, List.set_cons_zero, List.set_cons_succ]
              refine hSkip (i := 24) (some 49) (by kernel_rfl) (by kernel_rfl) (by kernel_rfl) (by kernel_rfl) (by kernel_rfl) (fun _ _ _ h => h) (by assumption) ?_
              simp only [Act.put, List.setIfInBounds_toArray, List.set_cons_zero, List.set_cons_succ]
              refine hSkip (i := 25) (some 50) (by kernel_rfl) (by kernel_rfl) (by kernel_rfl) (by kernel_rfl) (by kernel_rfl) (fun _ _ _ h => h) (by assumption) ?_
              simp only [Act.put, List.setIfInBounds_toArray, List.set_cons_zero, List.set_cons_succ]
              refine hTake (i := 26) (v := .bool true) (some 51) (by kernel_rfl) (by kernel_rfl) (by kernel_rfl) (by kernel_rfl) (by kernel_rfl) (fun _ _ _ h => h) (fun o ho W hSw => ?y73) (by assumption) ?_
              case y73 =>
                cases ho
                simp [execOp, go_sem, Act.eval]
              simp only [Act.put, List.setIfInBounds_toArray, List.set_cons_zero, List.set_cons_succ]
              refine wpAnyH_done (by kernel_rfl) ?_ _
              change Exit.then _ _ _ _ Wd
              have HRF : Hid (R = false) := by show _ = _; rw [HRV.out, decide_eq_false (fun h => hs (HT1.out.1 h))]; simp
              go_wp2_with fail
              go_ret
              exact ⟨ret_bool HRF.out.symm, HBd.out⟩
    · rw [decide_eq_false hr] at HIS
      have HRF : Hid (R = false) := by show _ = _; rw [HR.out]; unfold clT; rw [decide_eq_false (show ¬ (cc, k).1 = ruleC from hr)]; rfl
      obtain ⟨l, el⟩ : ∃ l, l = cs.length := ⟨_, rfl⟩
      rw [← el] at HV HIS ⊢
      clear hm hq hxb hin hv ex hok hlx hkl hbm hr el eR HCL HTI hnm hl HRN HSM HRL HR
      go_enter Tryz.func13, Tryz.ntmps13
      go_wp2_with fail
      rw [← HEB.out]
      refine HV.mono ?_
      rintro e w1 ⟨rfl, hb1⟩
      have HA1 : Hid (Below (w.alloc bx).heap.size (w.alloc bx) w1) := hb1
      have HIS1 := HIS.out w1 (HBX.out w1 hb1).2
      clear hb1 HV HIS
      go_wp2_with fail
      refine HIS1.mono ?_
      rintro e w1' ⟨rfl, hw1⟩
      subst hw1
      go_wp2_with fail
      go_ret
      exact ⟨ret_bool HRF.out.symm, (HBX.out _ HA1.out).2⟩
  · have hv' : validB cs = false := by simpa using hv
    rw [hv'] at HV
    rw [clB_bad hv']
    obtain ⟨l, el⟩ : ∃ l, l = cs.length := ⟨_, rfl⟩
    rw [← el] at HV ⊢
    clear hm hq hxb hin hv hv' el hnm hl
    go_enter Tryz.func13, Tryz.ntmps13
    go_wp2_with fail
    rw [← HEB.out]
    refine HV.mono ?_
    rintro e w1 ⟨rfl, hb1⟩
    have HA1 : Hid (Below (w.alloc bx).heap.size (w.alloc bx) w1) := hb1
    clear hb1 HV
    go_wp2_with fail
    go_ret
    exact ⟨rfl, (HBX.out _ HA1.out).2⟩
end Go.Proofs.YtfgaenggbbgboaaGreatDoor

