/- Texts of NbS, MarkH, LawNb. Own work of the verifier. -/
import Derived.Test.YtemohfhblpejmaaDoorUqaq
import Derived.Test.YtemohfhblpejmaaDoorUqas
import Derived.Test.YtemohfhblpejmaaDoorUqai
import Derived.Test.YtemohfhblpejmaaDoorUqac
namespace Go.Proofs.YtemohfhblpejmaaDoor
open Go Go.RowKit
set_option linter.unusedVariables false

theorem l8body_all : ∀ M, SbOk M := by
  intro M
  induction M using Nat.strongRecOn with
  | ind M ih =>
    intro c k p n cap w hM hok hn hnl hcap hcm hin
    have hcl := hok.1
    obtain ⟨c0, c1, c2⟩ := c
    have h0 : c0 = 0 ∨ c0 = 1 ∨ c0 = 2 ∨ c0 = 3 := by simp only [cellB, decide_eq_true_eq] at hcl; omega
    rcases h0 with rfl | rfl | rfl | rfl
    · have hk : k = .nil := hok.2.2.2.1 (by simp)
      subst hk
      have e2 : c2 = [] := by simp [cellB] at hcl; exact hcl.2.2
      subst e2
      simp only [Fo.cells, List.length_nil] at hn
      subst hn
      exact l8body_var c1 p cap w hin
    · have hk : k = .nil := hok.2.2.2.1 (by simp)
      subst hk
      have e2 : c2 = [] := by simp [cellB] at hcl; exact hcl.2.2
      subst e2
      simp only [Fo.cells, List.length_nil] at hn
      subst hn
      exact l8body_num c1 p cap w hin
    · cases hd : dolL c2 with
      | true => exact l8body_dol (2, c1, c2) k p n cap w (.inl rfl) hd hok hn hin
      | false => exact l8body_same (2, c1, c2) k p n cap w (.inl rfl) hd hok hn hnl hin
    · cases hd : dolL c2 with
      | true => exact l8body_dol (3, c1, c2) k p n cap w (.inr rfl) hd hok hn hin
      | false =>
        have hc1 : c1 = (k.count : Int) := hok.2.2.1 rfl
        subst hc1
        cases hc : conC (3, (k.count : Int), c2) with
        | false => exact l8body_same (3, (k.count : Int), c2) k p n cap w (.inr ⟨rfl, hc⟩) hd hok hn hnl hin
        | true => exact l8body_con c2 k p n cap w k.count (fun m hm => ih m (by omega)) hc hd hok hn hnl hcap hcm hin

set_option maxRecDepth 100000 in
theorem specNormal_any (cs : List Cel) (p : Option Addr) (n cap : Nat) (w : World) (hn : n = cs.length) (hc : n ≤ cap) (hm : cap ≤ 1000000000) (hin : CIn w p cs) (r : List Cel × Int) (hr : normalR cs r) :
    Calls Tryd.prog 6 #[.slice p n cap] w (NbRes w r) := by
  have HV : Calls Tryd.prog 15 #[.slice p n cap] w fun e w' => e = .returned (.bool (validB cs)) ∧ Below w.heap.size w w' := by rw [hn]; exact specValid_any p cap cs w (by omega) hin
  unfold normalR at hr
  cases hv : validB cs with
  | false =>
    rw [hv] at HV hr
    rw [if_neg (by decide)] at hr
    subst hr
    clear hin hn hc hm hv
    go_enter Tryd.func6, Tryd.ntmps6
    go_wp2_with fail
    refine HV.mono ?_
    rintro e w1 ⟨rfl, hb⟩
    have HF : Hid (NbRes w ([], 1) (.returned (.tuple #[.slice none 0 0, .int .i64 1])) w1) := ⟨none, 0, 0, rfl, OwnC.nil _ _, hb⟩
    clear hb HV
    go_wp2_with fail
    go_ret2
    exact HF.out
  | true =>
    rw [hv] at HV hr
    rw [if_pos rfl] at hr
    obtain ⟨c, k, ec, hok, hl, hre⟩ := hr
    have HRE : Hid (r = normR cs (normT c k)) := hre
    have HB8 : Hid (∀ W, Below w.heap.size w W → Calls Tryd.prog 16 #[.slice p n cap] W (SbOut W (normT c k))) := fun W hW => l8body_all k.cells.length c k p n cap W (Nat.le_refl _) hok (by rw [hn, ec]; simp; omega) (by omega) hc hm (by have := hin.below hW; rwa [ec] at this)
    have HOK : Hid ((Fo.node c k .nil).ok ∧ k.cells.length ≤ 2000) := ⟨hok, by rw [ec] at hl; simp at hl; omega⟩
    clear hin hn hc hm hv ec hok hl hre
    cases hnt : normT c k with
    | none =>
      have HRR : Hid (r = ([], 4)) := by show _ = _; rw [HRE.out, hnt]; rfl
      rw [hnt] at HB8
      clear hnt
      go_enter Tryd.func6, Tryd.ntmps6
      go_wp2_with fail
      refine HV.mono ?_
      rintro e w1 ⟨rfl, hb⟩
      have HB1 : Hid (Below w.heap.size w w1) := hb
      have HT1 := HB8.out w1 hb
      clear hb HV
      go_wp2_with fail
      refine HT1.mono ?_
      rintro e w3 hout
      obtain ⟨hb3, rfl⟩ := hout
      have HB3 : Hid (Below w.heap.size w w3) := Below.on HB1.out hb3
      clear hb3 HT1
      go_wp2_with fail
      go_ret2
      rw [HRR.out]
      exact ⟨none, 0, 0, rfl, OwnC.nil _ _, HB3.out⟩
    | some G =>
      rw [hnt] at HB8
      obtain ⟨c', k', rfl, hok', hl'⟩ := normT_ok hnt HOK.out.1
      have hl2 : (Fo.node c' k' .nil).cells.length ≤ 10000 := by have := HOK.out.2; omega
      have HRE2 : Hid (r = normR cs (some (.node c' k' .nil))) := by show _ = _; rw [HRE.out, hnt]
      obtain ⟨gs, egs⟩ : ∃ gs, gs = (Fo.node c' k' .nil).cells := ⟨_, rfl⟩
      rw [← egs] at hl2
      have HGS : Hid (gs = (Fo.node c' k' .nil).cells) := egs
      clear hnt hok' hl' egs
      by_cases hs : gs.length ≤ 2000
      · have HRR : Hid (r = (gs, 0)) := by show _ = _; rw [HRE2.out]; unfold normR; simp only; rw [← HGS.out, if_pos hs]
        obtain ⟨L, eL⟩ : ∃ L, L = gs.length := ⟨_, rfl⟩
        have HL : Hid (L = gs.length) := eL
        rw [← eL] at hs hl2
        clear eL
        go_enter Tryd.func6, Tryd.ntmps6
        go_wp2_with fail
        refine HV.mono ?_
        rintro e w1 ⟨rfl, hb⟩
        have HB1 : Hid (Below w.heap.size w w1) := hb
        have HT1 := HB8.out w1 hb
        clear hb HV
        go_wp2_with fail
        refine HT1.mono ?_
        rintro e w3 hout
        obtain ⟨hb3, q, m, c2, rfl, ho⟩ := hout
        have hm : m = L := by rw [ho.1, HL.out, HGS.out]
        subst hm
        have HF : Hid (NbRes w (gs, 0) (.returned (.tuple #[.slice q m c2, .int .i64 0])) w3) := ⟨q, m, c2, rfl, by rw [HGS.out]; exact ho.mono HB1.out.size, Below.on HB1.out hb3⟩
        clear hb3 HT1 ho
        go_wp2_with fail
        go_ret2
        rw [HRR.out]
        exact HF.out
      · have HRR : Hid (r = ([], 3)) := by show _ = _; rw [HRE2.out]; unfold normR; simp only; rw [← HGS.out, if_neg hs]
        obtain ⟨L, eL⟩ : ∃ L, L = gs.length := ⟨_, rfl⟩
        have HL : Hid (L = gs.length) := eL
        rw [← eL] at hs hl2
        clear eL
        go_enter Tryd.func6, Tryd.ntmps6
        go_wp2_with fail
        refine HV.mono ?_
        rintro e w1 ⟨rfl, hb⟩
        have HB1 : Hid (Below w.heap.size w w1) := hb
        have HT1 := HB8.out w1 hb
        clear hb HV
        go_wp2_with fail
        refine HT1.mono ?_
        rintro e w3 hout
        obtain ⟨hb3, q, m, c2, rfl, ho⟩ := hout
        have hm : m = L := by rw [ho.1, HL.out, HGS.out]
        subst hm
        have HB3 : Hid (Below w.heap.size w w3) := Below.on HB1.out hb3
        clear hb3 HT1 ho
        go_wp2_with fail
        go_ret2
        rw [HRR.out]
        exact ⟨none, 0, 0, rfl, OwnC.nil _ _, HB3.out⟩

end Go.Proofs.YtemohfhblpejmaaDoor

namespace Go.Proofs.YtemohfhblpejmaaDoor
open Go Go.RowKit
set_option linter.unusedVariables false

theorem heldCells_any (p : Option Addr) (n c : Nat) (k : Int) (cs : List Cel) (w : World) (h0 : 0 ≤ k) (h1 : k ≤ 10000000) (hn : cs.length + tl cs ≤ 100000000) (hl : n = cs.length) (hin : CIn w p (markC k cs)) :
    Calls Tryd.prog 11 #[.slice p n c, .int .i64 k] w fun e w' => e = .returned (.int .i64 (endC k cs)) ∧ w' = w := by
  have HI : Hid (CIn w p (markC k cs)) := hin
  have HNL : Hid (n = cs.length) := hl
  clear hin
  have hnn : n ≤ 100000000 := by omega
  clear hl
  go_enter Tryd.func11, Tryd.ntmps11
  go_wp2_with fail
  go_loop [1, 5] (fun q i => ∃ (j : Nat) (kj : Int), j ≤ n ∧ 0 ≤ kj ∧ kj ≤ 1000000000 ∧ i = .int .i64 j ∧ q = .int .i64 kj ∧ Hid (kj = kAt k cs j)) (fun _ i => n - (intOf i).toNat)
  case atStart => exact ⟨0, k, Nat.zero_le _, h0, by omega, rfl, rfl, (kAt_zero _ _).symm⟩
  case round =>
    obtain ⟨j, kj, hj, hk0, hk1, rfl, rfl, HK⟩ := hrel
    by_cases hlt : j < n
    · have hjl : j < cs.length := by rw [← HNL.out]; exact hlt
      obtain ⟨b, o, rfl, hcs⟩ := HI.out (by rw [markC, mixC_len]; omega)
      obtain ⟨q, qc, d0, d1, d2, d3⟩ := hcs j (by rw [markC, mixC_len]; exact hjl)
      have hm : (markC k cs).getD j Cel.none = markedC k cs j := by rw [markC, mixC_at _ _ _ _ hjl, if_pos hjl]
      rw [hm] at d0 d1 d2 d3
      simp only [markedC, ← HK.out, marks_len] at d0 d1 d2 d3
      have htl := tl_at cs j hjl
      have HS1 : Hid _ := kAt_succ k cs j hjl
      have hbound : kAt k cs (j + 1) ≤ 1000000000 := by have := tl_take_le cs (j + 1); simp only [kAt]; omega
      have HBD : Hid _ := hbound
      obtain ⟨tn, etn⟩ : ∃ x, x = (cs.getD j Cel.none).2.2.length := ⟨_, rfl⟩
      rw [← etn] at d2 d3 HS1
      have htn : tn ≤ 100000000 := by omega
      have hpos : ¬ (kj + 1 + 1 + (tn : Int) < 0) := by omega
      have HH := held_any q tn qc (kj + 1 + 1) w (by omega) (by omega) (by omega) d3
      clear etn hcs hm htl HI hbound d3
      go_wp2_with fail
      refine HH.mono ?_
      rintro e w3 ⟨rfl, rfl⟩
      go_wp2_with fail
      have e1 := HS1.out
      have e3 := HK.out
      have e5 := HBD.out
      go_round
      case rel => exact ⟨j + 1, kj + 1 + 1 + tn, by omega, by omega, by rw [e1] at e5; omega, by go_num, rfl, by show _ = _; rw [e1]; omega⟩
      case measure => simp [intOf]; omega
    · obtain rfl : j = n := by omega
      clear HI
      go_wp2_with fail
      go_ret
      exact ⟨ret_int (by rw [HK.out, HNL.out]; rfl), rfl⟩

end Go.Proofs.YtemohfhblpejmaaDoor

namespace Go.Proofs.YtemohfhblpejmaaDoor
open Go Go.RowKit
set_option linter.unusedVariables false

theorem normR_size (cs : List Cel) (c : Cel) (k : Fo) (hok : (Fo.node c k .nil).ok) : (normR cs (normT c k)).1.length + tl (normR cs (normT c k)).1 ≤ 300000 := by
  cases h : normT c k with
  | none => simp [normR, tl]
  | some G =>
    obtain ⟨c', k', rfl, hok', _⟩ := normT_ok h hok
    unfold normR
    simp only
    split
    · rename_i hl
      have := tl_ok _ hok'
      show (Fo.node c' k' .nil).cells.length + tl (Fo.node c' k' .nil).cells ≤ 300000
      omega
    · simp [tl]
theorem normal_both (cs : List Cel) (hby : ∀ i, i < cs.length → Byte (cs.getD i Cel.none).2.2) (hl : cs.length ≤ 1048576) : ∃ r : List Cel × Int, r.1.length + tl r.1 ≤ 300000 ∧
    (∀ (q : Option Addr) (w : World), CIn w q cs → Calls Tryd.prog 6 #[.slice q cs.length cs.length] w fun e w' => ∃ q m c2, e = .returned (.tuple #[.slice q m c2, .int .i64 r.2]) ∧ m = r.1.length ∧ CIn w' q r.1 ∧ Below w.heap.size w w') ∧
    (∀ (a a2 : Addr) (q : Option Addr) (w : World), CIn w q cs → ErrAt w a a2 → Calls Tryd.prog 8 #[.slice q cs.length cs.length] w fun e w' => ∃ q m c2, e = .returned (.tuple #[.slice q m c2, .int .i64 r.2]) ∧ OwnC w' w.heap.size q m c2 r.1 ∧ Below w.heap.size w w') := by
  obtain ⟨r, hr, hs⟩ : ∃ r, normalR cs r ∧ r.1.length + tl r.1 ≤ 300000 := by
    cases hv : validB cs with
    | false => exact ⟨([], 1), by unfold normalR; rw [hv]; simp, by simp [tl]⟩
    | true =>
      obtain ⟨c, k, ec, hok, hl⟩ := tree_of hby hv
      exact ⟨normR cs (normT c k), by unfold normalR; rw [hv, if_pos rfl]; exact ⟨c, k, ec, hok, hl, rfl⟩, normR_size cs c k hok⟩
  refine ⟨r, hs, fun q w hin => ?_, fun a a2 q w hin he => implNormal_any cs q cs.length cs.length a a2 w rfl (Nat.le_refl _) (by omega) hby hin he r hr⟩
  refine (specNormal_any cs q cs.length cs.length w rfl (Nat.le_refl _) (by omega) hin r hr).mono ?_
  rintro e w' ⟨q', m, c2, h1, h2, h3⟩
  exact ⟨q', m, c2, h1, h2.1, h2.cin, h3⟩
theorem endC_pos6 {k : Int} (h : 0 ≤ k) (cs : List Cel) : ¬ endC k cs < 0 := by rw [endC_eq]; omega

set_option maxRecDepth 100000 in
set_option maxHeartbeats 1000000 in
theorem lawNb_any (q : Option Addr) (cap' : Nat) (cs : List Cel) (w : World) (hin' : CArg w q cs) (a a2 : Addr) (hE : ErrAt w a a2) :
    Calls Tryd.prog 3 #[.slice q cs.length cap'] w fun e w' => e = .returned (.bool true) ∧ Below w.heap.size w w' := by
  have HJ : Hid (CArg w q cs) := hin'
  have HS := szCellS_any q cap' cs 1048576 w (Nat.le_refl _) hin'.len hin'.text hin'.lies
  have hlen2 := hin'.len
  have HBY : Hid (∀ i, i < cs.length → Byte (cs.getD i Cel.none).2.2) := hin'.byte
  have HE : Hid (∀ W, Below w.heap.size w W → ErrAt W a a2) := fun W hW => hE.below hW
  clear hin' hE
  by_cases hm : cs.length + tl cs ≤ 1048576
  · obtain ⟨r, er⟩ : ∃ r : Nat, szR 1048576 (cs.length + tl cs) = r := ⟨1048576 - (cs.length + tl cs), by rw [szR, if_pos hm]; omega⟩
    rw [er] at HS
    clear er
    obtain ⟨⟨zs, code⟩, hz, hsp, him⟩ := normal_both cs HBY.out (by omega)
    have HZL : Hid (zs.length + tl zs ≤ 300000) := hz
    have HSP : Hid (∀ (q : Option Addr) (w : World), CIn w q cs → Calls Tryd.prog 6 #[.slice q cs.length cs.length] w fun e w' => ∃ q m c2, e = .returned (.tuple #[.slice q m c2, .int .i64 code]) ∧ m = zs.length ∧ CIn w' q zs ∧ Below w.heap.size w w') := hsp
    have HIM : Hid (∀ (q : Option Addr) (W : World), Below w.heap.size w W → CIn W q cs → Calls Tryd.prog 8 #[.slice q cs.length cs.length] W fun e w' => ∃ q m c2, e = .returned (.tuple #[.slice q m c2, .int .i64 code]) ∧ OwnC w' W.heap.size q m c2 zs ∧ Below W.heap.size W w') := fun q W hW h => him a a2 q W h (HE.out W hW)
    clear hz hsp him HBY hlen2 HE
    go_enter Tryd.func3, Tryd.ntmps3
    go_wp2_with fail
    refine (HS).mono ?_
    rintro e w0 ⟨rfl, hb⟩
    have HA0 : Hid (Below w.heap.size w w0) := hb
    clear hb HS
    go_wp2_with fail
    refine (toCellS_any q cap' cs w0 hm (HJ.out.below HA0.out).lies).mono ?_
    rintro e w1 ⟨rfl, ho, hb⟩
    have HA1 : Hid (Below w.heap.size w w1) := Below.on HA0.out hb
    have HQ1 : Hid (CIn w1 (some ⟨w0.heap.size, 0, none⟩) cs) := ho.cin
    clear ho hb
    go_wp2_with fail
    refine (HSP.out _ w1 HQ1.out).mono ?_
    rintro e w2 ⟨p2, n2, c2, rfl, hn2, hc2, hb⟩
    have HA2 : Hid (Below w.heap.size w w2) := Below.on HA1.out hb
    have HB2 : Hid (Below w2.heap.size w2 w2) := Below.refl _ _
    have HZ2 : Hid (CIn w2 p2 zs ∧ n2 = zs.length) := ⟨hc2, hn2⟩
    clear hn2 hc2 hb HQ1
    go_wp2_with fail
    refine (toCellS_any q cap' cs w2 hm (HJ.out.below HA2.out).lies).mono ?_
    rintro e w3 ⟨rfl, ho, hb⟩
    have HA3 : Hid (Below w.heap.size w w3) := Below.on HA2.out hb
    have HB3 : Hid (Below w2.heap.size w2 w3) := Below.on HB2.out hb
    have HY3 : Hid (OwnCU w3 w2.heap.size w3.heap.size (some ⟨w2.heap.size, 0, none⟩) cs.length cs.length cs) := ho.up
    have HR3 : Hid (w3.heap.size ≤ w3.heap.size) := Nat.le_refl _
    clear ho hb
    go_wp2_with fail
    refine (HIM.out _ w3 HA3.out HY3.out.toC.cin).mono ?_
    rintro e w4 ⟨p4, n4, c4, rfl, ho, hb⟩
    have HA4 : Hid (Below w.heap.size w w4) := Below.on HA3.out hb
    have HB4 : Hid (Below w2.heap.size w2 w4) := Below.on HB3.out hb
    have HY4 : Hid (OwnCU w4 w2.heap.size w3.heap.size (some ⟨w2.heap.size, 0, none⟩) cs.length cs.length cs) := HY3.out.below hb
    have HR4 : Hid (w3.heap.size ≤ w4.heap.size) := Nat.le_trans HR3.out hb.size
    have HG4 : Hid (OwnCU w4 w3.heap.size w4.heap.size p4 n4 c4 zs) := ho.up
    have HN4 : Hid (n4 = zs.length) := ho.1
    clear ho hb
    go_wp2_with fail
    rw [HN4.out, HZ2.out.2]
    refine (eqCellS_any p4 p2 c4 c2 zs zs w4 (by have := HZL.out; omega) (by have := HZL.out; omega) HG4.out.toC.cin (HZ2.out.1.below HB4.out)).mono ?_
    rintro e w5 ⟨rfl, hb⟩
    have HA5 : Hid (Below w.heap.size w w5) := Below.on HA4.out hb
    have HB5 : Hid (Below w2.heap.size w2 w5) := Below.on HB4.out hb
    have HY5 : Hid (OwnCU w5 w2.heap.size w3.heap.size (some ⟨w2.heap.size, 0, none⟩) cs.length cs.length cs) := HY4.out.below hb
    have HR5 : Hid (w3.heap.size ≤ w5.heap.size) := Nat.le_trans HR4.out hb.size
    have HG5 : Hid (OwnCU w5 w3.heap.size w4.heap.size p4 n4 c4 zs) := HG4.out.below hb
    have ht : decide (zs = zs) = true := by simp
    rw [ht, ← HN4.out]
    clear ht hb
    go_wp2_with fail
    refine (toCellS_any q cap' cs w5 hm (HJ.out.below HA5.out).lies).mono ?_
    rintro e w6 ⟨rfl, ho, hb⟩
    have HA6 : Hid (Below w.heap.size w w6) := Below.on HA5.out hb
    have HB6 : Hid (Below w2.heap.size w2 w6) := Below.on HB5.out hb
    have HY6 : Hid (OwnCU w6 w2.heap.size w3.heap.size (some ⟨w2.heap.size, 0, none⟩) cs.length cs.length cs) := HY5.out.below hb
    have HR6 : Hid (w3.heap.size ≤ w6.heap.size) := Nat.le_trans HR5.out hb.size
    have HG6 : Hid (OwnCU w6 w3.heap.size w4.heap.size p4 n4 c4 zs) := HG5.out.below hb
    have HQ6 : Hid (CIn w6 (some ⟨w5.heap.size, 0, none⟩) cs) := ho.cin
    clear ho hb
    go_wp2_with fail
    refine (eqCellS_any _ _ _ _ cs cs w6 (by omega) (by omega) HY6.out.toC.cin HQ6.out).mono ?_
    rintro e w7 ⟨rfl, hb⟩
    have HA7 : Hid (Below w.heap.size w w7) := Below.on HA6.out hb
    have HB7 : Hid (Below w2.heap.size w2 w7) := Below.on HB6.out hb
    have HY7 : Hid (OwnCU w7 w2.heap.size w3.heap.size (some ⟨w2.heap.size, 0, none⟩) cs.length cs.length cs) := HY6.out.below hb
    have HR7 : Hid (w3.heap.size ≤ w7.heap.size) := Nat.le_trans HR6.out hb.size
    have HG7 : Hid (OwnCU w7 w3.heap.size w4.heap.size p4 n4 c4 zs) := HG6.out.below hb
    have ht : decide (cs = cs) = true := by simp
    rw [ht]
    clear ht hb HQ6
    go_wp2_with fail
    refine (markCells_any w2.heap.size w3.heap.size _ _ _ 1 cs w7 (by decide) (by decide) (by omega) HY7.out).mono ?_
    rintro e w8 ⟨rfl, ho, hk⟩
    have HA8 : Hid (Below w.heap.size w w8) := HA7.out.trans (hk.below HA2.out.size HA7.out.size)
    have HB8 : Hid (Below w2.heap.size w2 w8) := HB7.out.trans (hk.below (Nat.le_refl _) HB7.out.size)
    have HR8 : Hid (w3.heap.size ≤ w8.heap.size) := Nat.le_trans HR7.out hk.size
    have HG8 : Hid (OwnCU w8 w3.heap.size w4.heap.size p4 n4 c4 zs) := HG7.out.keep hk (.inr (Nat.le_refl _))
    obtain ⟨k2, ek2⟩ : ∃ k, k = endC 1 cs := ⟨_, rfl⟩
    have hk2 : ¬ k2 < 0 := by rw [ek2]; exact endC_pos6 (by decide) cs
    rw [← ek2]
    clear ek2 ho hk HY7
    go_wp2_with fail
    rw [HN4.out]
    refine (eqCellS_any p4 p2 c4 c2 zs zs w8 (by have := HZL.out; omega) (by have := HZL.out; omega) HG8.out.toC.cin (HZ2.out.1.below HB8.out)).mono ?_
    rintro e w9 ⟨rfl, hb⟩
    have HA9 : Hid (Below w.heap.size w w9) := Below.on HA8.out hb
    have HB9 : Hid (Below w2.heap.size w2 w9) := Below.on HB8.out hb
    have HR9 : Hid (w3.heap.size ≤ w9.heap.size) := Nat.le_trans HR8.out hb.size
    have HG9 : Hid (OwnCU w9 w3.heap.size w4.heap.size p4 n4 c4 zs) := HG8.out.below hb
    have ht : decide (zs = zs) = true := by simp
    rw [ht, ← HN4.out]
    clear ht hb
    go_wp2_with fail
    refine (markCells_any w3.heap.size w4.heap.size p4 n4 c4 1 zs w9 (by decide) (by decide) (by have := HZL.out; omega) HG9.out).mono ?_
    rintro e w10 ⟨rfl, ho, hk⟩
    have HA10 : Hid (Below w.heap.size w w10) := HA9.out.trans (hk.below HA3.out.size HA9.out.size)
    have HB10 : Hid (Below w2.heap.size w2 w10) := HB9.out.trans (hk.below HB3.out.size HB9.out.size)
    have HR10 : Hid (w3.heap.size ≤ w10.heap.size) := Nat.le_trans HR9.out hk.size
    have HH10 : Hid (CIn w10 p4 (markC 1 zs)) := ho.toC.cin
    obtain ⟨mm, emm⟩ : ∃ mm, mm = endC 1 zs := ⟨_, rfl⟩
    have hmm : ¬ mm < 0 := by rw [emm]; exact endC_pos6 (by decide) zs
    have HMM : Hid (mm = endC 1 zs) := emm
    rw [← emm]
    clear emm ho hk HG9
    go_wp2_with fail
    refine (heldCells_any p4 n4 c4 1 zs w10 (by decide) (by decide) (by have := HZL.out; omega) HN4.out HH10.out).mono ?_
    rintro e wh ⟨rfl, hwh⟩
    rw [hwh, ← HMM.out]
    clear hwh
    go_wp2_with fail
    refine (toCellS_any q cap' cs w10 hm (HJ.out.below HA10.out).lies).mono ?_
    rintro e w11 ⟨rfl, ho, hb⟩
    have HA11 : Hid (Below w.heap.size w w11) := Below.on HA10.out hb
    have HB11 : Hid (Below w2.heap.size w2 w11) := Below.on HB10.out hb
    have HR11 : Hid (w3.heap.size ≤ w11.heap.size) := Nat.le_trans HR10.out hb.size
    have HH11 : Hid (CIn w11 p4 (markC 1 zs)) := HH10.out.below hb
    have HQ11 : Hid (CIn w11 (some ⟨w10.heap.size, 0, none⟩) cs) := ho.cin
    clear ho hb
    go_wp2_with fail
    refine (HIM.out _ w11 HA11.out HQ11.out).mono ?_
    rintro e w12 ⟨p12, n12, c12, rfl, ho, hb⟩
    have HA12 : Hid (Below w.heap.size w w12) := Below.on HA11.out hb
    have HB12 : Hid (Below w2.heap.size w2 w12) := Below.on HB11.out hb
    have HR12 : Hid (w3.heap.size ≤ w12.heap.size) := Nat.le_trans HR11.out hb.size
    have HH12 : Hid (CIn w12 p4 (markC 1 zs)) := HH11.out.below hb
    have HG12 : Hid (CIn w12 p12 zs ∧ n12 = zs.length) := ⟨ho.cin, ho.1⟩
    clear ho hb HQ11
    go_wp2_with fail
    rw [HG12.out.2, HN4.out]
    refine (eqCellS_any p12 p2 c12 c2 zs zs w12 (by have := HZL.out; omega) (by have := HZL.out; omega) HG12.out.1 (HZ2.out.1.below HB12.out)).mono ?_
    rintro e w13 ⟨rfl, hb⟩
    have HA13 : Hid (Below w.heap.size w w13) := Below.on HA12.out hb
    have HB13 : Hid (Below w2.heap.size w2 w13) := Below.on HB12.out hb
    have HR13 : Hid (w3.heap.size ≤ w13.heap.size) := Nat.le_trans HR12.out hb.size
    have HH13 : Hid (CIn w13 p4 (markC 1 zs)) := HH12.out.below hb
    have ht : decide (zs = zs) = true := by simp
    rw [ht]
    clear ht hb
    go_wp2_with fail
    refine (heldCells_any p4 zs.length c4 1 zs w13 (by decide) (by decide) (by have := HZL.out; omega) rfl HH13.out).mono ?_
    rintro e wh ⟨rfl, hwh⟩
    rw [hwh, ← HMM.out]
    clear hwh
    go_wp2_with fail
    go_ret
    exact ⟨rfl, HA13.out⟩
  · have er : szR 1048576 (cs.length + tl cs) = -1 := by rw [szR, if_neg hm]
    rw [er] at HS
    clear er HBY HE
    go_enter Tryd.func3, Tryd.ntmps3
    go_wp2_with fail
    refine HS.mono ?_
    rintro e w0 ⟨rfl, hb0⟩
    go_wp2_with fail
    go_ret
    exact ⟨rfl, hb0⟩

end Go.Proofs.YtemohfhblpejmaaDoor

