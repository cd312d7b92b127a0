/- Texts of GrT, GrZ7, LawGr. Own work of the verifier. -/
import Derived.Test.YtbnmmcegjlmdmaaGreatDoorUqbc
import Derived.Test.YtbnmmcegjlmdmaaGreatDoorUqbl
import Derived.Test.YtbnmmcegjlmdmaaGreatDoorUqab
import Derived.Test.YtbnmmcegjlmdmaaGreatDoorUqaq
import Derived.Test.YtbnmmcegjlmdmaaGreatDoorUqar
namespace Go.Proofs.YtbnmmcegjlmdmaaGreatDoor
open Go Go.RowKit
set_option linter.unusedVariables false
set_option linter.unusedSimpArgs false
theorem maxV_ge : ∀ (cs : List Cel) (m : Int), m ≤ maxV m cs ∧ ∀ c ∈ cs, c.1 = 0 → c.2.1 ≤ maxV m cs
  | [], m => ⟨Int.le_refl _, fun c hc => by cases hc⟩
  | c :: r, m => by
    have h := maxV_ge r (if c.1 = 0 ∧ m < c.2.1 then c.2.1 else m)
    have h1 : m ≤ (if c.1 = 0 ∧ m < c.2.1 then c.2.1 else m) := by split <;> omega
    refine ⟨Int.le_trans h1 h.1, fun d hd h0 => ?_⟩
    rcases List.mem_cons.1 hd with rfl | hd
    · refine Int.le_trans ?_ h.1
      split
      · exact Int.le_refl _
      · rename_i h2; omega
    · exact h.2 d hd h0
theorem maxV_at : ∀ (cs : List Cel) (m : Int), maxV m cs = m ∨ ∃ c ∈ cs, c.1 = 0 ∧ maxV m cs = c.2.1
  | [], m => .inl rfl
  | c :: r, m => by
    rcases maxV_at r (if c.1 = 0 ∧ m < c.2.1 then c.2.1 else m) with h | ⟨d, hd, h0, h⟩
    · by_cases h2 : c.1 = 0 ∧ m < c.2.1
      · right; refine ⟨c, by simp, h2.1, ?_⟩; show maxV _ r = _; rw [h, if_pos h2]
      · left; show maxV _ r = _; rw [h, if_neg h2]
    · right; exact ⟨d, by simp [hd], h0, h⟩
theorem nxV_le {ts : List Tr} {N : Int} (h0 : 0 ≤ N) (h : ∀ n, (∃ x ∈ ts, HasV n (itC x)) → n < N) : nxV ts ≤ N := by
  unfold nxV
  rcases mxL_at (visits [] (itC (cmpT [] ts))) 0 with e | ⟨x, hx, e⟩
  · rw [e]; exact h0
  · rw [e]
    have hx' : HasV x (itC (cmpT [] ts)) := by
      rcases (mem_visitsG _ _ _).1 hx with h | ⟨c, hc, h1, h2⟩
      · cases h
      · exact ⟨c, hc, h1, h2⟩
    have := h x (hasV_cmp.1 hx')
    omega
theorem nxV_gt {ts : List Tr} {n : Int} (h : ∃ x ∈ ts, HasV n (itC x)) : n < nxV ts := by
  unfold nxV
  refine (mxL_ge _ 0).2 n ((mem_visitsG _ _ _).2 (.inr ?_))
  obtain ⟨c, hc, h1, h2⟩ := hasV_cmp.2 h
  exact ⟨c, hc, h1, h2⟩
theorem nxV_pos (ts : List Tr) : 0 ≤ nxV ts := (mxL_ge _ 0).1
theorem hasV_arrow {t : Tr} (ht : t.fo.ok) (ha : t.1 = cArrow) (n : Int) : HasV n (itC t) ↔ ∃ x ∈ [kidG t 0, kidG t 1], HasV n (itC x) := by
  have hc : t.2.count = 2 := count_of ht (n := 2) ha
  have e : itC t = t.1 :: ([kidG t 0, kidG t 1].flatMap itC) := by
    have := kids_cells t
    rw [two_kid hc] at this
    show t.1 :: t.2.cells = _
    rw [this]
  rw [e, hasV_cons (by rw [ha]; decide)]
  simp only [List.flatMap_cons, List.flatMap_nil, List.append_nil, hasV_app, List.mem_cons, List.not_mem_nil, or_false]
  constructor
  · rintro (h | h)
    · exact ⟨_, .inl rfl, h⟩
    · exact ⟨_, .inr rfl, h⟩
  · rintro ⟨x, rfl | rfl, h⟩
    · exact .inl h
    · exact .inr h
theorem nx_eq {t : Tr} (ht : t.fo.ok) (ha : t.1 = cArrow) : nxV [kidG t 0, kidG t 1] = maxV (-1) (itC t) + 1 := by
  have hm := maxV_ge (itC t) (-1)
  have h1 : nxV [kidG t 0, kidG t 1] ≤ maxV (-1) (itC t) + 1 := nxV_le (by have := hm.1; omega) (fun n hn => by
    obtain ⟨c, hc, h0, h2⟩ := (hasV_arrow ht ha n).2 hn
    have := hm.2 c hc h0
    omega)
  have h2 : maxV (-1) (itC t) + 1 ≤ nxV [kidG t 0, kidG t 1] := by
    rcases maxV_at (itC t) (-1) with e | ⟨c, hc, h0, e⟩
    · rw [e]; exact nxV_pos _
    · have := nxV_gt ((hasV_arrow ht ha c.2.1).1 ⟨c, hc, h0, rfl⟩)
      omega
  omega
theorem has_lt {t : Tr} (ht : t.fo.ok) (ha : t.1 = cArrow) (n : Int) (h : HasV n (itC (kidG t 0)) ∨ HasV n (itC (kidG t 1))) : n < maxV (-1) (itC t) + 1 := by
  rw [← nx_eq ht ha]
  rcases h with h | h
  · exact nxV_gt ⟨_, by simp, h⟩
  · exact nxV_gt ⟨_, by simp, h⟩
theorem nx_clause {t : Tr} (ht : t.fo.ok) (hl : (itC t).length ≤ 2000) (ha : t.1 = cArrow) {x : Tr × GSt} (hx : x = gCl failT (kidG t 0) (kidG t 1) (nxV [kidG t 0, kidG t 1])) (hz : x.2.2 = 0) : nxV [x.1] = x.2.1 := by
  have hgi := (gin_of ht hl ha).1
  rw [nx_eq ht ha] at hx
  subst hx
  have h := gCl_var failT_ok hgi (has_lt ht ha) hz
  have hup := (gCl_ok failT_ok hgi).up
  have h0 := hgi.nx0
  have h1 : nxV [(gCl failT (kidG t 0) (kidG t 1) (maxV (-1) (itC t) + 1)).1] ≤ (gCl failT (kidG t 0) (kidG t 1) (maxV (-1) (itC t) + 1)).2.1 := nxV_le (by omega) (fun n hn => by
    obtain ⟨y, hy, hn⟩ := hn
    rw [List.mem_singleton.1 hy] at hn
    exact h.2 n hn)
  have h2 := nxV_gt (ts := [(gCl failT (kidG t 0) (kidG t 1) (maxV (-1) (itC t) + 1)).1]) ⟨_, by simp, h.1⟩
  omega
theorem trans_eq {t : Tr} (ht : t.fo.ok) (hl : (itC t).length ≤ 2000) (ha : t.1 = cArrow) : transT t = gAns (gCl failT (kidG t 0) (kidG t 1) (nxV [kidG t 0, kidG t 1])) := by
  unfold transT
  rw [if_pos ha, nx_eq ht ha]
  exact gAns_J nilT failT (gin_of ht hl ha).1
end Go.Proofs.YtbnmmcegjlmdmaaGreatDoor

namespace Go.Proofs.YtbnmmcegjlmdmaaGreatDoor
open Go Go.RowKit Go.Maps Go.Shelf
set_option linter.unusedVariables false
set_option linter.unusedSimpArgs false
theorem fun_arrow {w0 : World} {Bt : Nat} {t : Tr} {v : Value} (ht : t.fo.ok) (hf : FoIn w0 Bt t.fo [v]) : ∃ (S : ByteArray) (n : Nat) (ok : Bool), (∀ W, Below w0.heap.size w0 W → Calls Tryz.prog 24 #[v] W fun e w' => e = .returned (.tuple #[.agg #[.string S, .int .i64 n], .bool ok]) ∧ Below W.heap.size W w') ∧ (t.1 = cArrow ↔ S.toList = [45, 45, 62] ∧ n = 2) := by
  have hc := ht.1
  simp only [cellB, decide_eq_true_eq] at hc
  by_cases hk : t.1.1 = 2 ∨ t.1.1 = 3
  · obtain ⟨pa, ca, us, hul, hca, hFO, _⟩ := call_parts ht hk hf
    refine ⟨_, _, _, hFO, ?_⟩
    have h1 := key_iff ht hk [45, 45, 62] 2 (byte_small (by decide))
    rw [ByteArray.toList_eq]
    constructor
    · intro e
      have := Prod.mk.inj (h1.2 e)
      exact ⟨by rw [this.1]; rfl, by have := this.2; omega⟩
    · rintro ⟨e1, e2⟩
      exact h1.1 (Prod.ext (bytesG_inj (e1.trans rfl)) (by show (((trs t.2).length : Nat) : Int) = ((2 : Nat) : Int); rw [e2]))
  · have hno : (⟨#[]⟩ : ByteArray).toList ≠ [45, 45, 62] := by rw [ByteArray.toList_eq]; decide
    have hcm : t.1 ≠ cArrow := fun e => hk (.inr (by rw [e]))
    obtain ⟨v', vr, e, hn, _⟩ := hf
    obtain ⟨rfl, _⟩ := List.cons.inj e
    rcases hn with ⟨k, rfl⟩ | ⟨k, rfl⟩ | ⟨k, _⟩ | ⟨k, _⟩
    · exact ⟨⟨#[]⟩, 0, false, fun W _ => nbFO_var _ W, ⟨fun e => absurd e hcm, fun e => absurd e.1 hno⟩⟩
    · exact ⟨⟨#[]⟩, 0, false, fun W _ => nbFO_num _ W, ⟨fun e => absurd e hcm, fun e => absurd e.1 hno⟩⟩
    · omega
    · omega
theorem ans_code {x : Tr × GSt} {nv : Int} (hnv : x.2.2 = 0 → nv = x.2.1) : (x.2.2 ≠ 0 → gAns x = ([], x.2.2)) ∧ (x.2.2 = 0 → 1000000 < nv - 1 → gAns x = ([], 3)) ∧ (x.2.2 = 0 → ¬ 1000000 < nv - 1 → (itC x.1).length ≤ 2000 → gAns x = (itC x.1, 0)) ∧ (x.2.2 = 0 → ¬ (itC x.1).length ≤ 2000 → gAns x = ([], 3)) := by
  refine ⟨fun h => ?_, fun h h2 => ?_, fun h h2 h3 => ?_, fun h h2 => ?_⟩
  · unfold gAns; rw [if_pos h]
  · have := hnv h; unfold gAns; rw [if_neg (by omega), if_pos (.inr (by omega))]
  · have := hnv h; unfold gAns; rw [if_neg (by omega), if_neg (by omega)]
  · unfold gAns; rw [if_neg (by omega), if_pos (.inl (by omega))]
set_option maxRecDepth 100000 in
set_option maxHeartbeats 4000000 in
theorem implTr_any (cs : List Cel) (p : Option Addr) (n cap : Nat) (a a2 : Addr) (w : World) (hn : n = cs.length) (hc : n ≤ cap) (hm : cap ≤ 1000000000) (hcb : ∀ i, i < cs.length → Byte (cs.getD i Cel.none).2.2) (hin : CIn w p cs) (he : ErrAt w a a2) (r : List Cel × Int) (hr : transR cs r) :
    Calls Tryz.prog 7 #[.slice p n cap] w (NbRes w r) := by
  have HV : Calls Tryz.prog 22 #[.slice p n cap] w fun e w' => e = .returned (.bool (validB cs)) ∧ Below w.heap.size w w' := by rw [hn]; exact implValid_any p cap cs w (by omega) hin
  unfold transR at hr
  cases hv : validB cs with
  | false =>
    rw [hv] at HV hr
    rw [if_neg (by decide)] at hr
    subst hr
    clear hin he hcb hn hc hm hv
    go_enter Tryz.func7, Tryz.ntmps7
    go_wp2_with fail
    refine HV.mono ?_
    rintro e w1 ⟨rfl, hb⟩
    have HF : Hid (NbRes w ([], 1) (.returned (.tuple #[.slice none 0 0, .int .i64 1])) w1) := ⟨none, 0, 0, rfl, OwnC.nil _ _, hb⟩
    clear hb HV
    go_wp2_with fail
    go_ret2
    exact HF.out
  | true =>
    rw [hv] at HV hr
    rw [if_pos rfl] at hr
    obtain ⟨t, ec, ht, hl, hre⟩ := hr
    have HT : Hid (∀ W, Below w.heap.size w W → Calls Tryz.prog 23 #[.slice p n cap] W fun e w' => ∃ v, e = .returned v ∧ FoIn w' W.heap.size t.fo [v] ∧ Below W.heap.size W w') := fun W hW => termOf_any t.1 t.2 p n cap W ht (by rw [hn, ec]; simp [itC]) hc (by omega) (by have := hin.below hW; rwa [ec] at this)
    have HE : Hid (ErrAt w a a2) := he
    have hlt : (itC t).length ≤ 2000 := by rw [ec] at hl; exact hl
    clear hin hcb hn hc hm hv ec hl he
    go_enter Tryz.func7, Tryz.ntmps7
    go_wp2_with fail
    refine HV.mono ?_
    rintro e w1 ⟨rfl, hb⟩
    have HB1 : Hid (Below w.heap.size w w1) := hb
    have HT1 := HT.out w1 hb
    clear hb HV HT
    go_wp2_with fail
    refine HT1.mono ?_
    rintro e w2 ⟨v2, rfl, hf2, hb2⟩
    obtain ⟨t2, x2, rfl⟩ := FoIn.iface hf2
    have HB2 : Hid (Below w.heap.size w w2) := Below.on HB1.out hb2
    obtain ⟨S, m, ok, hFO, hiff⟩ := fun_arrow ht hf2
    have HFO := hFO w2 (Below.refl _ _)
    clear hb2 HT1 hFO
    by_cases ha : t.1 = cArrow
    · obtain ⟨hS, hm2⟩ := hiff.1 ha
      subst hm2
      have hk : t.1.1 = 2 ∨ t.1.1 = 3 := by rw [ha]; decide
      obtain ⟨pa, ca, us, hul, hca, _, hAR, hpa, hpz, hfk⟩ := call_parts ht hk hf2
      have hcnt : t.2.count = 2 := count_of ht (n := 2) ha
      have hlen : (trs t.2).length = 2 := by rw [trs_len, hcnt]
      obtain ⟨g, rfl, hgc⟩ := hpa (by rw [hlen]; decide)
      obtain rfl : ca = 2 := hca.trans hlen
      rw [hlen] at hAR
      have f0 := kid_at hfk 0 (by rw [hlen]; decide)
      obtain ⟨y3, u3, ey3⟩ := FoIn.iface f0
      rw [ey3] at f0
      have g0 := hgc 0 (by rw [hlen]; decide)
      rw [ey3] at g0
      have f1 := kid_at hfk 1 (by rw [hlen]; decide)
      obtain ⟨y4, u4, ey4⟩ := FoIn.iface f1
      rw [ey4] at f1
      have g1 := hgc 1 (by rw [hlen]; decide)
      rw [ey4] at g1
      have hgi : GIn (kidG t 0) (kidG t 1) (nxV [kidG t 0, kidG t 1]) := by rw [nx_eq ht ha]; exact (gin_of ht hlt ha).1
      have hcl := gCl_ok failT_ok hgi
      obtain ⟨x, ex⟩ : ∃ x, x = gCl failT (kidG t 0) (kidG t 1) (nxV [kidG t 0, kidG t 1]) := ⟨_, rfl⟩
      have hans := ans_code (x := x) (nv := nxV [x.1]) (fun hz => nx_clause ht hlt ha ex hz)
      have hre2 : r = gAns x := by rw [hre, trans_eq ht hlt ha, ex]
      have hok : okG x.1.fo := by rw [ex]; exact hcl.ok
      have hlc : x.1.2.cells.length ≤ 10000 := by have := hcl.len; rw [← ex] at this; simp only [itC, List.length_cons] at this; omega
      have HTR : Hid (∀ W, Below w2.heap.size w2 W → Calls Tryz.prog 27 #[.iface y3 u3, .iface y4 u4] W (TlOut W a a2 x)) := fun W hW => by
        rw [ex]
        exact translated_any (kidG t 0) (kidG t 1) y3 y4 u3 u4 w1.heap.size a a2 W (FoIn.imp2 (Nat.le_refl _) (fun q v hq => (hW.cell (World.block_lt_of_cell? _ _ hq)).trans hq) hW.size _ _ f0) (FoIn.imp2 (Nat.le_refl _) (fun q v hq => (hW.cell (World.block_lt_of_cell? _ _ hq)).trans hq) hW.size _ _ f1) hgi (HE.out.below (Below.on HB2.out hW))
      have HAR : Hid (∀ W, Below w2.heap.size w2 W → Calls Tryz.prog 25 #[.iface t2 x2] W fun e w' => e = .returned (.slice (some ⟨g, 0, none⟩) 2 2) ∧ w' = W) := fun W hW => hAR W hW
      have HKC : Hid (∀ W, Below w2.heap.size w2 W → W.cell? ⟨g, 0, none⟩ = some (.iface y3 u3) ∧ W.cell? ⟨g, 1, none⟩ = some (.iface y4 u4)) := fun W hW => ⟨(hW.cell (World.block_lt_of_cell? _ _ g0)).trans g0, (hW.cell (World.block_lt_of_cell? _ _ g1)).trans g1⟩
      have HAN : Hid ((x.2.2 ≠ 0 → gAns x = ([], x.2.2)) ∧ (x.2.2 = 0 → 1000000 < nxV [x.1] - 1 → gAns x = ([], 3)) ∧ (x.2.2 = 0 → ¬ 1000000 < nxV [x.1] - 1 → (itC x.1).length ≤ 2000 → gAns x = (itC x.1, 0)) ∧ (x.2.2 = 0 → ¬ (itC x.1).length ≤ 2000 → gAns x = ([], 3))) := hans
      have HRE : Hid (r = gAns x) := hre2
      have HOK : Hid (okG x.1.fo ∧ x.1.2.cells.length ≤ 10000) := ⟨hok, hlc⟩
      clear ht hlt hre hiff ha hk hul hca hAR hpz hfk hcnt hlen hgc f0 f1 g0 g1 ey3 ey4 hgi hcl ex hans hre2 hok hlc hf2
      go_wp2_with fail
      refine HFO.mono ?_
      rintro e w3 ⟨rfl, hb3⟩
      obtain ⟨W3, eW⟩ : ∃ W3, W3 = w3.alloc (.cells #[.string S, .int .i64 2] 52) := ⟨_, rfl⟩
      obtain ⟨Wd, eD⟩ : ∃ Wd, Wd = W3.drew := ⟨_, rfl⟩
      have hb3W : Below w2.heap.size w2 W3 := by rw [eW]; exact Below.on hb3 (below_new _ _)
      have hbd : Below w2.heap.size w2 Wd := by rw [eD]; exact hb3W.drew
      have HA := HAR.out W3 hb3W
      rw [eW] at HA
      have HW3 : Hid (W3 = w3.alloc (.cells #[.string S, .int .i64 2] 52)) := eW
      have HDe : Hid (W3.drew = Wd) := eD.symm
      have HC := HTR.out Wd hbd
      have hSd := HKC.out Wd hbd
      have HBd : Hid (Below w2.heap.size w2 Wd) := hbd
      clear hb3 hb3W hbd eW eD HFO HAR HTR
      go_wp2_with fail
      refine HA.mono ?_
      rintro e w4 ⟨rfl, hw4⟩
      rw [hw4]
      clear hw4 w4 HA
      go_wp2_with fail
      rw [← HW3.out]
      refine wp_region_held_drew (S := fun X => X.cell? ⟨g, 0, none⟩ = some (.iface y3 u3) ∧ X.cell? ⟨g, 1, none⟩ = some (.iface y4 u4)) (by kernel_rfl) ?_ (fun hHeld => ?_)
      · rw [HDe.out]; exact hSd
      rw [HDe.out]
      refine hTake (i := 0) (v := .slice (some ⟨g, 0, none⟩) 2 2) (some 23) (by kernel_rfl) (by kernel_rfl) (by kernel_rfl) (by kernel_rfl) (by kernel_rfl) (fun _ _ _ h => h) (fun o ho W hSw => ?y0) (by assumption) ?_
      case y0 =>
        cases ho
        simp [execOp, go_sem, Act.eval]
      simp only [Act.put, List.setIfInBounds_toArray, List.set_cons_zero, List.set_cons_succ]
      refine hTake (i := 1) (v := .pointer (some ⟨g, 0, none⟩)) (some 24) (by kernel_rfl) (by kernel_rfl) (by kernel_rfl) (by kernel_rfl) (by kernel_rfl) (fun _ _ _ h => h) (fun o ho W hSw => ?y1) (by assumption) ?_
      case y1 =>
        cases ho
        simp [execOp, go_sem, Act.eval]
      simp only [Act.put, List.setIfInBounds_toArray, List.set_cons_zero, List.set_cons_succ]
      refine hTake (i := 2) (v := .iface y3 u3) (some 25) (by kernel_rfl) (by kernel_rfl) (by kernel_rfl) (by kernel_rfl) (by kernel_rfl) (fun _ _ _ h => h) (fun o ho W hSw => ?y2) (by assumption) ?_
      case y2 =>
        cases ho
        obtain ⟨kk0, kk1⟩ := hSw
        simp [execOp, go_sem, Act.eval, kk0]
      simp only [Act.put, List.setIfInBounds_toArray, List.set_cons_zero, List.set_cons_succ]
      refine hTake (i := 3) (v := .slice (some ⟨g, 0, none⟩) 2 2) (some 26) (by kernel_rfl) (by kernel_rfl) (by kernel_rfl) (by kernel_rfl) (by kernel_rfl) (fun _ _ _ h => h) (fun o ho W hSw => ?y3) (by assumption) ?_
      case y3 =>
        cases ho
        simp [execOp, go_sem, Act.eval]
      simp only [Act.put, List.setIfInBounds_toArray, List.set_cons_zero, List.set_cons_succ]
      refine hTake (i := 4) (v := .pointer (some ⟨g, 1, none⟩)) (some 27) (by kernel_rfl) (by kernel_rfl) (by kernel_rfl) (by kernel_rfl) (by kernel_rfl) (fun _ _ _ h => h) (fun o ho W hSw => ?y4) (by assumption) ?_
      case y4 =>
        cases ho
        simp [execOp, go_sem, Act.eval]
      simp only [Act.put, List.setIfInBounds_toArray, List.set_cons_zero, List.set_cons_succ]
      refine hTake (i := 5) (v := .iface y4 u4) (some 28) (by kernel_rfl) (by kernel_rfl) (by kernel_rfl) (by kernel_rfl) (by kernel_rfl) (fun _ _ _ h => h) (fun o ho W hSw => ?y5) (by assumption) ?_
      case y5 =>
        cases ho
        obtain ⟨kk0, kk1⟩ := hSw
        simp [execOp, go_sem, Act.eval, kk1]
      simp only [Act.put, List.setIfInBounds_toArray, List.set_cons_zero, List.set_cons_succ]
      refine hCallE (i := 6) (f := 27) (args := #[.iface y3 u3, .iface y4 u4]) (some 29) (by kernel_rfl) (by kernel_rfl) (by kernel_rfl) (fun o ho => ?c9) HC ?k9 (fun ch w' hh => by obtain ⟨_, ⟨_, _, _, h⟩ | ⟨_, _, h⟩ | ⟨_, _, _, h, _⟩⟩ := hh <;> cases h) (fun w' hh => by obtain ⟨_, ⟨_, _, _, h⟩ | ⟨_, _, h⟩ | ⟨_, _, _, h, _⟩⟩ := hh <;> cases h)
      case c9 =>
        cases ho
        simp [execOp, go_sem, Act.eval]
      case k9 =>
        rintro q w5 ⟨hb5, h5⟩
        have hb25 : Below w2.heap.size w2 w5 := Below.on HBd.out hb5
        have hS5 := HKC.out w5 hb25
        have HB5 : Hid (Below w.heap.size w w5) := Below.on HB2.out hb25
        have HK5 : Hid (∀ W, Below w5.heap.size w5 W → W.cell? ⟨g, 0, none⟩ = some (.iface y3 u3) ∧ W.cell? ⟨g, 1, none⟩ = some (.iface y4 u4)) := fun W hW => HKC.out W (Below.on hb25 hW)
        have HE5 : Hid (ErrAt w5 a a2) := HE.out.below HB5.out
        clear hb5 hb25 HC
        refine ⟨hS5, ?_⟩
        simp only [Act.put, List.setIfInBounds_toArray, List.set_cons_zero, List.set_cons_succ]
        rcases h5 with ⟨hz, t5, u5, hq⟩ | ⟨hz, hv, hq⟩ | ⟨hz, hv, v5, hq, hf5⟩
        · rcases hz with hz | hz
          · obtain rfl := Ending.returned.inj hq
            have HRR : Hid (r = ([], 3)) := by show _ = _; rw [HRE.out, HAN.out.1 (by omega), hz]
            rw [show fltV a a2 x.2.2 = efV a2 from by rw [hz]; rfl]
            have HA := answered_err a a2 (efV a2) (.iface t5 u5) w5 HE5.out false rfl (.inr ⟨t5, u5, rfl⟩)
            clear hz hq
            refine hTake (i := 7) (v := .iface t5 u5) (some 30) (by kernel_rfl) (by kernel_rfl) (by kernel_rfl) (by kernel_rfl) (by kernel_rfl) (fun _ _ _ h => h) (fun o ho W hSw => ?y110) (by assumption) ?_
            case y110 =>
              cases ho
              simp [execOp, go_sem, Act.eval]
            simp only [Act.put, List.setIfInBounds_toArray, List.set_cons_zero, List.set_cons_succ]
            refine hTake (i := 8) (v := efV a2) (some 31) (by kernel_rfl) (by kernel_rfl) (by kernel_rfl) (by kernel_rfl) (by kernel_rfl) (fun _ _ _ h => h) (fun o ho W hSw => ?y111) (by assumption) ?_
            case y111 =>
              cases ho
              simp [execOp, go_sem, Act.eval]
            simp only [Act.put, List.setIfInBounds_toArray, List.set_cons_zero, List.set_cons_succ]
            refine hCallE (i := 9) (f := 26) (args := #[.iface t5 u5, efV a2]) (some 32) (by kernel_rfl) (by kernel_rfl) (by kernel_rfl) (fun o ho => ?c112) HA ?k112 (fun ch w' hh => by cases hh.1) (fun w' hh => by cases hh.1)
            case c112 =>
              cases ho
              simp [execOp, go_sem, Act.eval]
            case k112 =>
              rintro q6 w6 ⟨hz, hw6⟩
              obtain rfl := Ending.returned.inj hz
              rw [hw6]
              clear hz hw6 w6 HA
              refine ⟨hS5, ?_⟩
              simp only [Act.put, List.setIfInBounds_toArray, List.set_cons_zero, List.set_cons_succ]
              refine hTake (i := 10) (v := .slice none 0 0) (some 33) (by kernel_rfl) (by kernel_rfl) (by kernel_rfl) (by kernel_rfl) (by kernel_rfl) (fun _ _ _ h => h) (fun o ho W hSw => ?y113) (by assumption) ?_
              case y113 =>
                cases ho
                simp [execOp, go_sem, Act.eval]
              simp only [Act.put, List.setIfInBounds_toArray, List.set_cons_zero, List.set_cons_succ]
              refine hTake (i := 11) (v := .int .i64 3) (some 34) (by kernel_rfl) (by kernel_rfl) (by kernel_rfl) (by kernel_rfl) (by kernel_rfl) (fun _ _ _ h => h) (fun o ho W hSw => ?y114) (by assumption) ?_
              case y114 =>
                cases ho
                simp [execOp, go_sem, Act.eval]
              simp only [Act.put, List.setIfInBounds_toArray, List.set_cons_zero, List.set_cons_succ]
              refine hTake (i := 12) (v := .slice none 0 0) (some 2) (by kernel_rfl) (by kernel_rfl) (by kernel_rfl) (by kernel_rfl) (by kernel_rfl) (fun _ _ _ h => h) (fun o ho W hSw => ?y115) (by assumption) ?_
              case y115 =>
                cases ho
                simp [execOp, go_sem, Act.eval]
              simp only [Act.put, List.setIfInBounds_toArray, List.set_cons_zero, List.set_cons_succ]
              refine hTake (i := 13) (v := .int .i64 3) (some 3) (by kernel_rfl) (by kernel_rfl) (by kernel_rfl) (by kernel_rfl) (by kernel_rfl) (fun _ _ _ h => h) (fun o ho W hSw => ?y116) (by assumption) ?_
              case y116 =>
                cases ho
                simp [execOp, go_sem, Act.eval]
              simp only [Act.put, List.setIfInBounds_toArray, List.set_cons_zero, List.set_cons_succ]
              refine wpAnyH_done (by kernel_rfl) ?_ _
              change Exit.then _ _ _ _ w5
              have HF : Hid (NbRes w ([], 3) (.returned (.tuple #[.slice none 0 0, .int .i64 3])) w5) := ⟨none, 0, 0, rfl, OwnC.nil _ _, HB5.out⟩
              go_wp2_with fail
              go_ret2
              rw [HRR.out]
              exact HF.out
          · obtain rfl := Ending.returned.inj hq
            have HRR : Hid (r = ([], 4)) := by show _ = _; rw [HRE.out, HAN.out.1 (by omega), hz]
            rw [show fltV a a2 x.2.2 = efV a from by rw [hz]; rfl]
            have HA := answered_err a a2 (efV a) (.iface t5 u5) w5 HE5.out true rfl (.inr ⟨t5, u5, rfl⟩)
            clear hz hq
            refine hTake (i := 7) (v := .iface t5 u5) (some 30) (by kernel_rfl) (by kernel_rfl) (by kernel_rfl) (by kernel_rfl) (by kernel_rfl) (fun _ _ _ h => h) (fun o ho W hSw => ?y130) (by assumption) ?_
            case y130 =>
              cases ho
              simp [execOp, go_sem, Act.eval]
            simp only [Act.put, List.setIfInBounds_toArray, List.set_cons_zero, List.set_cons_succ]
            refine hTake (i := 8) (v := efV a) (some 31) (by kernel_rfl) (by kernel_rfl) (by kernel_rfl) (by kernel_rfl) (by kernel_rfl) (fun _ _ _ h => h) (fun o ho W hSw => ?y131) (by assumption) ?_
            case y131 =>
              cases ho
              simp [execOp, go_sem, Act.eval]
            simp only [Act.put, List.setIfInBounds_toArray, List.set_cons_zero, List.set_cons_succ]
            refine hCallE (i := 9) (f := 26) (args := #[.iface t5 u5, efV a]) (some 32) (by kernel_rfl) (by kernel_rfl) (by kernel_rfl) (fun o ho => ?c132) HA ?k132 (fun ch w' hh => by cases hh.1) (fun w' hh => by cases hh.1)
            case c132 =>
              cases ho
              simp [execOp, go_sem, Act.eval]
            case k132 =>
              rintro q6 w6 ⟨hz, hw6⟩
              obtain rfl := Ending.returned.inj hz
              rw [hw6]
              clear hz hw6 w6 HA
              refine ⟨hS5, ?_⟩
              simp only [Act.put, List.setIfInBounds_toArray, List.set_cons_zero, List.set_cons_succ]
              refine hTake (i := 10) (v := .slice none 0 0) (some 33) (by kernel_rfl) (by kernel_rfl) (by kernel_rfl) (by kernel_rfl) (by kernel_rfl) (fun _ _ _ h => h) (fun o ho W hSw => ?y133) (by assumption) ?_
              case y133 =>
                cases ho
                simp [execOp, go_sem, Act.eval]
              simp only [Act.put, List.setIfInBounds_toArray, List.set_cons_zero, List.set_cons_succ]
              refine hTake (i := 11) (v := .int .i64 4) (some 34) (by kernel_rfl) (by kernel_rfl) (by kernel_rfl) (by kernel_rfl) (by kernel_rfl) (fun _ _ _ h => h) (fun o ho W hSw => ?y134) (by assumption) ?_
              case y134 =>
                cases ho
                simp [execOp, go_sem, Act.eval]
              simp only [Act.put, List.setIfInBounds_toArray, List.set_cons_zero, List.set_cons_succ]
              refine hTake (i := 12) (v := .slice none 0 0) (some 2) (by kernel_rfl) (by kernel_rfl) (by kernel_rfl) (by kernel_rfl) (by kernel_rfl) (fun _ _ _ h => h) (fun o ho W hSw => ?y135) (by assumption) ?_
              case y135 =>
                cases ho
                simp [execOp, go_sem, Act.eval]
              simp only [Act.put, List.setIfInBounds_toArray, List.set_cons_zero, List.set_cons_succ]
              refine hTake (i := 13) (v := .int .i64 4) (some 3) (by kernel_rfl) (by kernel_rfl) (by kernel_rfl) (by kernel_rfl) (by kernel_rfl) (fun _ _ _ h => h) (fun o ho W hSw => ?y136) (by assumption) ?_
              case y136 =>
                cases ho
                simp [execOp, go_sem, Act.eval]
              simp only [Act.put, List.setIfInBounds_toArray, List.set_cons_zero, List.set_cons_succ]
              refine wpAnyH_done (by kernel_rfl) ?_ _
              change Exit.then _ _ _ _ w5
              have HF : Hid (NbRes w ([], 4) (.returned (.tuple #[.slice none 0 0, .int .i64 4])) w5) := ⟨none, 0, 0, rfl, OwnC.nil _ _, HB5.out⟩
              go_wp2_with fail
              go_ret2
              rw [HRR.out]
              exact HF.out
        · obtain rfl := Ending.returned.inj hq
          have HRR : Hid (r = ([], 3)) := by show _ = _; rw [HRE.out, HAN.out.2.1 hz hv]
          have HA := answered_err a a2 (efV a2) .nilIface w5 HE5.out false rfl (.inl rfl)
          clear hz hv hq
          refine hTake (i := 7) (v := .nilIface) (some 30) (by kernel_rfl) (by kernel_rfl) (by kernel_rfl) (by kernel_rfl) (by kernel_rfl) (fun _ _ _ h => h) (fun o ho W hSw => ?y160) (by assumption) ?_
          case y160 =>
            cases ho
            simp [execOp, go_sem, Act.eval]
          simp only [Act.put, List.setIfInBounds_toArray, List.set_cons_zero, List.set_cons_succ]
          refine hTake (i := 8) (v := efV a2) (some 31) (by kernel_rfl) (by kernel_rfl) (by kernel_rfl) (by kernel_rfl) (by kernel_rfl) (fun _ _ _ h => h) (fun o ho W hSw => ?y161) (by assumption) ?_
          case y161 =>
            cases ho
            simp [execOp, go_sem, Act.eval]
          simp only [Act.put, List.setIfInBounds_toArray, List.set_cons_zero, List.set_cons_succ]
          refine hCallE (i := 9) (f := 26) (args := #[.nilIface, efV a2]) (some 32) (by kernel_rfl) (by kernel_rfl) (by kernel_rfl) (fun o ho => ?c162) HA ?k162 (fun ch w' hh => by cases hh.1) (fun w' hh => by cases hh.1)
          case c162 =>
            cases ho
            simp [execOp, go_sem, Act.eval]
          case k162 =>
            rintro q6 w6 ⟨hz, hw6⟩
            obtain rfl := Ending.returned.inj hz
            rw [hw6]
            clear hz hw6 w6 HA
            refine ⟨hS5, ?_⟩
            simp only [Act.put, List.setIfInBounds_toArray, List.set_cons_zero, List.set_cons_succ]
            refine hTake (i := 10) (v := .slice none 0 0) (some 33) (by kernel_rfl) (by kernel_rfl) (by kernel_rfl) (by kernel_rfl) (by kernel_rfl) (fun _ _ _ h => h) (fun o ho W hSw => ?y163) (by assumption) ?_
            case y163 =>
              cases ho
              simp [execOp, go_sem, Act.eval]
            simp only [Act.put, List.setIfInBounds_toArray, List.set_cons_zero, List.set_cons_succ]
            refine hTake (i := 11) (v := .int .i64 3) (some 34) (by kernel_rfl) (by kernel_rfl) (by kernel_rfl) (by kernel_rfl) (by kernel_rfl) (fun _ _ _ h => h) (fun o ho W hSw => ?y164) (by assumption) ?_
            case y164 =>
              cases ho
              simp [execOp, go_sem, Act.eval]
            simp only [Act.put, List.setIfInBounds_toArray, List.set_cons_zero, List.set_cons_succ]
            refine hTake (i := 12) (v := .slice none 0 0) (some 2) (by kernel_rfl) (by kernel_rfl) (by kernel_rfl) (by kernel_rfl) (by kernel_rfl) (fun _ _ _ h => h) (fun o ho W hSw => ?y165) (by assumption) ?_
            case y165 =>
              cases ho
              simp [execOp, go_sem, Act.eval]
            simp only [Act.put, List.setIfInBounds_toArray, List.set_cons_zero, List.set_cons_succ]
            refine hTake (i := 13) (v := .int .i64 3) (some 3) (by kernel_rfl) (by kernel_rfl) (by kernel_rfl) (by kernel_rfl) (by kernel_rfl) (fun _ _ _ h => h) (fun o ho W hSw => ?y166) (by assumption) ?_
            case y166 =>
              cases ho
              simp [execOp, go_sem, Act.eval]
            simp only [Act.put, List.setIfInBounds_toArray, List.set_cons_zero, List.set_cons_succ]
            refine wpAnyH_done (by kernel_rfl) ?_ _
            change Exit.then _ _ _ _ w5
            have HF : Hid (NbRes w ([], 3) (.returned (.tuple #[.slice none 0 0, .int .i64 3])) w5) := ⟨none, 0, 0, rfl, OwnC.nil _ _, HB5.out⟩
            go_wp2_with fail
            go_ret2
            rw [HRR.out]
            exact HF.out
        · obtain rfl := Ending.returned.inj hq
          obtain ⟨t5, u5, rfl⟩ := foC_if hf5
          by_cases hs : (itC x.1).length ≤ 2000
          · have HRR : Hid (r = (itC x.1, 0)) := by show _ = _; rw [HRE.out, HAN.out.2.2.1 hz (by omega) hs]
            rw [if_pos hs]
            have HA : Calls Tryz.prog 26 #[.iface t5 u5, .nilIface] w5 (NbRes w5 (itC x.1, 0)) := answeredC_tree x.1.1 x.1.2 _ w5 HOK.out.1 hf5 HOK.out.2
            clear hz hv hs hq hf5
            refine hTake (i := 7) (v := .iface t5 u5) (some 30) (by kernel_rfl) (by kernel_rfl) (by kernel_rfl) (by kernel_rfl) (by kernel_rfl) (fun _ _ _ h => h) (fun o ho W hSw => ?y210) (by assumption) ?_
            case y210 =>
              cases ho
              simp [execOp, go_sem, Act.eval]
            simp only [Act.put, List.setIfInBounds_toArray, List.set_cons_zero, List.set_cons_succ]
            refine hTake (i := 8) (v := .nilIface) (some 31) (by kernel_rfl) (by kernel_rfl) (by kernel_rfl) (by kernel_rfl) (by kernel_rfl) (fun _ _ _ h => h) (fun o ho W hSw => ?y211) (by assumption) ?_
            case y211 =>
              cases ho
              simp [execOp, go_sem, Act.eval]
            simp only [Act.put, List.setIfInBounds_toArray, List.set_cons_zero, List.set_cons_succ]
            refine hCallE (i := 9) (f := 26) (args := #[.iface t5 u5, .nilIface]) (some 32) (by kernel_rfl) (by kernel_rfl) (by kernel_rfl) (fun o ho => ?c212) HA ?k212 (fun ch w' hh => by obtain ⟨_, _, _, h, _⟩ := hh; cases h) (fun w' hh => by obtain ⟨_, _, _, h, _⟩ := hh; cases h)
            case c212 =>
              cases ho
              simp [execOp, go_sem, Act.eval]
            case k212 =>
              rintro q6 w6 h6
              obtain ⟨qq, mm, c2, hq, ho, hb6⟩ := h6
              obtain rfl := Ending.returned.inj hq
              have hS6 := HK5.out w6 hb6
              have HF : Hid (NbRes w (itC x.1, 0) (.returned (.tuple #[.slice qq mm c2, .int .i64 0])) w6) := NbRes.on ⟨qq, mm, c2, rfl, ho, hb6⟩ HB5.out
              clear hq ho hb6 HA
              refine ⟨hS6, ?_⟩
              simp only [Act.put, List.setIfInBounds_toArray, List.set_cons_zero, List.set_cons_succ]
              refine hTake (i := 10) (v := .slice qq mm c2) (some 33) (by kernel_rfl) (by kernel_rfl) (by kernel_rfl) (by kernel_rfl) (by kernel_rfl) (fun _ _ _ h => h) (fun o ho W hSw => ?y213) (by assumption) ?_
              case y213 =>
                cases ho
                simp [execOp, go_sem, Act.eval]
              simp only [Act.put, List.setIfInBounds_toArray, List.set_cons_zero, List.set_cons_succ]
              refine hTake (i := 11) (v := .int .i64 0) (some 34) (by kernel_rfl) (by kernel_rfl) (by kernel_rfl) (by kernel_rfl) (by kernel_rfl) (fun _ _ _ h => h) (fun o ho W hSw => ?y214) (by assumption) ?_
              case y214 =>
                cases ho
                simp [execOp, go_sem, Act.eval]
              simp only [Act.put, List.setIfInBounds_toArray, List.set_cons_zero, List.set_cons_succ]
              refine hTake (i := 12) (v := .slice qq mm c2) (some 2) (by kernel_rfl) (by kernel_rfl) (by kernel_rfl) (by kernel_rfl) (by kernel_rfl) (fun _ _ _ h => h) (fun o ho W hSw => ?y215) (by assumption) ?_
              case y215 =>
                cases ho
                simp [execOp, go_sem, Act.eval]
              simp only [Act.put, List.setIfInBounds_toArray, List.set_cons_zero, List.set_cons_succ]
              refine hTake (i := 13) (v := .int .i64 0) (some 3) (by kernel_rfl) (by kernel_rfl) (by kernel_rfl) (by kernel_rfl) (by kernel_rfl) (fun _ _ _ h => h) (fun o ho W hSw => ?y216) (by assumption) ?_
              case y216 =>
                cases ho
                simp [execOp, go_sem, Act.eval]
              simp only [Act.put, List.setIfInBounds_toArray, List.set_cons_zero, List.set_cons_succ]
              refine wpAnyH_done (by kernel_rfl) ?_ _
              change Exit.then _ _ _ _ w6
              go_wp2_with fail
              go_ret2
              rw [HRR.out]
              exact HF.out
          · have HRR : Hid (r = ([], 3)) := by show _ = _; rw [HRE.out, HAN.out.2.2.2 hz hs]
            rw [if_neg hs]
            have HA := answered_err a a2 (efV a2) (.iface t5 u5) w5 HE5.out false rfl (.inr ⟨t5, u5, rfl⟩)
            clear hz hv hs hq hf5
            refine hTake (i := 7) (v := .iface t5 u5) (some 30) (by kernel_rfl) (by kernel_rfl) (by kernel_rfl) (by kernel_rfl) (by kernel_rfl) (fun _ _ _ h => h) (fun o ho W hSw => ?y240) (by assumption) ?_
            case y240 =>
              cases ho
              simp [execOp, go_sem, Act.eval]
            simp only [Act.put, List.setIfInBounds_toArray, List.set_cons_zero, List.set_cons_succ]
            refine hTake (i := 8) (v := efV a2) (some 31) (by kernel_rfl) (by kernel_rfl) (by kernel_rfl) (by kernel_rfl) (by kernel_rfl) (fun _ _ _ h => h) (fun o ho W hSw => ?y241) (by assumption) ?_
            case y241 =>
              cases ho
              simp [execOp, go_sem, Act.eval]
            simp only [Act.put, List.setIfInBounds_toArray, List.set_cons_zero, List.set_cons_succ]
            refine hCallE (i := 9) (f := 26) (args := #[.iface t5 u5, efV a2]) (some 32) (by kernel_rfl) (by kernel_rfl) (by kernel_rfl) (fun o ho => ?c242) HA ?k242 (fun ch w' hh => by cases hh.1) (fun w' hh => by cases hh.1)
            case c242 =>
              cases ho
              simp [execOp, go_sem, Act.eval]
            case k242 =>
              rintro q6 w6 ⟨hz, hw6⟩
              obtain rfl := Ending.returned.inj hz
              rw [hw6]
              clear hz hw6 w6 HA
              refine ⟨hS5, ?_⟩
              simp only [Act.put, List.setIfInBounds_toArray, List.set_cons_zero, List.set_cons_succ]
              refine hTake (i := 10) (v := .slice none 0 0) (some 33) (by kernel_rfl) (by kernel_rfl) (by kernel_rfl) (by kernel_rfl) (by kernel_rfl) (fun _ _ _ h => h) (fun o ho W hSw => ?y243) (by assumption) ?_
              case y243 =>
                cases ho
                simp [execOp, go_sem, Act.eval]
              simp only [Act.put, List.setIfInBounds_toArray, List.set_cons_zero, List.set_cons_succ]
              refine hTake (i := 11) (v := .int .i64 3) (some 34) (by kernel_rfl) (by kernel_rfl) (by kernel_rfl) (by kernel_rfl) (by kernel_rfl) (fun _ _ _ h => h) (fun o ho W hSw => ?y244) (by assumption) ?_
              case y244 =>
                cases ho
                simp [execOp, go_sem, Act.eval]
              simp only [Act.put, List.setIfInBounds_toArray, List.set_cons_zero, List.set_cons_succ]
              refine hTake (i := 12) (v := .slice none 0 0) (some 2) (by kernel_rfl) (by kernel_rfl) (by kernel_rfl) (by kernel_rfl) (by kernel_rfl) (fun _ _ _ h => h) (fun o ho W hSw => ?y245) (by assumption) ?_
              case y245 =>
                cases ho
                simp [execOp, go_sem, Act.eval]
              simp only [Act.put, List.setIfInBounds_toArray, List.set_cons_zero, List.set_cons_succ]
              refine hTake (i := 13) (v := .int .i64 3) (some 3) (by kernel_rfl) (by kernel_rfl) (by kernel_rfl) (by kernel_rfl) (by kernel_rfl) (fun _ _ _ h => h) (fun o ho W hSw => ?y246) (by assumption) ?_
              case y246 =>
                cases ho
                simp [execOp, go_sem, Act.eval]
              simp only [Act.put, List.setIfInBounds_toArray, List.set_cons_zero, List.set_cons_succ]
              refine wpAnyH_done (by kernel_rfl) ?_ _
              change Exit.then _ _ _ _ w5
              have HF : Hid (NbRes w ([], 3) (.returned (.tuple #[.slice none 0 0, .int .i64 3])) w5) := ⟨none, 0, 0, rfl, OwnC.nil _ _, HB5.out⟩
              go_wp2_with fail
              go_ret2
              rw [HRR.out]
              exact HF.out
    · have hcmp : ¬ (S.toList = [45, 45, 62] ∧ (m : Int) = 2) := fun e => ha (hiff.2 ⟨e.1, by have := e.2; omega⟩)
      have HCM : Hid (¬ (S.toList = [45, 45, 62] ∧ (m : Int) = 2)) := hcmp
      have hr1 : r = ([], 1) := by rw [hre]; unfold transT; rw [if_neg ha]
      subst hr1
      clear hcmp ha hiff hre ht hlt hf2
      by_cases hS : S.toList = [45, 45, 62]
      · have hn2 : ¬ (m : Int) = 2 := fun e => HCM.out ⟨hS, e⟩
        go_wp2_with fail
        refine HFO.mono ?_
        rintro e w3 ⟨rfl, hb3⟩
        have HF : Hid (NbRes w ([], 1) (.returned (.tuple #[.slice none 0 0, .int .i64 1])) (w3.alloc (.cells #[.string S, .int .i64 m] 52))) := ⟨none, 0, 0, rfl, OwnC.nil _ _, Below.on HB2.out (Below.on hb3 (below_new _ _))⟩
        clear hb3 HFO
        go_wp2_with fail
        go_ret2
        exact HF.out
      · have hS2 : ¬ S.toList = [45, 45, 62] := hS
        go_wp2_with fail
        refine HFO.mono ?_
        rintro e w3 ⟨rfl, hb3⟩
        have HF : Hid (NbRes w ([], 1) (.returned (.tuple #[.slice none 0 0, .int .i64 1])) (w3.alloc (.cells #[.string S, .int .i64 m] 52))) := ⟨none, 0, 0, rfl, OwnC.nil _ _, Below.on HB2.out (Below.on hb3 (below_new _ _))⟩
        clear hb3 HFO
        go_wp2_with fail
        go_ret2
        exact HF.out
end Go.Proofs.YtbnmmcegjlmdmaaGreatDoor

namespace Go.Proofs.YtbnmmcegjlmdmaaGreatDoor
open Go Go.RowKit
set_option linter.unusedVariables false
theorem transT_size {t : Tr} (ht : t.fo.ok) (hl : (itC t).length ≤ 2000) : (transT t).1.length + tl (transT t).1 ≤ 300000 := by
  by_cases ha : t.1 = cArrow
  · have hgi := (gin_of ht hl ha).1
    have hok := (gCl_ok nilT_ok hgi).ok
    unfold transT
    rw [if_pos ha]
    unfold gAns
    split
    · simp [tl]
    · split
      · simp [tl]
      · rename_i h1 h2
        have := tr_size hok (N := 2000) (by omega)
        show (itC _).length + tl (itC _) ≤ 300000
        omega
  · unfold transT; rw [if_neg ha]; simp [tl]
theorem trans_both (cs : List Cel) (hby : ∀ i, i < cs.length → Byte (cs.getD i Cel.none).2.2) (hl : cs.length ≤ 1048576) : ∃ r : List Cel × Int, r.1.length + tl r.1 ≤ 300000 ∧
    (∀ (q : Option Addr) (w : World), CIn w q cs → Calls Tryz.prog 5 #[.slice q cs.length cs.length] w fun e w' => ∃ q m c2, e = .returned (.tuple #[.slice q m c2, .int .i64 r.2]) ∧ m = r.1.length ∧ CIn w' q r.1 ∧ Below w.heap.size w w') ∧
    (∀ (a a2 : Addr) (q : Option Addr) (w : World), CIn w q cs → ErrAt w a a2 → Calls Tryz.prog 7 #[.slice q cs.length cs.length] w fun e w' => ∃ q m c2, e = .returned (.tuple #[.slice q m c2, .int .i64 r.2]) ∧ OwnC w' w.heap.size q m c2 r.1 ∧ Below w.heap.size w w') := by
  obtain ⟨r, hr, hs⟩ : ∃ r, transR cs r ∧ r.1.length + tl r.1 ≤ 300000 := by
    cases hv : validB cs with
    | false => exact ⟨([], 1), by unfold transR; rw [hv]; simp, by simp [tl]⟩
    | true =>
      obtain ⟨c, k, ec, hok, hl⟩ := tree_of hby hv
      exact ⟨transT (c, k), by unfold transR; rw [hv, if_pos rfl]; exact ⟨(c, k), ec, hok, hl, rfl⟩, transT_size hok (by rw [ec] at hl; exact hl)⟩
  refine ⟨r, hs, fun q w hin => ?_, fun a a2 q w hin he => implTr_any cs q cs.length cs.length a a2 w rfl (Nat.le_refl _) (by omega) hby hin he r hr⟩
  refine (specTr_any cs q cs.length w (by omega) (Nat.le_refl _) (by omega) hin r hr).mono ?_
  rintro e w' ⟨q', m, c2, h1, h2, h3⟩
  exact ⟨q', m, c2, h1, h2.1, h2.cin, h3⟩
theorem endC_pos6 {k : Int} (h : 0 ≤ k) (cs : List Cel) : ¬ endC k cs < 0 := by rw [endC_eq]; omega
set_option maxRecDepth 100000 in
set_option maxHeartbeats 1000000 in
theorem lawNb_any (q : Option Addr) (cap' : Nat) (cs : List Cel) (w : World) (hin' : CArg w q cs) (a a2 : Addr) (hE : ErrAt w a a2) :
    Calls Tryz.prog 3 #[.slice q cs.length cap'] w fun e w' => e = .returned (.bool true) ∧ Below w.heap.size w w' := by
  have HJ : Hid (CArg w q cs) := hin'
  have HS := szCellS_any q cap' cs 1048576 w (Nat.le_refl _) hin'.len hin'.text hin'.lies
  have hlen2 := hin'.len
  have HBY : Hid (∀ i, i < cs.length → Byte (cs.getD i Cel.none).2.2) := hin'.byte
  have HE : Hid (∀ W, Below w.heap.size w W → ErrAt W a a2) := fun W hW => hE.below hW
  clear hin' hE
  by_cases hm : cs.length + tl cs ≤ 1048576
  · obtain ⟨r, er⟩ : ∃ r : Nat, szR 1048576 (cs.length + tl cs) = r := ⟨1048576 - (cs.length + tl cs), by rw [szR, if_pos hm]; omega⟩
    rw [er] at HS
    clear er
    obtain ⟨⟨zs, code⟩, hz, hsp, him⟩ := trans_both cs HBY.out (by omega)
    have HZL : Hid (zs.length + tl zs ≤ 300000) := hz
    have HSP : Hid (∀ (q : Option Addr) (w : World), CIn w q cs → Calls Tryz.prog 5 #[.slice q cs.length cs.length] w fun e w' => ∃ q m c2, e = .returned (.tuple #[.slice q m c2, .int .i64 code]) ∧ m = zs.length ∧ CIn w' q zs ∧ Below w.heap.size w w') := hsp
    have HIM : Hid (∀ (q : Option Addr) (W : World), Below w.heap.size w W → CIn W q cs → Calls Tryz.prog 7 #[.slice q cs.length cs.length] W fun e w' => ∃ q m c2, e = .returned (.tuple #[.slice q m c2, .int .i64 code]) ∧ OwnC w' W.heap.size q m c2 zs ∧ Below W.heap.size W w') := fun q W hW h => him a a2 q W h (HE.out W hW)
    clear hz hsp him HBY hlen2 HE
    go_enter Tryz.func3, Tryz.ntmps3
    go_wp2_with fail
    refine (HS).mono ?_
    rintro e w0 ⟨rfl, hb⟩
    have HA0 : Hid (Below w.heap.size w w0) := hb
    clear hb HS
    go_wp2_with fail
    refine (toCellS_any q cap' cs w0 hm (HJ.out.below HA0.out).lies).mono ?_
    rintro e w1 ⟨rfl, ho, hb⟩
    have HA1 : Hid (Below w.heap.size w w1) := Below.on HA0.out hb
    have HQ1 : Hid (CIn w1 (some ⟨w0.heap.size, 0, none⟩) cs) := ho.cin
    clear ho hb
    go_wp2_with fail
    refine (HSP.out _ w1 HQ1.out).mono ?_
    rintro e w2 ⟨p2, n2, c2, rfl, hn2, hc2, hb⟩
    have HA2 : Hid (Below w.heap.size w w2) := Below.on HA1.out hb
    have HB2 : Hid (Below w2.heap.size w2 w2) := Below.refl _ _
    have HZ2 : Hid (CIn w2 p2 zs ∧ n2 = zs.length) := ⟨hc2, hn2⟩
    clear hn2 hc2 hb HQ1
    go_wp2_with fail
    refine (toCellS_any q cap' cs w2 hm (HJ.out.below HA2.out).lies).mono ?_
    rintro e w3 ⟨rfl, ho, hb⟩
    have HA3 : Hid (Below w.heap.size w w3) := Below.on HA2.out hb
    have HB3 : Hid (Below w2.heap.size w2 w3) := Below.on HB2.out hb
    have HY3 : Hid (OwnCU w3 w2.heap.size w3.heap.size (some ⟨w2.heap.size, 0, none⟩) cs.length cs.length cs) := ho.up
    have HR3 : Hid (w3.heap.size ≤ w3.heap.size) := Nat.le_refl _
    clear ho hb
    go_wp2_with fail
    refine (HIM.out _ w3 HA3.out HY3.out.toC.cin).mono ?_
    rintro e w4 ⟨p4, n4, c4, rfl, ho, hb⟩
    have HA4 : Hid (Below w.heap.size w w4) := Below.on HA3.out hb
    have HB4 : Hid (Below w2.heap.size w2 w4) := Below.on HB3.out hb
    have HY4 : Hid (OwnCU w4 w2.heap.size w3.heap.size (some ⟨w2.heap.size, 0, none⟩) cs.length cs.length cs) := HY3.out.below hb
    have HR4 : Hid (w3.heap.size ≤ w4.heap.size) := Nat.le_trans HR3.out hb.size
    have HG4 : Hid (OwnCU w4 w3.heap.size w4.heap.size p4 n4 c4 zs) := ho.up
    have HN4 : Hid (n4 = zs.length) := ho.1
    clear ho hb
    go_wp2_with fail
    rw [HN4.out, HZ2.out.2]
    refine (eqCellS_any p4 p2 c4 c2 zs zs w4 (by have := HZL.out; omega) (by have := HZL.out; omega) HG4.out.toC.cin (HZ2.out.1.below HB4.out)).mono ?_
    rintro e w5 ⟨rfl, hb⟩
    have HA5 : Hid (Below w.heap.size w w5) := Below.on HA4.out hb
    have HB5 : Hid (Below w2.heap.size w2 w5) := Below.on HB4.out hb
    have HY5 : Hid (OwnCU w5 w2.heap.size w3.heap.size (some ⟨w2.heap.size, 0, none⟩) cs.length cs.length cs) := HY4.out.below hb
    have HR5 : Hid (w3.heap.size ≤ w5.heap.size) := Nat.le_trans HR4.out hb.size
    have HG5 : Hid (OwnCU w5 w3.heap.size w4.heap.size p4 n4 c4 zs) := HG4.out.below hb
    have ht : decide (zs = zs) = true := by simp
    rw [ht, ← HN4.out]
    clear ht hb
    go_wp2_with fail
    refine (toCellS_any q cap' cs w5 hm (HJ.out.below HA5.out).lies).mono ?_
    rintro e w6 ⟨rfl, ho, hb⟩
    have HA6 : Hid (Below w.heap.size w w6) := Below.on HA5.out hb
    have HB6 : Hid (Below w2.heap.size w2 w6) := Below.on HB5.out hb
    have HY6 : Hid (OwnCU w6 w2.heap.size w3.heap.size (some ⟨w2.heap.size, 0, none⟩) cs.length cs.length cs) := HY5.out.below hb
    have HR6 : Hid (w3.heap.size ≤ w6.heap.size) := Nat.le_trans HR5.out hb.size
    have HG6 : Hid (OwnCU w6 w3.heap.size w4.heap.size p4 n4 c4 zs) := HG5.out.below hb
    have HQ6 : Hid (CIn w6 (some ⟨w5.heap.size, 0, none⟩) cs) := ho.cin
    clear ho hb
    go_wp2_with fail
    refine (eqCellS_any _ _ _ _ cs cs w6 (by omega) (by omega) HY6.out.toC.cin HQ6.out).mono ?_
    rintro e w7 ⟨rfl, hb⟩
    have HA7 : Hid (Below w.heap.size w w7) := Below.on HA6.out hb
    have HB7 : Hid (Below w2.heap.size w2 w7) := Below.on HB6.out hb
    have HY7 : Hid (OwnCU w7 w2.heap.size w3.heap.size (some ⟨w2.heap.size, 0, none⟩) cs.length cs.length cs) := HY6.out.below hb
    have HR7 : Hid (w3.heap.size ≤ w7.heap.size) := Nat.le_trans HR6.out hb.size
    have HG7 : Hid (OwnCU w7 w3.heap.size w4.heap.size p4 n4 c4 zs) := HG6.out.below hb
    have ht : decide (cs = cs) = true := by simp
    rw [ht]
    clear ht hb HQ6
    go_wp2_with fail
    refine (markCells_any w2.heap.size w3.heap.size _ _ _ 1 cs w7 (by decide) (by decide) (by omega) HY7.out).mono ?_
    rintro e w8 ⟨rfl, ho, hk⟩
    have HA8 : Hid (Below w.heap.size w w8) := HA7.out.trans (hk.below HA2.out.size HA7.out.size)
    have HB8 : Hid (Below w2.heap.size w2 w8) := HB7.out.trans (hk.below (Nat.le_refl _) HB7.out.size)
    have HR8 : Hid (w3.heap.size ≤ w8.heap.size) := Nat.le_trans HR7.out hk.size
    have HG8 : Hid (OwnCU w8 w3.heap.size w4.heap.size p4 n4 c4 zs) := HG7.out.keep hk (.inr (Nat.le_refl _))
    obtain ⟨k2, ek2⟩ : ∃ k, k = endC 1 cs := ⟨_, rfl⟩
    have hk2 : ¬ k2 < 0 := by rw [ek2]; exact endC_pos6 (by decide) cs
    rw [← ek2]
    clear ek2 ho hk HY7
    go_wp2_with fail
    rw [HN4.out]
    refine (eqCellS_any p4 p2 c4 c2 zs zs w8 (by have := HZL.out; omega) (by have := HZL.out; omega) HG8.out.toC.cin (HZ2.out.1.below HB8.out)).mono ?_
    rintro e w9 ⟨rfl, hb⟩
    have HA9 : Hid (Below w.heap.size w w9) := Below.on HA8.out hb
    have HB9 : Hid (Below w2.heap.size w2 w9) := Below.on HB8.out hb
    have HR9 : Hid (w3.heap.size ≤ w9.heap.size) := Nat.le_trans HR8.out hb.size
    have HG9 : Hid (OwnCU w9 w3.heap.size w4.heap.size p4 n4 c4 zs) := HG8.out.below hb
    have ht : decide (zs = zs) = true := by simp
    rw [ht, ← HN4.out]
    clear ht hb
    go_wp2_with fail
    refine (markCells_any w3.heap.size w4.heap.size p4 n4 c4 1 zs w9 (by decide) (by decide) (by have := HZL.out; omega) HG9.out).mono ?_
    rintro e w10 ⟨rfl, ho, hk⟩
    have HA10 : Hid (Below w.heap.size w w10) := HA9.out.trans (hk.below HA3.out.size HA9.out.size)
    have HB10 : Hid (Below w2.heap.size w2 w10) := HB9.out.trans (hk.below HB3.out.size HB9.out.size)
    have HR10 : Hid (w3.heap.size ≤ w10.heap.size) := Nat.le_trans HR9.out hk.size
    have HH10 : Hid (CIn w10 p4 (markC 1 zs)) := ho.toC.cin
    obtain ⟨mm, emm⟩ : ∃ mm, mm = endC 1 zs := ⟨_, rfl⟩
    have hmm : ¬ mm < 0 := by rw [emm]; exact endC_pos6 (by decide) zs
    have HMM : Hid (mm = endC 1 zs) := emm
    rw [← emm]
    clear emm ho hk HG9
    go_wp2_with fail
    refine (heldCells_any p4 n4 c4 1 zs w10 (by decide) (by decide) (by have := HZL.out; omega) HN4.out HH10.out).mono ?_
    rintro e wh ⟨rfl, hwh⟩
    rw [hwh, ← HMM.out]
    clear hwh
    go_wp2_with fail
    refine (toCellS_any q cap' cs w10 hm (HJ.out.below HA10.out).lies).mono ?_
    rintro e w11 ⟨rfl, ho, hb⟩
    have HA11 : Hid (Below w.heap.size w w11) := Below.on HA10.out hb
    have HB11 : Hid (Below w2.heap.size w2 w11) := Below.on HB10.out hb
    have HR11 : Hid (w3.heap.size ≤ w11.heap.size) := Nat.le_trans HR10.out hb.size
    have HH11 : Hid (CIn w11 p4 (markC 1 zs)) := HH10.out.below hb
    have HQ11 : Hid (CIn w11 (some ⟨w10.heap.size, 0, none⟩) cs) := ho.cin
    clear ho hb
    go_wp2_with fail
    refine (HIM.out _ w11 HA11.out HQ11.out).mono ?_
    rintro e w12 ⟨p12, n12, c12, rfl, ho, hb⟩
    have HA12 : Hid (Below w.heap.size w w12) := Below.on HA11.out hb
    have HB12 : Hid (Below w2.heap.size w2 w12) := Below.on HB11.out hb
    have HR12 : Hid (w3.heap.size ≤ w12.heap.size) := Nat.le_trans HR11.out hb.size
    have HH12 : Hid (CIn w12 p4 (markC 1 zs)) := HH11.out.below hb
    have HG12 : Hid (CIn w12 p12 zs ∧ n12 = zs.length) := ⟨ho.cin, ho.1⟩
    clear ho hb HQ11
    go_wp2_with fail
    rw [HG12.out.2, HN4.out]
    refine (eqCellS_any p12 p2 c12 c2 zs zs w12 (by have := HZL.out; omega) (by have := HZL.out; omega) HG12.out.1 (HZ2.out.1.below HB12.out)).mono ?_
    rintro e w13 ⟨rfl, hb⟩
    have HA13 : Hid (Below w.heap.size w w13) := Below.on HA12.out hb
    have HB13 : Hid (Below w2.heap.size w2 w13) := Below.on HB12.out hb
    have HR13 : Hid (w3.heap.size ≤ w13.heap.size) := Nat.le_trans HR12.out hb.size
    have HH13 : Hid (CIn w13 p4 (markC 1 zs)) := HH12.out.below hb
    have ht : decide (zs = zs) = true := by simp
    rw [ht]
    clear ht hb
    go_wp2_with fail
    refine (heldCells_any p4 zs.length c4 1 zs w13 (by decide) (by decide) (by have := HZL.out; omega) rfl HH13.out).mono ?_
    rintro e wh ⟨rfl, hwh⟩
    rw [hwh, ← HMM.out]
    clear hwh
    go_wp2_with fail
    go_ret
    exact ⟨rfl, HA13.out⟩
  · have er : szR 1048576 (cs.length + tl cs) = -1 := by rw [szR, if_neg hm]
    rw [er] at HS
    clear er HBY HE
    go_enter Tryz.func3, Tryz.ntmps3
    go_wp2_with fail
    refine HS.mono ?_
    rintro e w0 ⟨rfl, hb0⟩
    go_wp2_with fail
    go_ret
    exact ⟨rfl, hb0⟩
end Go.Proofs.YtbnmmcegjlmdmaaGreatDoor

