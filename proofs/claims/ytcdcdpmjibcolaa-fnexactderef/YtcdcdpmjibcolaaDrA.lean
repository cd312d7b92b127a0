/- The program follows references; words as cells. Own work of the verifier. -/
import Derived.Test.YtcdcdpmjibcolaaStR
import Derived.Test.YtcdcdpmjibcolaaStY
import Derived.Handy
namespace Go.Proofs.Ytcdcdpmjibcolaa
open Go Go.RowKit Go.Maps
set_option linter.unusedVariables false

/-- How many references may be followed from a word as it lies. -/
noncomputable def rkV (xs : List Cel) : Value → Nat
  | .iface t (.int _ n) => if t = 93 then rk xs n.toNat + 1 else 0
  | _ => 0
theorem rkV_wv (xs : List Cel) (c : Cel) : rkV xs (wv c) = rkW xs c := by
  unfold wv rkW
  split
  · simp [rkV]
  · split
    · simp [rkV]
    · split
      · rfl
      · split
        · rfl
        · simp [rkV]
theorem WdC.knd {xs : List Cel} {c : Cel} (h : WdC xs c) : c.1 = 0 ∨ c.1 = 1 ∨ c.1 = 2 ∨ c.1 = 3 ∨ c.1 = 4 := by
  have := h.1; omega

set_option maxHeartbeats 1000000 in
set_option maxRecDepth 100000 in
theorem deref_any (h : Nat) (c : Cel) (xs : List Cel) (tr : List Int) (w : World) (g : Good xs) (hc : WdC xs c) (H : HeapAt w h xs tr) :
    Calls Try.prog 45 #[.pointer (some ⟨h, 0, none⟩), wv c] w fun e w' => e = .returned (wv (drf xs c)) ∧ Below w.heap.size w w' := by
  have HH : Hid (HeapAt w h xs tr) := H
  have HG : Hid (Good xs) := g
  have HC : Hid (WdC xs c) := hc
  have hl := g.shp.len
  obtain ⟨v0, ev0⟩ : ∃ v, v = wv c := ⟨_, rfl⟩
  have HV0 : Hid (v0 = wv c) := ev0
  rw [← ev0]
  clear H g hc ev0
  go_enter Try.func45, Try.ntmps45
  go_wp2
  go_loopw [1] (fun v wr => ∃ c', Hid (v = wv c') ∧ Hid (WdC xs c') ∧ Hid (drf xs c' = drf xs c) ∧ Hid (Below w.heap.size w wr)) (fun v _ => rkV xs v)
  case atStart => exact ⟨c, HV0, HC, rfl, Below.refl _ _⟩
  case round v =>
    obtain ⟨c', HV, HW, HD, HB⟩ := hrel
    have I := (isW c' HW.out.knd).rf
    have HHr : Hid (HeapAt wr h xs tr) := HH.out.below HB.out
    rw [← HV.out] at I
    by_cases k0 : c'.1 = 0
    · simp only [k0, if_true, decide_true] at I
      obtain ⟨r0, r1, r2⟩ := HW.out.2.1 k0
      obtain ⟨j, ej⟩ : ∃ j : Nat, c'.2.1 = j := ⟨c'.2.1.toNat, by omega⟩
      have hj : j < xs.length := by omega
      rw [ej] at I
      have HJ : Hid (c'.1 = 0 ∧ c'.2.1 = j) := ⟨k0, ej⟩
      have HVA := holdsVariable_any h j xs tr wr hl HG.out.shp.knds HHr.out
      obtain ⟨pw, cw, pt, ct, h0, _, hw, _⟩ := HHr.out
      obtain ⟨gg, rfl, hcs⟩ := hw (by omega)
      have hv := hcs j hj
      have hlt := World.block_lt_of_cell? _ _ h0
      have hlt' := World.block_lt_of_cell? _ _ hv
      have HNX : Hid (wv (xs.getD j Cel.none) = wv (xs.getD j Cel.none)) := rfl
      obtain ⟨vn, evn⟩ : ∃ v, v = wv (xs.getD j Cel.none) := ⟨_, rfl⟩
      rw [← evn] at hv
      have HVN : Hid (vn = wv (xs.getD j Cel.none)) := evn
      clear hcs hw k0 ej r0 r1 r2 evn HNX
      cases hb : varB xs j
      · rw [hb] at HVA
        have HO : Hid (onB xs c' = true) := by show _ = _; simp [onB, HJ.out.1, HJ.out.2, hb]
        clear hb
        go_wp2_with fail
        refine HVA.mono ?_
        rintro e w2 ⟨rfl, hb2⟩
        have h0' := (hb2.cell hlt).trans h0
        have hv' := (hb2.cell hlt').trans hv
        have HB2 : Hid (Below w.heap.size w w2) := Below.on HB.out hb2
        clear hb2 h0 hv HVA hlt hlt'
        go_wp2
        have hn := rk_next HG.out HW.out HO.out
        have hs := drf_step HG.out HW.out HO.out
        have e1 : c'.2.1.toNat = j := by rw [HJ.out.2]; rfl
        rw [e1] at hn hs
        go_roundw
        case rel => exact ⟨xs.getD j Cel.none, HVN.out, hn.2, by show _ = _; rw [← hs]; exact HD.out, HB2.out⟩
        case measure => rw [HVN.out, HV.out, rkV_wv, rkV_wv]; exact hn.1
      · rw [hb] at HVA
        have HO : Hid (onB xs c' = false) := by show _ = _; simp [onB, HJ.out.1, HJ.out.2, hb]
        clear hb h0 hv hlt hlt'
        go_wp2_with fail
        refine HVA.mono ?_
        rintro e w2 ⟨rfl, hb2⟩
        have HB2 : Hid (Below w.heap.size w w2) := Below.on HB.out hb2
        clear hb2 HVA
        go_wp2
        go_ret
        exact ⟨by rw [HV.out, ← HD.out, drf_stop HO.out]; rfl, HB2.out⟩
    · simp only [k0, if_false, decide_false] at I
      have HO : Hid (onB xs c' = false) := by show _ = _; simp [onB, k0]
      clear k0
      go_wp2
      go_ret
      exact ⟨by rw [HV.out, ← HD.out, drf_stop HO.out]; rfl, HB.out⟩

set_option maxRecDepth 100000 in
theorem refCell_any (n : Int) (w : World) : Calls Try.prog 135 #[.int .i64 n] w fun e w' => e = .returned (.agg #[.int .i64 0, .int .i64 n, .slice none 0 0]) ∧ Below w.heap.size w w' := by
  go_enter Try.func135, Try.ntmps135
  go_wp2
  exact bodyPost_ret (v := .agg #[.int .i64 0, .int .i64 n, .slice none 0 0]) (by simp [results, Try.results135, go_sem]) rfl ⟨rfl, by first | exact Below.refl _ _ | exact (Below.refl _ _).alloc (Nat.le_refl _) _⟩
set_option maxRecDepth 100000 in
theorem numCell_any (n : Int) (w : World) : Calls Try.prog 140 #[.int .i64 n] w fun e w' => e = .returned (.agg #[.int .i64 1, .int .i64 n, .slice none 0 0]) ∧ Below w.heap.size w w' := by
  go_enter Try.func140, Try.ntmps140
  go_wp2
  exact bodyPost_ret (v := .agg #[.int .i64 1, .int .i64 n, .slice none 0 0]) (by simp [results, Try.results140, go_sem]) rfl ⟨rfl, by first | exact Below.refl _ _ | exact (Below.refl _ _).alloc (Nat.le_refl _) _⟩
set_option maxRecDepth 100000 in
theorem strCell_any (n : Int) (w : World) : Calls Try.prog 143 #[.int .i64 n] w fun e w' => e = .returned (.agg #[.int .i64 4, .int .i64 n, .slice none 0 0]) ∧ Below w.heap.size w w' := by
  go_enter Try.func143, Try.ntmps143
  go_wp2
  exact bodyPost_ret (v := .agg #[.int .i64 4, .int .i64 n, .slice none 0 0]) (by simp [results, Try.results143, go_sem]) rfl ⟨rfl, by first | exact Below.refl _ _ | exact (Below.refl _ _).alloc (Nat.le_refl _) _⟩
set_option maxRecDepth 100000 in
theorem atomCell_any (t : List Int) (w : World) (hx : Byte t) : Calls Try.prog 142 #[.string (strOfNums t)] w fun e w' => ∃ p c, e = .returned (.agg #[.int .i64 2, .int .i64 0, .slice p t.length c]) ∧ OwnT w' w.heap.size p t.length c t ∧ Below w.heap.size w w' := by
  obtain ⟨w1, cap, hcv, hb1, hb2⟩ := conv_bytes (w.alloc (.cells #[.int .i64 0, .int .i64 0, .slice none 0 0] 31)) t hx 133 Try.underlying133
  have b0 : Box3 w1 w.heap.size (.int .i64 0) (.int .i64 0) (.slice none 0 0) := Box3.of_block (t := 31) ((hb1.block _ (by simp)).trans (heap_alloc_new _ _))
  have HB : Hid (Below w.heap.size w w1) := Below.on ((Below.refl _ _).alloc (Nat.le_refl _) _) hb1
  simp only [World.size_alloc] at hb2 hcv
  have HO : Hid (OwnT w1 (w.heap.size + 1) (some ⟨w.heap.size + 1, 0, none⟩) t.length cap t) := hb2
  obtain ⟨c0, c1, c2, f1⟩ := b0
  have HD : Hid _ := box3_set c0 c1 c2 (.int .i64 2) (.int .i64 0) (.slice (some ⟨w.heap.size + 1, 0, none⟩) t.length cap)
  clear hx hb1 hb2
  go_enter Try.func142, Try.ntmps142
  go_wp2
  obtain ⟨d0, d1, d2⟩ := HD.out
  refine bodyPost_ret (v := .agg #[.int .i64 2, .int .i64 0, .slice (some ⟨w.heap.size + 1, 0, none⟩) t.length cap]) (by simp [results, Try.results142, go_sem, d0, d1, d2]) rfl ⟨_, _, rfl, ?_, ?_⟩
  · exact (((HO.out.setCell (a := ⟨w.heap.size, 0, none⟩) (fun _ => by simp) _).setCell (a := ⟨w.heap.size, 1, none⟩) (fun _ => by simp) _).setCell (a := ⟨w.heap.size, 2, none⟩) (fun _ => by simp) _).mono (by omega)
  · exact ((HB.out.setCell (p := ⟨_, _, none⟩) (Nat.le_refl _) _).setCell (p := ⟨_, _, none⟩) (Nat.le_refl _) _).setCell (p := ⟨_, _, none⟩) (Nat.le_refl _) _

end Go.Proofs.Ytcdcdpmjibcolaa
