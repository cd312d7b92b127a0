/- Texts of OArgT, OpsZ, OpsT. Own work of the verifier. -/
import Derived.Test.YtgonpnnlpkjkcaaGreatDoorUqaj
import Derived.Test.YtgonpnnlpkjkcaaGreatDoorUqab
import Derived.Test.YtgonpnnlpkjkcaaGreatDoorUqan
namespace Go.Proofs.YtgonpnnlpkjkcaaGreatDoor
open Go Go.RowKit
set_option linter.unusedVariables false

/-- What is asked of a slice of cells that came in. -/
structure OArg (w : World) (p : Option Addr) (cs : List Cel) : Prop where
  lies : OIn w p cs
  len : cs.length ≤ 9223372036854775807
  text : ∀ i, i < cs.length → (cs.getD i Cel.none).2.2.length ≤ 9223372036854775807
  byte : ∀ i, i < cs.length → ∀ x ∈ (cs.getD i Cel.none).2.2, 0 ≤ x ∧ x < 256
  wide : ∀ i, i < cs.length → -9223372036854775808 ≤ (cs.getD i Cel.none).1 ∧ (cs.getD i Cel.none).1 ≤ 9223372036854775807 ∧ -9223372036854775808 ≤ (cs.getD i Cel.none).2.1 ∧ (cs.getD i Cel.none).2.1 ≤ 9223372036854775807
theorem OArg.below {W W' : World} {p : Option Addr} {cs : List Cel} (h : OArg W p cs) (hb : Below W.heap.size W W') : OArg W' p cs := ⟨h.lies.below hb, h.len, h.text, h.byte, h.wide⟩

end Go.Proofs.YtgonpnnlpkjkcaaGreatDoor

namespace Go.Proofs.YtgonpnnlpkjkcaaGreatDoor
open Go Go.RowKit
set_option linter.unusedVariables false

theorem szOp_any (k n : Int) (p : Option Addr) (m cap L : Nat) (w : World) (hL : L ≤ 1048576) (hn : m ≤ 9223372036854775807) :
    Calls Tryz.prog 21 #[.agg #[.slice p m cap, .int .i64 k, .int .i64 n], .int .i64 L] w fun e w' => e = .returned (.int .i64 (szR L m)) ∧ Below w.heap.size w w' := by
  by_cases h : m ≤ L
  · have e : szR L m = (L : Int) - m := by simp [szR, h]
    have HS := fun w => szByteS_any p m cap L w hL hn
    rw [e] at HS ⊢
    have h0 : ¬ ((L : Int) - m < 0) := by omega
    go_enter Tryz.func21, Tryz.ntmps21
    go_wp2_with (go_at_call 23; refine (HS _).mono ?_; rintro e w' ⟨rfl, rfl⟩)
    go_ret
    exact ⟨rfl, (Below.refl _ _).alloc (Nat.le_refl _) _⟩
  · have e : szR L m = -1 := by simp [szR, h]
    have HS := fun w => szByteS_any p m cap L w hL hn
    rw [e] at HS ⊢
    go_enter Tryz.func21, Tryz.ntmps21
    go_wp2_with (go_at_call 23; refine (HS _).mono ?_; rintro e w' ⟨rfl, rfl⟩)
    go_ret
    exact ⟨rfl, (Below.refl _ _).alloc (Nat.le_refl _) _⟩

theorem szOpS_any (p : Option Addr) (cap : Nat) (cs : List Cel) (L : Nat) (w : World) (hL : L ≤ 1048576) (hn : cs.length ≤ 9223372036854775807) (hm : ∀ i, i < cs.length → (cs.getD i Cel.none).2.2.length ≤ 9223372036854775807) (hc : OIn w p cs) :
    Calls Tryz.prog 4 #[.slice p cs.length cap, .int .i64 L] w fun e w' => e = .returned (.int .i64 (szR L (cs.length + tl cs))) ∧ Below w.heap.size w w' := by
  by_cases h : cs.length ≤ L
  · have h0 : ¬ ((L : Int) - cs.length < 0) := by omega
    go_enter Tryz.func4, Tryz.ntmps4
    go_wp2
    have HL : Hid (cs.length ≤ L) := h
    clear h h0
    go_loopw [1, 5] (fun l i wr => ∃ k : Nat, k ≤ cs.length ∧ i = .int .i64 k ∧ Hid (cs.length + tl (cs.take k) ≤ L) ∧ l = .int .i64 ((L : Int) - (cs.length + tl (cs.take k) : Nat)) ∧ Below w.heap.size w wr) (fun _ i _ => cs.length - (intOf i).toNat)
    case atStart => exact ⟨0, Nat.zero_le _, rfl, by simpa [tl, Hid] using HL.out, by simp [tl], Below.refl _ _⟩
    case round =>
      obtain ⟨k, hk, rfl, HT, rfl, hbr⟩ := hrel
      by_cases hlt : k < cs.length
      · obtain ⟨b, o, rfl, hcs⟩ := hc (by omega)
        obtain ⟨q, qc, h0, h1, h2, _⟩ := (hcs k hlt).below hbr
        have hmk := hm k hlt
        have htk : Hid _ := tl_take cs k hlt
        have htl : Hid _ := tl_take_le cs (k + 1)
        obtain ⟨c0, e0⟩ : ∃ x, x = (cs.getD k Cel.none).1 := ⟨_, rfl⟩
        obtain ⟨c1, e1⟩ : ∃ x, x = (cs.getD k Cel.none).2.1 := ⟨_, rfl⟩
        obtain ⟨m, em⟩ : ∃ x, x = (cs.getD k Cel.none).2.2.length := ⟨_, rfl⟩
        rw [← e0] at h0
        rw [← e1] at h1
        rw [← em] at h2 hmk htk
        obtain ⟨L', eL⟩ : ∃ x, x = L - (cs.length + tl (cs.take k)) := ⟨_, rfl⟩
        have eL' : ((L : Int) - (cs.length + tl (cs.take k) : Nat)) = (L' : Int) := by have := HT.out; omega
        have hL' : L' ≤ 1048576 := by omega
        rw [eL']
        have HE : Hid (L' = L - (cs.length + tl (cs.take k))) := eL
        have HB : Hid (Below w.heap.size w wr) := hbr
        clear e0 e1 em eL eL' hcs hc hbr hm
        by_cases hfit : m ≤ L'
        · have e : szR L' m = (L' : Int) - m := by simp [szR, hfit]
          have HS := fun w => szOp_any c0 c1 q m qc L' w hL' hmk
          rw [e] at HS
          have h0' : ¬ ((L' : Int) - m < 0) := by omega
          go_wp2_with (go_at_call 21; refine (HS _).mono ?_; rintro e w' ⟨rfl, hb1⟩)
          go_roundw
          case rel => exact ⟨k + 1, by omega, by go_num, by have := HT.out; have := htk.out; have := HE.out; show _ ≤ _; omega, by have := HT.out; have := htk.out; have := HE.out; congr 1; omega, Below.on HB.out hb1⟩
          case measure => simp [intOf]; omega
        · have e : szR L' m = -1 := by simp [szR, hfit]
          have HS := fun w => szOp_any c0 c1 q m qc L' w hL' hmk
          rw [e] at HS
          go_wp2_with (go_at_call 21; refine (HS _).mono ?_; rintro e w' ⟨rfl, hb1⟩)
          go_ret
          refine ⟨ret_int ?_, Below.on HB.out hb1⟩
          have := HT.out; have := htk.out; have := HE.out; have := htl.out
          rw [szR, if_neg (by omega)]
      · obtain rfl : k = cs.length := by omega
        have HB : Hid (Below w.heap.size w wr) := hbr
        clear hbr hc hm
        rw [List.take_length] at *
        go_wp2
        go_ret
        exact ⟨ret_int (by rw [szR, if_pos HT.out]), HB.out⟩
  · have e : szR L (cs.length + tl cs) = -1 := by rw [szR, if_neg (by omega)]
    rw [e]
    have h0 : (L : Int) - cs.length < 0 := by omega
    clear hc hm
    go_enter Tryz.func4, Tryz.ntmps4
    go_wp2
    go_ret
    exact ⟨rfl, Below.refl _ _⟩

end Go.Proofs.YtgonpnnlpkjkcaaGreatDoor

namespace Go.Proofs.YtgonpnnlpkjkcaaGreatDoor
open Go Go.RowKit
set_option linter.unusedVariables false

theorem toOp_any (k n : Int) (p : Option Addr) (m cap : Nat) (xs : List Int) (w : World) (hl : m = xs.length) (hn : m ≤ 1048576) (hin : BIn w p xs) :
    Calls Tryz.prog 27 #[.agg #[.slice p m cap, .int .i64 k, .int .i64 n]] w fun e w' => ∃ g, e = .returned (.agg #[.slice (some ⟨g, 0, none⟩) m m, .int .i64 k, .int .i64 n]) ∧ OwnS w' w.heap.size (some ⟨g, 0, none⟩) m m xs ∧ Below w.heap.size w w' := by
  have HI : Hid (BIn w p xs) := hin
  subst hl
  clear hin
  go_enter Tryz.func27, Tryz.ntmps27
  go_wp2_with fail
  have hb0 : Below w.heap.size w (((w.alloc (Obj.cells #[Value.slice p xs.length cap, Value.int IntKind.i64 k, Value.int IntKind.i64 n] 45)).alloc
          (Obj.cells #[Value.slice none 0 0, Value.int IntKind.i64 0, Value.int IntKind.i64 0] 55)).alloc
      (Obj.cells #[Value.slice none 0 0, Value.int IntKind.i64 0, Value.int IntKind.i64 0] 55)) :=
    (((Below.refl _ _).alloc (Nat.le_refl _) _).alloc (by simp) _).alloc (by simp; omega) _
  refine (toByteS_any p cap xs _ hn (HI.out.below hb0)).mono ?_
  rintro e w1 ⟨rfl, hown, hb1⟩
  have h0 : Box3 w1 w.heap.size (.slice p xs.length cap) (.int .i64 k) (.int .i64 n) := Box3.of_block (t := 45) ((hb1.block _ (by simp; omega)).trans (by
    rw [Below.heap_alloc _ _ _ (by simp; omega), Below.heap_alloc _ _ _ (by simp)]
    exact heap_alloc_new w _))
  have b1 : Box3 w1 (w.heap.size + 1) (.slice none 0 0) (.int .i64 0) (.int .i64 0) := Box3.of_block (t := 55) ((hb1.block _ (by simp)).trans (heap_three w _ _ _).1)
  have b2 : Box3 w1 (w.heap.size + 1 + 1) (.slice none 0 0) (.int .i64 0) (.int .i64 0) := Box3.of_block (t := 55) ((hb1.block _ (by simp)).trans (heap_three w _ _ _).2)
  have HO : Hid (OwnS w1 (w.heap.size + 1 + 1 + 1) (some ⟨w.heap.size + 1 + 1 + 1, 0, none⟩) xs.length xs.length xs) := by
    have := OwnS.of_row hown
    simp at this
    exact this
  have HB : Hid (Below w.heap.size w w1) := Below.on hb0 hb1
  obtain ⟨a0, a1, a2, _⟩ := h0
  obtain ⟨c10, c11, c12, f1⟩ := b1
  obtain ⟨c20, c21, c22, f2⟩ := b2
  clear hown hb1 hb0
  have D0 := box3_set (w := w1) (b := w.heap.size + 1 + 1) c20 c21 c22 (Value.slice (some ⟨w.heap.size + 1 + 1 + 1, 0, none⟩) xs.length xs.length) (Value.int IntKind.i64 k) (Value.int IntKind.i64 n)
  generalize hW : (((w1.setCell ⟨w.heap.size + 1 + 1, 0, none⟩ (Value.slice (some ⟨w.heap.size + 1 + 1 + 1, 0, none⟩) xs.length xs.length)).setCell ⟨w.heap.size + 1 + 1, 1, none⟩ (Value.int IntKind.i64 k)).setCell ⟨w.heap.size + 1 + 1, 2, none⟩ (Value.int IntKind.i64 n)) = W at D0
  have keep : ∀ j v, w1.cell? ⟨w.heap.size + 1, j, none⟩ = some v → W.cell? ⟨w.heap.size + 1, j, none⟩ = some v := fun j v h => by
    rw [← hW, World.cell?_setCell_other _ _ _ _ (by simp), World.cell?_setCell_other _ _ _ _ (by simp), World.cell?_setCell_other _ _ _ _ (by simp)]; exact h
  have D := box3_set (w := W) (b := w.heap.size + 1) (keep 0 _ c10) (keep 1 _ c11) (keep 2 _ c12) (Value.slice (some ⟨w.heap.size + 1 + 1 + 1, 0, none⟩) xs.length xs.length) (Value.int IntKind.i64 k) (Value.int IntKind.i64 n)
  have HD : Hid _ := D
  have HD0 : Hid _ := D0
  have HW : Hid _ := hW
  clear D D0 keep hW
  go_wp2
  obtain ⟨d0, d1, d2⟩ := HD.out
  refine bodyPost_ret (v := .agg #[.slice (some ⟨w.heap.size + 1 + 1 + 1, 0, none⟩) xs.length xs.length, .int .i64 k, .int .i64 n]) (by rw [HW.out]; simp [results, Tryz.results27, go_sem, d0, d1, d2]) rfl ⟨_, rfl, ?_, ?_⟩
  · have h := (((((HO.out.setCell (a := ⟨w.heap.size + 1 + 1, 0, none⟩) (by simp) (Value.slice (some ⟨w.heap.size + 1 + 1 + 1, 0, none⟩) xs.length xs.length)).setCell (a := ⟨w.heap.size + 1 + 1, 1, none⟩) (by simp) (Value.int IntKind.i64 k)).setCell (a := ⟨w.heap.size + 1 + 1, 2, none⟩) (by simp) (Value.int IntKind.i64 n)).setCell (a := ⟨w.heap.size + 1, 0, none⟩) (by simp) (Value.slice (some ⟨w.heap.size + 1 + 1 + 1, 0, none⟩) xs.length xs.length)).setCell (a := ⟨w.heap.size + 1, 1, none⟩) (by simp) (Value.int IntKind.i64 k)).setCell (a := ⟨w.heap.size + 1, 2, none⟩) (by simp) (Value.int IntKind.i64 n)
    exact h.mono (by omega)
  · exact (((((HB.out.setCell (p := ⟨_, _, none⟩) (by simp; omega) _).setCell (p := ⟨_, _, none⟩) (by simp; omega) _).setCell (p := ⟨_, _, none⟩) (by simp; omega) _).setCell (p := ⟨_, _, none⟩) (by simp) _).setCell (p := ⟨_, _, none⟩) (by simp) _).setCell (p := ⟨_, _, none⟩) (by simp) _

/-- The rows so far: k cells are laid. -/
def LaidO (w : World) (H k : Nat) (rs : List RC) (cs : List Cel) : Prop :=
  rs.length = cs.length ∧ w.ownsRow H 55 3 (.slice (some ⟨H, 0, none⟩) cs.length cs.length) cs.length (flatO rs) ∧ (∀ i, i < k → Fits w H (rs.getD i RC.zero) (cs.getD i Cel.none)) ∧
  (∀ i, i < k → ∃ g, (rs.getD i RC.zero).2.2.1 = some ⟨g, 0, none⟩ ∧ H < g ∧ g < w.heap.size) ∧ (∀ i j, i < k → j < k → i ≠ j → (rs.getD i RC.zero).2.2.1 ≠ (rs.getD j RC.zero).2.2.1)
theorem LaidO.below {w w' : World} {H k : Nat} {rs : List RC} {cs : List Cel} (h : LaidO w H k rs cs) (hb : Below w.heap.size w w') : LaidO w' H k rs cs := by
  obtain ⟨hl, hr, hf, hg, ha⟩ := h
  refine ⟨hl, ⟨hr.1, ?_⟩, fun i hi => ⟨(hf i hi).1, (hf i hi).2.1, (hf i hi).2.2.below hb⟩, fun i hi => ?_, ha⟩
  · rcases hr.2 with h' | ⟨g, cap, cur, hv, hB, hg, r⟩
    · exact .inl h'
    · exact .inr ⟨g, cap, cur, hv, hB, (hb.block g (Array.getElem?_eq_some_iff.1 hg).1).trans hg, r⟩
  · obtain ⟨g, e, h1, h2⟩ := hg i hi
    exact ⟨g, e, h1, Nat.lt_of_lt_of_le h2 hb.size⟩
theorem LaidO.next {w : World} {H k g m B : Nat} {rs : List RC} {cs : List Cel} (h : LaidO w H k rs cs) (hk : k < cs.length) (a b : Int) (ea : a = (cs.getD k Cel.none).1) (eb : b = (cs.getD k Cel.none).2.1) (hB : H < B)
    (ho : OwnS w B (some ⟨g, 0, none⟩) m m (cs.getD k Cel.none).2.2) (hnew : ∀ i, i < k → (rs.getD i RC.zero).2.2.1 ≠ some ⟨g, 0, none⟩) :
    LaidO (((w.setCell ⟨H, k * 3, none⟩ (.slice (some ⟨g, 0, none⟩) m m)).setCell ⟨H, k * 3 + 1, none⟩ (.int .i64 a)).setCell ⟨H, k * 3 + 2, none⟩ (.int .i64 b)) H (k + 1) (rs.set k (a, b, some ⟨g, 0, none⟩, m, m)) cs := by
  obtain ⟨hl, hr, hf, hg, ha⟩ := h
  have hgB : B ≤ g ∧ g < w.heap.size := by
    rcases ho.form with ⟨h, _⟩ | ⟨g', h', h1, h2⟩
    · cases h
    · cases h'; exact ⟨h1, h2⟩
  refine ⟨by simpa using hl, ?_, fun i hi => ?_, fun i hi => ?_, fun i j hi hj hij => ?_⟩
  · have h1 := (((hr.stored (k * 3) (.slice (some ⟨g, 0, none⟩) m m)).1.stored (k * 3 + 1) (.int .i64 a)).1.stored (k * 3 + 2) (.int .i64 b)).1
    rwa [flatO_set rs k (a, b, some ⟨g, 0, none⟩, m, m) (by omega)] at h1
  · rw [rs_set_at _ _ _ _ (by omega)]
    by_cases e : i = k
    · subst e
      rw [if_pos rfl]
      exact ⟨ea, eb, (((ho.toT.setCell (ne_block (H := H) (by omega)) _).setCell (ne_block (H := H) (by omega)) _).setCell (ne_block (H := H) (by omega)) _).mono (by omega)⟩
    · rw [if_neg e]
      obtain ⟨f0, f1, f2⟩ := hf i (by omega)
      obtain ⟨g', e', h1, h2⟩ := hg i (by omega)
      rw [e'] at f2
      rw [Fits, e']
      exact ⟨f0, f1, ((f2.setCell (ne_block (H := H) (by omega)) _).setCell (ne_block (H := H) (by omega)) _).setCell (ne_block (H := H) (by omega)) _⟩
  · rw [rs_set_at _ _ _ _ (by omega)]
    by_cases e : i = k
    · subst e
      rw [if_pos rfl]
      exact ⟨g, rfl, by omega, by simpa using hgB.2⟩
    · rw [if_neg e]
      obtain ⟨g', e', h1, h2⟩ := hg i (by omega)
      exact ⟨g', e', h1, by simpa using h2⟩
  · rw [rs_set_at _ _ _ _ (by omega), rs_set_at _ _ _ _ (by omega)]
    by_cases e : i = k
    · rw [if_pos e, if_neg (by omega)]
      exact fun x => hnew j (by omega) x.symm
    · by_cases e' : j = k
      · rw [if_neg e, if_pos e']
        exact hnew i (by omega)
      · rw [if_neg e, if_neg e']
        exact ha i j (by omega) (by omega) hij
theorem LaidO.own {w : World} {H : Nat} {rs : List RC} {cs : List Cel} (h : LaidO w H cs.length rs cs) : OwnO w H (some ⟨H, 0, none⟩) cs.length cs.length cs := by
  obtain ⟨hl, hr, hf, hg, ha⟩ := h
  refine ⟨rfl, rs, hl, hr, hf, fun i hi _ e => ?_, fun i j hi hj hij _ _ => ha i j (by omega) (by omega) hij⟩
  obtain ⟨g, e', h1, _⟩ := hg i (by omega)
  rw [e] at e'
  simp only [Option.some.injEq, Addr.mk.injEq, and_true] at e'
  omega

theorem toOpS_any (p : Option Addr) (cap : Nat) (cs : List Cel) (w : World) (hn : cs.length + tl cs ≤ 1048576) (hc : OIn w p cs) :
    Calls Tryz.prog 8 #[.slice p cs.length cap] w fun e w' => e = .returned (.slice (some ⟨w.heap.size, 0, none⟩) cs.length cs.length) ∧ OwnO w' w.heap.size (some ⟨w.heap.size, 0, none⟩) cs.length cs.length cs ∧ Below w.heap.size w w' := by
  obtain ⟨i0, hi, hz0, hz1, hz2⟩ := info_parts infoOp
  have hmx : cs.length ≤ maxLen := by unfold maxLen; omega
  have HC : Hid (OIn w p cs) := hc
  clear hc
  go_enter Tryz.func8, Tryz.ntmps8
  go_wp2_with (at_make; refine wpList_make_full _ rfl _ _ 30 rfl w.heap.size 55 i0 (.agg #[.slice none 0 0, .int .i64 0, .int .i64 0]) 3 Tryz.underlying30 hi hz0 hz1 _ _ _ _ cs.length rfl rfl rfl rfl (by rw [hz2]; omega) hmx (Nat.le_refl _) ?_; intro w1 hown hgrow)
  have HB1 : Hid (Below w.heap.size w w1) := (Below.refl _ _).grown hgrow (Nat.le_refl _) (fun k h => by cases h)
  have HO : Hid (LaidO w1 w.heap.size 0 (List.replicate cs.length RC.zero) cs) := ⟨by simp, by
    have := hown
    rw [show (Value.agg #[.slice none 0 0, .int .i64 0, .int .i64 0]).cells = #[.slice none 0 0, .int .i64 0, .int .i64 0] from rfl, made_flatO] at this
    exact this, fun i h => by omega, fun i h => by omega, fun i j h => by omega⟩
  clear hown hgrow
  go_loopw [4] (fun i wr => ∃ k rs, k ≤ cs.length ∧ i = .int .i64 k ∧ Hid (LaidO wr w.heap.size k rs cs) ∧ Hid (Below w.heap.size w wr)) (fun i _ => cs.length - (intOf i).toNat)
  case atStart => exact ⟨0, _, Nat.zero_le _, rfl, HO, HB1⟩
  case round =>
    obtain ⟨k, rs, hk, rfl, HR, HB⟩ := hrel
    by_cases hlt : k < cs.length
    · obtain ⟨b, o, rfl, hcs⟩ := HC.out (by omega)
      obtain ⟨q, qc, h0, h1, h2, h3⟩ := (hcs k hlt).below HB.out
      have hmk : (cs.getD k Cel.none).2.2.length ≤ 1048576 := by have := tl_at cs k hlt; omega
      obtain ⟨c0, e0⟩ : ∃ x, x = (cs.getD k Cel.none).1 := ⟨_, rfl⟩
      obtain ⟨c1, e1⟩ : ∃ x, x = (cs.getD k Cel.none).2.1 := ⟨_, rfl⟩
      obtain ⟨m, em⟩ : ∃ x, x = (cs.getD k Cel.none).2.2.length := ⟨_, rfl⟩
      rw [← e0] at h0
      rw [← e1] at h1
      rw [← em] at h2 hmk
      have HE0 : Hid _ := e0
      have HE1 : Hid _ := e1
      have HS := toOp_any c0 c1 q m qc (cs.getD k Cel.none).2.2 wr em hmk h3
      clear e0 e1 em hcs h3 HC
      go_wp2_with fail
      refine HS.mono ?_
      rintro e w2 ⟨g, rfl, hown2, hb2⟩
      have HB2 : Hid (Below w.heap.size w w2) := Below.on HB.out hb2
      have HL2 : Hid (LaidO w2 w.heap.size k rs cs) := HR.out.below hb2
      have HO2 : Hid (OwnS w2 wr.heap.size (some ⟨g, 0, none⟩) m m (cs.getD k Cel.none).2.2) := hown2
      have hHw : w.heap.size < wr.heap.size := by
        rcases HR.out.2.1.2 with ⟨h', _⟩ | ⟨g', cap', cur, hv, hb', hg', _⟩
        · simp at h'
        · simp only [Value.slice.injEq, Option.some.injEq, Addr.mk.injEq, and_true, true_and] at hv
          rw [hv.1]; exact (Array.getElem?_eq_some_iff.1 hg').1
      have hge : wr.heap.size ≤ g := by
        rcases hown2.form with ⟨h, _⟩ | ⟨g', h', h1', _⟩
        · cases h
        · cases h'; exact h1'
      have HN : Hid (∀ i, i < k → (rs.getD i RC.zero).2.2.1 ≠ some ⟨g, 0, none⟩) := fun i hi e => by
        obtain ⟨g', e', _, h2'⟩ := HR.out.2.2.2.1 i hi
        rw [e] at e'
        simp only [Option.some.injEq, Addr.mk.injEq, and_true] at e'
        omega
      clear hown2 hb2
      obtain ⟨a0, a1, a2⟩ := flatO_at rs k (by have := HR.out.1; omega)
      have d0 := (HL2.out.2.1.cellAt (k * 3) (by omega)).trans a2
      have d1 := (HL2.out.2.1.cellAt (k * 3 + 1) (by omega)).trans a0
      have d2 := (HL2.out.2.1.cellAt (k * 3 + 2) (by omega)).trans a1
      have ff := HL2.out.2.1.frozenAt
      clear a0 a1 a2
      go_wp2
      go_roundw
      case rel => exact ⟨k + 1, _, by omega, by go_num, HL2.out.next hlt _ _ HE0.out HE1.out hHw HO2.out HN.out, ((HB2.out.setCell (p := ⟨_, _, none⟩) (Nat.le_refl _) _).setCell (p := ⟨_, _, none⟩) (Nat.le_refl _) _).setCell (p := ⟨_, _, none⟩) (Nat.le_refl _) _⟩
      case measure => simp [intOf]; omega
    · obtain rfl : k = cs.length := by omega
      clear HC
      go_wp2
      go_ret
      exact ⟨rfl, HR.out.own, HB.out⟩

end Go.Proofs.YtgonpnnlpkjkcaaGreatDoor

