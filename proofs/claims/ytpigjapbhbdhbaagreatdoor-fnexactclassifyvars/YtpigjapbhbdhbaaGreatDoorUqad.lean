/- Texts of Cell1, Cell2, Cell3, MarkC. Own work of the verifier. -/
import Derived.Test.YtpigjapbhbdhbaaGreatDoorUqac
import Derived.Test.YtpigjapbhbdhbaaGreatDoorUqab
import Derived.Deep.RegionWith
namespace Go.Proofs.YtpigjapbhbdhbaaGreatDoor
open Go Go.RowKit
set_option linter.unusedVariables false
def CAt (w : World) (b o : Nat) (c : Cel) : Prop :=
  ∃ p cap, w.cell? ⟨b, o, none⟩ = some (.int .i64 c.1) ∧ w.cell? ⟨b, o + 1, none⟩ = some (.int .i64 c.2.1) ∧ w.cell? ⟨b, o + 2, none⟩ = some (.slice p c.2.2.length cap) ∧ BIn w p c.2.2
def CIn (w : World) (p : Option Addr) (cs : List Cel) : Prop :=
  0 < cs.length → ∃ b o, p = some ⟨b, o, none⟩ ∧ ∀ i, i < cs.length → CAt w b (o + i * 3) (cs.getD i Cel.none)
theorem CAt.below {W W' : World} {b o : Nat} {c : Cel} (h : CAt W b o c) (hb : Below W.heap.size W W') : CAt W' b o c := by
  obtain ⟨p, cap, h0, h1, h2, h3⟩ := h
  exact ⟨p, cap, (hb.cell (World.block_lt_of_cell? _ _ h0)).trans h0, (hb.cell (World.block_lt_of_cell? _ _ h1)).trans h1, (hb.cell (World.block_lt_of_cell? _ _ h2)).trans h2, h3.below hb⟩
theorem CIn.below {W W' : World} {p : Option Addr} {cs : List Cel} (h : CIn W p cs) (hb : Below W.heap.size W W') : CIn W' p cs := fun hn => by
  obtain ⟨b, o, rfl, hc⟩ := h hn
  exact ⟨b, o, rfl, fun i hi => (hc i hi).below hb⟩
theorem CIn.drewN {W : World} {p : Option Addr} {cs : List Cel} (h : CIn W p cs) (m : Nat) : CIn (W.drewN m) p cs := h
theorem szCell_any (k n : Int) (p : Option Addr) (m cap L : Nat) (w : World) (hL : L ≤ 1048576) (hn : m ≤ 9223372036854775807) :
    Calls Tryz.prog 13 #[.agg #[.int .i64 k, .int .i64 n, .slice p m cap], .int .i64 L] w fun e w' => e = .returned (.int .i64 (szR L m)) ∧ Below w.heap.size w w' := by
  by_cases h : m ≤ L
  · have e : szR L m = (L : Int) - m := by simp [szR, h]
    have HS := fun w => szByteS_any p m cap L w hL hn
    rw [e] at HS ⊢
    have h0 : ¬ ((L : Int) - m < 0) := by omega
    go_enter Tryz.func13, Tryz.ntmps13
    go_wp2_with (go_at_call 22; refine (HS _).mono ?_; rintro e w' ⟨rfl, rfl⟩)
    go_ret
    exact ⟨rfl, (Below.refl _ _).alloc (Nat.le_refl _) _⟩
  · have e : szR L m = -1 := by simp [szR, h]
    have HS := fun w => szByteS_any p m cap L w hL hn
    rw [e] at HS ⊢
    go_enter Tryz.func13, Tryz.ntmps13
    go_wp2_with (go_at_call 22; refine (HS _).mono ?_; rintro e w' ⟨rfl, rfl⟩)
    go_ret
    exact ⟨rfl, (Below.refl _ _).alloc (Nat.le_refl _) _⟩
theorem szCellS_any (p : Option Addr) (cap : Nat) (cs : List Cel) (L : Nat) (w : World) (hL : L ≤ 1048576) (hn : cs.length ≤ 9223372036854775807) (hm : ∀ i, i < cs.length → (cs.getD i Cel.none).2.2.length ≤ 9223372036854775807) (hc : CIn w p cs) :
    Calls Tryz.prog 4 #[.slice p cs.length cap, .int .i64 L] w fun e w' => e = .returned (.int .i64 (szR L (cs.length + tl cs))) ∧ Below w.heap.size w w' := by
  by_cases h : cs.length ≤ L
  · have h0 : ¬ ((L : Int) - cs.length < 0) := by omega
    go_enter Tryz.func4, Tryz.ntmps4
    go_wp2
    have HL : Hid (cs.length ≤ L) := h
    clear h h0
    go_loopw [1, 5] (fun l i wr => ∃ k : Nat, k ≤ cs.length ∧ i = .int .i64 k ∧ Hid (cs.length + tl (cs.take k) ≤ L) ∧ l = .int .i64 ((L : Int) - (cs.length + tl (cs.take k) : Nat)) ∧ Below w.heap.size w wr) (fun _ i _ => cs.length - (intOf i).toNat)
    case atStart => exact ⟨0, Nat.zero_le _, rfl, by simpa [tl, Hid] using HL.out, by simp [tl], Below.refl _ _⟩
    case round =>
      obtain ⟨k, hk, rfl, HT, rfl, hbr⟩ := hrel
      by_cases hlt : k < cs.length
      · obtain ⟨b, o, rfl, hcs⟩ := hc (by omega)
        obtain ⟨q, qc, h0, h1, h2, _⟩ := (hcs k hlt).below hbr
        have hmk := hm k hlt
        have htk : Hid _ := tl_take cs k hlt
        have htl : Hid _ := tl_take_le cs (k + 1)
        obtain ⟨c0, e0⟩ : ∃ x, x = (cs.getD k Cel.none).1 := ⟨_, rfl⟩
        obtain ⟨c1, e1⟩ : ∃ x, x = (cs.getD k Cel.none).2.1 := ⟨_, rfl⟩
        obtain ⟨m, em⟩ : ∃ x, x = (cs.getD k Cel.none).2.2.length := ⟨_, rfl⟩
        rw [← e0] at h0
        rw [← e1] at h1
        rw [← em] at h2 hmk htk
        obtain ⟨L', eL⟩ : ∃ x, x = L - (cs.length + tl (cs.take k)) := ⟨_, rfl⟩
        have eL' : ((L : Int) - (cs.length + tl (cs.take k) : Nat)) = (L' : Int) := by have := HT.out; omega
        have hL' : L' ≤ 1048576 := by omega
        rw [eL']
        have HE : Hid (L' = L - (cs.length + tl (cs.take k))) := eL
        have HB : Hid (Below w.heap.size w wr) := hbr
        clear e0 e1 em eL eL' hcs hc hbr hm
        by_cases hfit : m ≤ L'
        · have e : szR L' m = (L' : Int) - m := by simp [szR, hfit]
          have HS := fun w => szCell_any c0 c1 q m qc L' w hL' hmk
          rw [e] at HS
          have h0' : ¬ ((L' : Int) - m < 0) := by omega
          go_wp2_with (go_at_call 13; refine (HS _).mono ?_; rintro e w' ⟨rfl, hb1⟩)
          go_roundw
          case rel => exact ⟨k + 1, by omega, by go_num, by have := HT.out; have := htk.out; have := HE.out; show _ ≤ _; omega, by have := HT.out; have := htk.out; have := HE.out; congr 1; omega, Below.on HB.out hb1⟩
          case measure => simp [intOf]; omega
        · have e : szR L' m = -1 := by simp [szR, hfit]
          have HS := fun w => szCell_any c0 c1 q m qc L' w hL' hmk
          rw [e] at HS
          go_wp2_with (go_at_call 13; refine (HS _).mono ?_; rintro e w' ⟨rfl, hb1⟩)
          go_ret
          refine ⟨ret_int ?_, Below.on HB.out hb1⟩
          have := HT.out; have := htk.out; have := HE.out; have := htl.out
          rw [szR, if_neg (by omega)]
      · obtain rfl : k = cs.length := by omega
        have HB : Hid (Below w.heap.size w wr) := hbr
        clear hbr hc hm
        rw [List.take_length] at *
        go_wp2
        go_ret
        exact ⟨ret_int (by rw [szR, if_pos HT.out]), HB.out⟩
  · have e : szR L (cs.length + tl cs) = -1 := by rw [szR, if_neg (by omega)]
    rw [e]
    have h0 : (L : Int) - cs.length < 0 := by omega
    clear hc hm
    go_enter Tryz.func4, Tryz.ntmps4
    go_wp2
    go_ret
    exact ⟨rfl, Below.refl _ _⟩
end Go.Proofs.YtpigjapbhbdhbaaGreatDoor

namespace Go.Proofs.YtpigjapbhbdhbaaGreatDoor
open Go Go.RowKit
set_option linter.unusedVariables false
theorem infoCell : (Tryz.prog.info? 42).map (fun i => (i.zero, i.size, i.bytes)) = some (some (.agg #[.int .i64 0, .int .i64 0, .slice none 0 0]), 3, 40) := by kernel_rfl
def rcV (r : RC) : List Value := [.int .i64 r.1, .int .i64 r.2.1, .slice r.2.2.1 r.2.2.2.1 r.2.2.2.2]
def flat (rs : List RC) : List Value := rs.flatMap rcV
theorem flat_cons (r : RC) (rs : List RC) : flat (r :: rs) = .int .i64 r.1 :: .int .i64 r.2.1 :: .slice r.2.2.1 r.2.2.2.1 r.2.2.2.2 :: flat rs := rfl
theorem flat_append (a b : List RC) : flat (a ++ b) = flat a ++ flat b := List.flatMap_append
theorem flat_len : ∀ rs : List RC, (flat rs).length = rs.length * 3
  | [] => rfl
  | r :: rs => by simp only [flat_cons, List.length_cons, flat_len rs]; omega
theorem flat_at : ∀ (rs : List RC) (i : Nat), i < rs.length → (flat rs)[i * 3]? = some (.int .i64 (rs.getD i RC.zero).1) ∧ (flat rs)[i * 3 + 1]? = some (.int .i64 (rs.getD i RC.zero).2.1) ∧
    (flat rs)[i * 3 + 2]? = some (.slice (rs.getD i RC.zero).2.2.1 (rs.getD i RC.zero).2.2.2.1 (rs.getD i RC.zero).2.2.2.2)
  | [], i, h => by simp at h
  | r :: rs, 0, _ => by simp [flat_cons]
  | r :: rs, i + 1, h => by
    have := flat_at rs i (by simpa using h)
    rw [flat_cons, show (i + 1) * 3 = (i * 3) + 1 + 1 + 1 by omega, show (i * 3) + 1 + 1 + 1 + 1 = (i * 3 + 1) + 1 + 1 + 1 by omega, show (i * 3) + 1 + 1 + 1 + 2 = (i * 3 + 2) + 1 + 1 + 1 by omega]
    simpa using this
theorem flat_set : ∀ (rs : List RC) (i : Nat) (r : RC), i < rs.length → (((flat rs).set (i * 3) (.int .i64 r.1)).set (i * 3 + 1) (.int .i64 r.2.1)).set (i * 3 + 2) (.slice r.2.2.1 r.2.2.2.1 r.2.2.2.2) = flat (rs.set i r)
  | [], i, r, h => by simp at h
  | a :: rs, 0, r, _ => by simp [flat_cons]
  | a :: rs, i + 1, r, h => by
    have := flat_set rs i r (by simpa using h)
    rw [flat_cons, show (i + 1) * 3 = (i * 3) + 1 + 1 + 1 by omega, show (i * 3) + 1 + 1 + 1 + 1 = (i * 3 + 1) + 1 + 1 + 1 by omega, show (i * 3) + 1 + 1 + 1 + 2 = (i * 3 + 2) + 1 + 1 + 1 by omega]
    simp only [List.set_cons_succ, this]
    rfl
theorem made_flat (n : Nat) : (madeCells #[.int .i64 0, .int .i64 0, .slice none 0 0] (n * 3)).toList = flat (List.replicate n RC.zero) := by
  apply List.ext_getElem?
  intro j
  by_cases hj : j < n * 3
  · have h := flat_at (List.replicate n RC.zero) (j / 3) (by simp; omega)
    have hz : (List.replicate n RC.zero).getD (j / 3) RC.zero = RC.zero := by simp [List.getD, List.getElem?_replicate]; split <;> rfl
    rw [hz] at h
    obtain ⟨h0, h1, h2⟩ := h
    have h3 : j % 3 = 0 ∨ j % 3 = 1 ∨ j % 3 = 2 := by omega
    rcases h3 with h3 | h3 | h3
    · rw [show j / 3 * 3 = j by omega] at h0
      rw [h0]; simp [madeCells, hj, h3, RC.zero]
    · rw [show j / 3 * 3 + 1 = j by omega] at h1
      rw [h1]; simp [madeCells, hj, h3, RC.zero]
    · rw [show j / 3 * 3 + 2 = j by omega] at h2
      rw [h2]; simp [madeCells, hj, h3, RC.zero]
  · rw [List.getElem?_eq_none (l := flat _) (by rw [flat_len]; simp; omega), List.getElem?_eq_none (by rw [Array.length_toList, size_madeCells]; omega)]
def OwnC (w : World) (B : Nat) (p : Option Addr) (n c : Nat) (cs : List Cel) : Prop :=
  n = cs.length ∧ ∃ rs : List RC, rs.length = cs.length ∧ w.ownsRow B 42 3 (.slice p n c) n (flat rs) ∧ (∀ i, i < cs.length → Fits w B (rs.getD i RC.zero) (cs.getD i Cel.none)) ∧ ApartC p rs
theorem OwnC.nil (w : World) (B : Nat) : OwnC w B none 0 0 [] := ⟨rfl, [], rfl, World.ownsRow_nil _ _ _ _, fun i h => by simp at h, fun i h => by simp at h, fun i j h => by simp at h⟩
theorem OwnC.cin {w : World} {B : Nat} {p : Option Addr} {n c : Nat} {cs : List Cel} (h : OwnC w B p n c cs) : CIn w p cs := fun hn => by
  obtain ⟨rfl, rs, hl, hr, hf, _⟩ := h
  obtain ⟨g, cap, hv, hb, hg⟩ := hr.form hn
  simp only [Value.slice.injEq, true_and] at hv
  obtain ⟨rfl, rfl⟩ := hv
  refine ⟨g, 0, rfl, fun i hi => ?_⟩
  obtain ⟨f0, f1, f2⟩ := hf i hi
  obtain ⟨a0, a1, a2⟩ := flat_at rs i (by omega)
  rw [Nat.zero_add]
  refine ⟨(rs.getD i RC.zero).2.2.1, (rs.getD i RC.zero).2.2.2.2, ?_, ?_, ?_, f2.bin⟩
  · rw [hr.cellAt _ (by omega), a0, f0]
  · rw [hr.cellAt _ (by omega), a1, f1]
  · rw [hr.cellAt _ (by omega), a2, f2.len]
theorem OwnC.below {w w' : World} {B : Nat} {p : Option Addr} {n c : Nat} {cs : List Cel} (h : OwnC w B p n c cs) (hb : Below w.heap.size w w') : OwnC w' B p n c cs := by
  obtain ⟨rfl, rs, hl, hr, hf, ha⟩ := h
  refine ⟨rfl, rs, hl, ⟨hr.1, ?_⟩, fun i hi => ⟨(hf i hi).1, (hf i hi).2.1, (hf i hi).2.2.below hb⟩, ha⟩
  rcases hr.2 with h' | ⟨g, cap, cur, hv, hB, hg, r⟩
  · exact .inl h'
  · exact .inr ⟨g, cap, cur, hv, hB, (hb.block g (Array.getElem?_eq_some_iff.1 hg).1).trans hg, r⟩
theorem OwnC.mono {w : World} {B B' : Nat} {p : Option Addr} {n c : Nat} {cs : List Cel} (h : OwnC w B p n c cs) (hB : B' ≤ B) : OwnC w B' p n c cs := by
  obtain ⟨hn, rs, hl, hr, hf, ha⟩ := h
  exact ⟨hn, rs, hl, ownsRow_down hr hB, fun i hi => ⟨(hf i hi).1, (hf i hi).2.1, (hf i hi).2.2.mono hB⟩, ha⟩
theorem toCell_any (k n : Int) (p : Option Addr) (m cap : Nat) (xs : List Int) (w : World) (hl : m = xs.length) (hn : m ≤ 1048576) (hin : BIn w p xs) :
    Calls Tryz.prog 16 #[.agg #[.int .i64 k, .int .i64 n, .slice p m cap]] w fun e w' => ∃ g, e = .returned (.agg #[.int .i64 k, .int .i64 n, .slice (some ⟨g, 0, none⟩) m m]) ∧ OwnS w' w.heap.size (some ⟨g, 0, none⟩) m m xs ∧ Below w.heap.size w w' := by
  have HI : Hid (BIn w p xs) := hin
  subst hl
  clear hin
  go_enter Tryz.func16, Tryz.ntmps16
  go_wp2_with fail
  have hb0 : Below w.heap.size w (((w.alloc (Obj.cells #[Value.int IntKind.i64 k, Value.int IntKind.i64 n, Value.slice p xs.length cap] 37)).alloc
          (Obj.cells #[Value.int IntKind.i64 0, Value.int IntKind.i64 0, Value.slice none 0 0] 42)).alloc
      (Obj.cells #[Value.int IntKind.i64 k, Value.int IntKind.i64 n, Value.slice none 0 0] 42)) :=
    (((Below.refl _ _).alloc (Nat.le_refl _) _).alloc (by simp) _).alloc (by simp; omega) _
  refine (toByteS_any p cap xs _ hn (HI.out.below hb0)).mono ?_
  rintro e w1 ⟨rfl, hown, hb1⟩
  have b1 : Box3 w1 (w.heap.size + 1) (.int .i64 0) (.int .i64 0) (.slice none 0 0) := Box3.of_block (t := 42) ((hb1.block _ (by simp)).trans (heap_three w _ _ _).1)
  have b2 : Box3 w1 (w.heap.size + 1 + 1) (.int .i64 k) (.int .i64 n) (.slice none 0 0) := Box3.of_block (t := 42) ((hb1.block _ (by simp)).trans (heap_three w _ _ _).2)
  have HO : Hid (OwnS w1 (w.heap.size + 1 + 1 + 1) (some ⟨w.heap.size + 1 + 1 + 1, 0, none⟩) xs.length xs.length xs) := by
    have := OwnS.of_row hown
    simp at this
    exact this
  have HB : Hid (Below w.heap.size w w1) := Below.on hb0 hb1
  obtain ⟨c10, c11, c12, f1⟩ := b1
  obtain ⟨c20, c21, c22, f2⟩ := b2
  clear hown hb1 hb0
  have D := box3_set (w := w1.setCell ⟨w.heap.size + 1 + 1, 2, none⟩ (Value.slice (some ⟨w.heap.size + 1 + 1 + 1, 0, none⟩) xs.length xs.length)) (b := w.heap.size + 1) ((World.cell?_setCell_other _ _ _ _ (by simp)).trans c10) ((World.cell?_setCell_other _ _ _ _ (by simp)).trans c11) ((World.cell?_setCell_other _ _ _ _ (by simp)).trans c12)
    (Value.int IntKind.i64 k) (Value.int IntKind.i64 n) (Value.slice (some ⟨w.heap.size + 1 + 1 + 1, 0, none⟩) xs.length xs.length)
  have HD : Hid _ := D
  clear D
  go_wp2
  obtain ⟨d0, d1, d2⟩ := HD.out
  refine bodyPost_ret (v := .agg #[.int .i64 k, .int .i64 n, .slice (some ⟨w.heap.size + 1 + 1 + 1, 0, none⟩) xs.length xs.length]) (by simp [results, Tryz.results16, go_sem, d0, d1, d2]) rfl ⟨_, rfl, ?_, ?_⟩
  · have h := (((HO.out.setCell (a := ⟨w.heap.size + 1 + 1, 2, none⟩) (by simp) (Value.slice (some ⟨w.heap.size + 1 + 1 + 1, 0, none⟩) xs.length xs.length)).setCell (a := ⟨w.heap.size + 1, 0, none⟩) (by simp) (Value.int IntKind.i64 k)).setCell (a := ⟨w.heap.size + 1, 1, none⟩) (by simp) (Value.int IntKind.i64 n)).setCell (a := ⟨w.heap.size + 1, 2, none⟩) (by simp) (Value.slice (some ⟨w.heap.size + 1 + 1 + 1, 0, none⟩) xs.length xs.length)
    exact h.mono (by omega)
  · exact (((HB.out.setCell (p := ⟨_, _, none⟩) (by simp; omega) _).setCell (p := ⟨_, _, none⟩) (by simp) _).setCell (p := ⟨_, _, none⟩) (by simp) _).setCell (p := ⟨_, _, none⟩) (by simp) _
def Laid (w : World) (H k : Nat) (rs : List RC) (cs : List Cel) : Prop :=
  rs.length = cs.length ∧ w.ownsRow H 42 3 (.slice (some ⟨H, 0, none⟩) cs.length cs.length) cs.length (flat rs) ∧ (∀ i, i < k → Fits w H (rs.getD i RC.zero) (cs.getD i Cel.none)) ∧
  (∀ i, i < k → ∃ g, (rs.getD i RC.zero).2.2.1 = some ⟨g, 0, none⟩ ∧ H < g ∧ g < w.heap.size) ∧ (∀ i j, i < k → j < k → i ≠ j → (rs.getD i RC.zero).2.2.1 ≠ (rs.getD j RC.zero).2.2.1)
theorem Laid.below {w w' : World} {H k : Nat} {rs : List RC} {cs : List Cel} (h : Laid w H k rs cs) (hb : Below w.heap.size w w') : Laid w' H k rs cs := by
  obtain ⟨hl, hr, hf, hg, ha⟩ := h
  refine ⟨hl, ⟨hr.1, ?_⟩, fun i hi => ⟨(hf i hi).1, (hf i hi).2.1, (hf i hi).2.2.below hb⟩, fun i hi => ?_, ha⟩
  · rcases hr.2 with h' | ⟨g, cap, cur, hv, hB, hg, r⟩
    · exact .inl h'
    · exact .inr ⟨g, cap, cur, hv, hB, (hb.block g (Array.getElem?_eq_some_iff.1 hg).1).trans hg, r⟩
  · obtain ⟨g, e, h1, h2⟩ := hg i hi
    exact ⟨g, e, h1, Nat.lt_of_lt_of_le h2 hb.size⟩
theorem Laid.next {w : World} {H k g m B : Nat} {rs : List RC} {cs : List Cel} (h : Laid w H k rs cs) (hk : k < cs.length) (a b : Int) (ea : a = (cs.getD k Cel.none).1) (eb : b = (cs.getD k Cel.none).2.1) (hB : H < B)
    (ho : OwnS w B (some ⟨g, 0, none⟩) m m (cs.getD k Cel.none).2.2) (hnew : ∀ i, i < k → (rs.getD i RC.zero).2.2.1 ≠ some ⟨g, 0, none⟩) :
    Laid (((w.setCell ⟨H, k * 3, none⟩ (.int .i64 a)).setCell ⟨H, k * 3 + 1, none⟩ (.int .i64 b)).setCell ⟨H, k * 3 + 2, none⟩ (.slice (some ⟨g, 0, none⟩) m m)) H (k + 1) (rs.set k (a, b, some ⟨g, 0, none⟩, m, m)) cs := by
  obtain ⟨hl, hr, hf, hg, ha⟩ := h
  have hgB : B ≤ g ∧ g < w.heap.size := by
    rcases ho.form with ⟨h, _⟩ | ⟨g', h', h1, h2⟩
    · cases h
    · cases h'; exact ⟨h1, h2⟩
  refine ⟨by simpa using hl, ?_, fun i hi => ?_, fun i hi => ?_, fun i j hi hj hij => ?_⟩
  · have h1 := (((hr.stored (k * 3) (.int .i64 a)).1.stored (k * 3 + 1) (.int .i64 b)).1.stored (k * 3 + 2) (.slice (some ⟨g, 0, none⟩) m m)).1
    rwa [flat_set rs k (a, b, some ⟨g, 0, none⟩, m, m) (by omega)] at h1
  · rw [rs_set_at _ _ _ _ (by omega)]
    by_cases e : i = k
    · subst e
      rw [if_pos rfl]
      exact ⟨ea, eb, (((ho.toT.setCell (ne_block (H := H) (by omega)) _).setCell (ne_block (H := H) (by omega)) _).setCell (ne_block (H := H) (by omega)) _).mono (by omega)⟩
    · rw [if_neg e]
      obtain ⟨f0, f1, f2⟩ := hf i (by omega)
      obtain ⟨g', e', h1, h2⟩ := hg i (by omega)
      rw [e'] at f2
      rw [Fits, e']
      exact ⟨f0, f1, ((f2.setCell (ne_block (H := H) (by omega)) _).setCell (ne_block (H := H) (by omega)) _).setCell (ne_block (H := H) (by omega)) _⟩
  · rw [rs_set_at _ _ _ _ (by omega)]
    by_cases e : i = k
    · subst e
      rw [if_pos rfl]
      exact ⟨g, rfl, by omega, by simpa using hgB.2⟩
    · rw [if_neg e]
      obtain ⟨g', e', h1, h2⟩ := hg i (by omega)
      exact ⟨g', e', h1, by simpa using h2⟩
  · rw [rs_set_at _ _ _ _ (by omega), rs_set_at _ _ _ _ (by omega)]
    by_cases e : i = k
    · rw [if_pos e, if_neg (by omega)]
      exact fun x => hnew j (by omega) x.symm
    · by_cases e' : j = k
      · rw [if_neg e, if_pos e']
        exact hnew i (by omega)
      · rw [if_neg e, if_neg e']
        exact ha i j (by omega) (by omega) hij
theorem Laid.own {w : World} {H : Nat} {rs : List RC} {cs : List Cel} (h : Laid w H cs.length rs cs) : OwnC w H (some ⟨H, 0, none⟩) cs.length cs.length cs := by
  obtain ⟨hl, hr, hf, hg, ha⟩ := h
  refine ⟨rfl, rs, hl, hr, hf, fun i hi _ e => ?_, fun i j hi hj hij _ _ => ha i j (by omega) (by omega) hij⟩
  obtain ⟨g, e', h1, _⟩ := hg i (by omega)
  rw [e] at e'
  simp only [Option.some.injEq, Addr.mk.injEq, and_true] at e'
  omega
theorem toCellS_any (p : Option Addr) (cap : Nat) (cs : List Cel) (w : World) (hn : cs.length + tl cs ≤ 1048576) (hc : CIn w p cs) :
    Calls Tryz.prog 6 #[.slice p cs.length cap] w fun e w' => e = .returned (.slice (some ⟨w.heap.size, 0, none⟩) cs.length cs.length) ∧ OwnC w' w.heap.size (some ⟨w.heap.size, 0, none⟩) cs.length cs.length cs ∧ Below w.heap.size w w' := by
  obtain ⟨i0, hi, hz0, hz1, hz2⟩ := info_parts infoCell
  have hmx : cs.length ≤ maxLen := by unfold maxLen; omega
  have HC : Hid (CIn w p cs) := hc
  clear hc
  go_enter Tryz.func6, Tryz.ntmps6
  go_wp2_with (at_make; refine wpList_make_full _ rfl _ _ 27 rfl w.heap.size 42 i0 (.agg #[.int .i64 0, .int .i64 0, .slice none 0 0]) 3 Tryz.underlying27 hi hz0 hz1 _ _ _ _ cs.length rfl rfl rfl rfl (by rw [hz2]; omega) hmx (Nat.le_refl _) ?_; intro w1 hown hgrow)
  have HB1 : Hid (Below w.heap.size w w1) := (Below.refl _ _).grown hgrow (Nat.le_refl _) (fun k h => by cases h)
  have HO : Hid (Laid w1 w.heap.size 0 (List.replicate cs.length RC.zero) cs) := ⟨by simp, by
    have := hown
    rw [show (Value.agg #[.int .i64 0, .int .i64 0, .slice none 0 0]).cells = #[.int .i64 0, .int .i64 0, .slice none 0 0] from rfl, made_flat] at this
    exact this, fun i h => by omega, fun i h => by omega, fun i j h => by omega⟩
  clear hown hgrow
  go_loopw [4] (fun i wr => ∃ k rs, k ≤ cs.length ∧ i = .int .i64 k ∧ Hid (Laid wr w.heap.size k rs cs) ∧ Hid (Below w.heap.size w wr)) (fun i _ => cs.length - (intOf i).toNat)
  case atStart => exact ⟨0, _, Nat.zero_le _, rfl, HO, HB1⟩
  case round =>
    obtain ⟨k, rs, hk, rfl, HR, HB⟩ := hrel
    by_cases hlt : k < cs.length
    · obtain ⟨b, o, rfl, hcs⟩ := HC.out (by omega)
      obtain ⟨q, qc, h0, h1, h2, h3⟩ := (hcs k hlt).below HB.out
      have hmk : (cs.getD k Cel.none).2.2.length ≤ 1048576 := by have := tl_at cs k hlt; omega
      obtain ⟨c0, e0⟩ : ∃ x, x = (cs.getD k Cel.none).1 := ⟨_, rfl⟩
      obtain ⟨c1, e1⟩ : ∃ x, x = (cs.getD k Cel.none).2.1 := ⟨_, rfl⟩
      obtain ⟨m, em⟩ : ∃ x, x = (cs.getD k Cel.none).2.2.length := ⟨_, rfl⟩
      rw [← e0] at h0
      rw [← e1] at h1
      rw [← em] at h2 hmk
      have HE0 : Hid _ := e0
      have HE1 : Hid _ := e1
      have HS := toCell_any c0 c1 q m qc (cs.getD k Cel.none).2.2 wr em hmk h3
      clear e0 e1 em hcs h3 HC
      go_wp2_with fail
      refine HS.mono ?_
      rintro e w2 ⟨g, rfl, hown2, hb2⟩
      have HB2 : Hid (Below w.heap.size w w2) := Below.on HB.out hb2
      have HL2 : Hid (Laid w2 w.heap.size k rs cs) := HR.out.below hb2
      have HO2 : Hid (OwnS w2 wr.heap.size (some ⟨g, 0, none⟩) m m (cs.getD k Cel.none).2.2) := hown2
      have hHw : w.heap.size < wr.heap.size := by
        rcases HR.out.2.1.2 with ⟨h', _⟩ | ⟨g', cap', cur, hv, hb', hg', _⟩
        · simp at h'
        · simp only [Value.slice.injEq, Option.some.injEq, Addr.mk.injEq, and_true, true_and] at hv
          rw [hv.1]; exact (Array.getElem?_eq_some_iff.1 hg').1
      have hge : wr.heap.size ≤ g := by
        rcases hown2.form with ⟨h, _⟩ | ⟨g', h', h1', _⟩
        · cases h
        · cases h'; exact h1'
      have HN : Hid (∀ i, i < k → (rs.getD i RC.zero).2.2.1 ≠ some ⟨g, 0, none⟩) := fun i hi e => by
        obtain ⟨g', e', _, h2'⟩ := HR.out.2.2.2.1 i hi
        rw [e] at e'
        simp only [Option.some.injEq, Addr.mk.injEq, and_true] at e'
        omega
      clear hown2 hb2
      obtain ⟨a0, a1, a2⟩ := flat_at rs k (by have := HR.out.1; omega)
      have d0 := (HL2.out.2.1.cellAt (k * 3) (by omega)).trans a0
      have d1 := (HL2.out.2.1.cellAt (k * 3 + 1) (by omega)).trans a1
      have d2 := (HL2.out.2.1.cellAt (k * 3 + 2) (by omega)).trans a2
      have ff := HL2.out.2.1.frozenAt
      clear a0 a1 a2
      go_wp2
      go_roundw
      case rel => exact ⟨k + 1, _, by omega, by go_num, HL2.out.next hlt _ _ HE0.out HE1.out hHw HO2.out HN.out, ((HB2.out.setCell (p := ⟨_, _, none⟩) (Nat.le_refl _) _).setCell (p := ⟨_, _, none⟩) (Nat.le_refl _) _).setCell (p := ⟨_, _, none⟩) (Nat.le_refl _) _⟩
      case measure => simp [intOf]; omega
    · obtain rfl : k = cs.length := by omega
      clear HC
      go_wp2
      go_ret
      exact ⟨rfl, HR.out.own, HB.out⟩
end Go.Proofs.YtpigjapbhbdhbaaGreatDoor

namespace Go.Proofs.YtpigjapbhbdhbaaGreatDoor
open Go Go.RowKit
set_option linter.unusedVariables false
theorem eqCell_any (k1 n1 k2 n2 : Int) (p q : Option Addr) (m1 m2 c1 c2 : Nat) (xs ys : List Int) (w : World) (hl1 : m1 = xs.length) (hl2 : m2 = ys.length) (hn : m1 ≤ 1000000000) (hm : m2 ≤ 1000000000) (hx : BIn w p xs) (hy : BIn w q ys) :
    Calls Tryz.prog 20 #[.agg #[.int .i64 k1, .int .i64 n1, .slice p m1 c1], .agg #[.int .i64 k2, .int .i64 n2, .slice q m2 c2]] w fun e w' => e = .returned (.bool (decide (((k1, n1, xs) : Cel) = (k2, n2, ys)))) ∧ Below w.heap.size w w' := by
  subst hl1 hl2
  have HSS : Hid (∀ W, Below w.heap.size w W → Calls Tryz.prog 86 #[.slice p xs.length c1, .slice q ys.length c2] W fun e w' => e = .returned (.bool (decide (xs = ys))) ∧ ∃ n, w' = W.drewN n) := fun W hW => eqByteS_any p q c1 c2 xs ys W hn hm (hx.below hW) (hy.below hW)
  have hb0 : Below w.heap.size w ((w.alloc (Obj.cells #[Value.int IntKind.i64 k1, Value.int IntKind.i64 n1, Value.slice p xs.length c1] 42)).alloc (Obj.cells #[Value.int IntKind.i64 k2, Value.int IntKind.i64 n2, Value.slice q ys.length c2] 42)) := ((Below.refl _ _).alloc (Nat.le_refl _) _).alloc (by simp) _
  clear hx hy
  by_cases hk : k1 = k2
  · subst hk
    by_cases hnn : n1 = n2
    · subst hnn
      have HS := HSS.out _ hb0
      have HB : Hid _ := hb0
      clear hb0 HSS
      have hd : decide (((k1, n1, xs) : Cel) = (k1, n1, ys)) = decide (xs = ys) := by simp
      rw [hd]
      cases ht : decide (xs = ys)
      · rw [ht] at HS
        clear ht hd
        go_enter Tryz.func20, Tryz.ntmps20
        go_wp2_with (go_at_call 86; refine HS.mono ?_; rintro e w' ⟨rfl, m, rfl⟩)
        go_ret
        exact ⟨rfl, below_drewN HB.out _⟩
      · rw [ht] at HS
        clear ht hd
        go_enter Tryz.func20, Tryz.ntmps20
        go_wp2_with (go_at_call 86; refine HS.mono ?_; rintro e w' ⟨rfl, m, rfl⟩)
        go_ret
        exact ⟨rfl, below_drewN HB.out _⟩
    · have hd : decide (((k1, n1, xs) : Cel) = (k1, n2, ys)) = false := by simp [hnn]
      rw [hd]
      have HB : Hid _ := hb0
      clear hd HSS hb0
      have hnn' : (n1 != n2) = true := by simpa using hnn
      go_enter Tryz.func20, Tryz.ntmps20
      go_wp2
      go_ret
      exact ⟨rfl, HB.out⟩
  · have hd : decide (((k1, n1, xs) : Cel) = (k2, n2, ys)) = false := by simp [hk]
    rw [hd]
    have HB : Hid _ := hb0
    clear hd HSS hb0
    have hk' : (k1 != k2) = true := by simpa using hk
    go_enter Tryz.func20, Tryz.ntmps20
    go_wp2
    go_ret
    exact ⟨rfl, HB.out⟩
theorem eqCellS_any (p q : Option Addr) (c1 c2 : Nat) (xs ys : List Cel) (w : World) (hn : xs.length + tl xs ≤ 1000000000) (hm : ys.length + tl ys ≤ 1000000000) (hx : CIn w p xs) (hy : CIn w q ys) :
    Calls Tryz.prog 9 #[.slice p xs.length c1, .slice q ys.length c2] w fun e w' => e = .returned (.bool (decide (xs = ys))) ∧ Below w.heap.size w w' := by
  have HX : Hid (CIn w p xs) := hx
  have HY : Hid (CIn w q ys) := hy
  clear hx hy
  by_cases hl : xs.length = ys.length
  · have HL : Hid (xs.length = ys.length) := hl
    obtain ⟨n, en⟩ : ∃ n, ys.length = n := ⟨_, rfl⟩
    rw [hl]
    rw [hl] at hn
    rw [en] at hn hm hl ⊢
    have HE : Hid (ys.length = n) := en
    clear hl en
    go_enter Tryz.func9, Tryz.ntmps9
    go_wp2
    go_loopw [5] (fun i wr => ∃ k : Nat, k ≤ n ∧ i = .int .i64 k ∧ Hid (Below w.heap.size w wr) ∧ Hid (∀ j, j < k → xs.getD j Cel.none = ys.getD j Cel.none)) (fun i _ => n - (intOf i).toNat)
    case atStart => exact ⟨0, Nat.zero_le _, rfl, Below.refl _ _, fun _ h => absurd h (Nat.not_lt_zero _)⟩
    case round =>
      obtain ⟨k, hk, rfl, HB, HN⟩ := hrel
      by_cases hlt : k < n
      · have hkx : k < xs.length := by rw [HL.out, HE.out]; exact hlt
        have hky : k < ys.length := by rw [HE.out]; exact hlt
        obtain ⟨b, o, rfl, hcx⟩ := HX.out (by omega)
        obtain ⟨b', o', rfl, hcy⟩ := HY.out (by omega)
        obtain ⟨px, qx, x0, x1, x2, x3⟩ := (hcx k hkx).below HB.out
        obtain ⟨py, qy, y0, y1, y2, y3⟩ := (hcy k hky).below HB.out
        have bx := tl_at xs k hkx
        have bY := tl_at ys k hky
        have HEQ : Hid (decide (((xs.getD k Cel.none).1, (xs.getD k Cel.none).2.1, (xs.getD k Cel.none).2.2) = (((ys.getD k Cel.none).1, (ys.getD k Cel.none).2.1, (ys.getD k Cel.none).2.2) : Cel)) = decide (xs.getD k Cel.none = ys.getD k Cel.none)) := rfl
        obtain ⟨a0, ea0⟩ : ∃ x, x = (xs.getD k Cel.none).1 := ⟨_, rfl⟩
        obtain ⟨a1, ea1⟩ : ∃ x, x = (xs.getD k Cel.none).2.1 := ⟨_, rfl⟩
        obtain ⟨am, eam⟩ : ∃ x, x = (xs.getD k Cel.none).2.2.length := ⟨_, rfl⟩
        obtain ⟨e0, ee0⟩ : ∃ x, x = (ys.getD k Cel.none).1 := ⟨_, rfl⟩
        obtain ⟨e1, ee1⟩ : ∃ x, x = (ys.getD k Cel.none).2.1 := ⟨_, rfl⟩
        obtain ⟨em, eem⟩ : ∃ x, x = (ys.getD k Cel.none).2.2.length := ⟨_, rfl⟩
        have HS : Hid (∀ W, Below wr.heap.size wr W → Calls Tryz.prog 20 #[.agg #[.int .i64 a0, .int .i64 a1, .slice px am qx], .agg #[.int .i64 e0, .int .i64 e1, .slice py em qy]] W fun e w' => e = .returned (.bool (decide (xs.getD k Cel.none = ys.getD k Cel.none))) ∧ Below W.heap.size W w') := fun W hW => by
          have := eqCell_any a0 a1 e0 e1 px py am em qx qy _ _ W eam eem (by omega) (by omega) (x3.below hW) (y3.below hW)
          rwa [ea0, ea1, ee0, ee1, HEQ.out, ← ea0, ← ea1, ← ee0, ← ee1] at this
        rw [← ea0] at x0
        rw [← ea1] at x1
        rw [← eam] at x2
        rw [← ee0] at y0
        rw [← ee1] at y1
        rw [← eem] at y2
        clear ea0 ea1 eam ee0 ee1 eem HEQ x3 y3 hcx hcy HX HY bx bY hkx hky
        cases ht : decide (xs.getD k Cel.none = ys.getD k Cel.none)
        · rw [ht] at HS
          have HT : Hid _ := ht
          clear ht
          go_wp2
          go_region_with (go_at_call 20; refine (HS.out _ (Below.refl _ _).drew).mono ?_; rintro e w2 ⟨rfl, hb2⟩)
          all_goals go_wp2
          all_goals go_ret
          all_goals exact ⟨ret_bool (by
            symm; rw [decide_eq_false_iff_not]; intro e
            have := HT.out
            rw [decide_eq_false_iff_not] at this
            exact this (by rw [e])), Below.on HB.out ((Below.refl _ _).drew.trans hb2)⟩
        · rw [ht] at HS
          have HT : Hid _ := ht
          clear ht
          go_wp2
          go_region_with (go_at_call 20; refine (HS.out _ (Below.refl _ _).drew).mono ?_; rintro e w2 ⟨rfl, hb2⟩)
          all_goals go_wp2
          all_goals go_roundw
          all_goals first
            | (simp [intOf]; omega)
            | exact ⟨k + 1, by omega, by go_num, Below.on HB.out ((Below.refl _ _).drew.trans hb2), fun j hj => by
                by_cases e : j = k
                · subst e; exact of_decide_eq_true HT.out
                · exact HN.out j (by omega)⟩
      · obtain rfl : k = n := by omega
        go_wp2
        go_ret
        exact ⟨ret_bool (by symm; rw [decide_eq_true_iff]; exact same_cells HL.out (by rw [HL.out, HE.out]; exact HN.out)), HB.out⟩
  · have hne : ¬ ((xs.length : Int) = (ys.length : Int)) := by omega
    have e : decide (xs = ys) = false := by rw [decide_eq_false_iff_not]; intro e; exact hl (by rw [e])
    rw [e]
    clear e
    go_enter Tryz.func9, Tryz.ntmps9
    go_wp2
    go_ret
    exact ⟨rfl, Below.refl _ _⟩
end Go.Proofs.YtpigjapbhbdhbaaGreatDoor

namespace Go.Proofs.YtpigjapbhbdhbaaGreatDoor
open Go Go.RowKit
set_option linter.unusedVariables false
def OwnCU (w : World) (B U : Nat) (p : Option Addr) (n c : Nat) (cs : List Cel) : Prop :=
  n = cs.length ∧ ∃ rs : List RC, rs.length = cs.length ∧ w.ownsRow B 42 3 (.slice p n c) n (flat rs) ∧ (∀ i, i < cs.length → Fits w B (rs.getD i RC.zero) (cs.getD i Cel.none)) ∧ ApartC p rs ∧
    (∀ k, Value.ownBlock (.slice p n c) = some k → k < U) ∧ (∀ i, i < cs.length → ∀ k, tb (rs.getD i RC.zero).2.2.1 (rs.getD i RC.zero).2.2.2.1 = some k → k < U)
theorem OwnCU.toC {w : World} {B U : Nat} {p : Option Addr} {n c : Nat} {cs : List Cel} (h : OwnCU w B U p n c cs) : OwnC w B p n c cs := by
  obtain ⟨hn, rs, hl, hr, hf, ha, _⟩ := h
  exact ⟨hn, rs, hl, hr, hf, ha⟩
theorem OwnC.up {w : World} {B : Nat} {p : Option Addr} {n c : Nat} {cs : List Cel} (h : OwnC w B p n c cs) : OwnCU w B w.heap.size p n c cs := by
  obtain ⟨hn, rs, hl, hr, hf, ha⟩ := h
  exact ⟨hn, rs, hl, hr, hf, ha, fun k hk => (hr.lt k hk).2, fun i hi k hk => ((hf i hi).2.2.tb hk).2.2⟩
theorem OwnCU.other {w w' : World} {B U : Nat} {p : Option Addr} {n c : Nat} {cs : List Cel} (h : OwnCU w B U p n c cs) (hs : w.heap.size ≤ w'.heap.size) (hb : ∀ k, k < w.heap.size → B ≤ k → k < U → w'.heap[k]? = w.heap[k]?) : OwnCU w' B U p n c cs := by
  obtain ⟨hn, rs, hl, hr, hf, ha, hu, ht⟩ := h
  refine ⟨hn, rs, hl, ⟨hr.1, ?_⟩, fun i hi => ⟨(hf i hi).1, (hf i hi).2.1, (hf i hi).2.2.other hs (fun g hn0 e => ?_)⟩, ha, hu, ht⟩
  · rcases hr.2 with h' | ⟨g, cap, cur, hv, hB, hg, r⟩
    · exact .inl h'
    · refine .inr ⟨g, cap, cur, hv, hB, (hb g (Array.getElem?_eq_some_iff.1 hg).1 hB (hu g ?_)).trans hg, r⟩
      simp only [Value.slice.injEq] at hv
      rw [hv.1]; rfl
  · have e' : Go.Proofs.YtpigjapbhbdhbaaGreatDoor.tb (rs.getD i RC.zero).2.2.1 (rs.getD i RC.zero).2.2.2.1 = some g := by rw [e]; exact tb_of hn0
    have := (hf i hi).2.2.tb e'
    exact hb g this.2.2 this.2.1 (ht i hi g e')
theorem OwnCU.below {w w' : World} {B U : Nat} {p : Option Addr} {n c : Nat} {cs : List Cel} (h : OwnCU w B U p n c cs) (hb : Below w.heap.size w w') : OwnCU w' B U p n c cs := h.other hb.size (fun k hk _ _ => hb.block k hk)
theorem OwnCU.keep {w w' : World} {B U B' U' : Nat} {p : Option Addr} {n c : Nat} {cs : List Cel} (h : OwnCU w B U p n c cs) (hk : Keep B' U' w w') (ho : U ≤ B' ∨ U' ≤ B) : OwnCU w' B U p n c cs := h.other hk.size (fun k h1 h2 h3 => hk.block k h1 (by omega))
def markedC (k : Int) (cs : List Cel) (j : Nat) : Cel := (kAt k cs j, kAt k cs j + 1, marks (kAt k cs j + 1 + 1) (cs.getD j Cel.none).2.2.length)
def mixC (k : Int) (cs : List Cel) (j : Nat) : List Cel := (List.range cs.length).map fun i => if i < j then markedC k cs i else cs.getD i Cel.none
theorem mixC_len (k : Int) (cs : List Cel) (j : Nat) : (mixC k cs j).length = cs.length := by simp [mixC]
theorem mixC_at (k : Int) (cs : List Cel) (j i : Nat) (h : i < cs.length) : (mixC k cs j).getD i Cel.none = if i < j then markedC k cs i else cs.getD i Cel.none := by
  simp [mixC, List.getD, h]
theorem mixC_zero (k : Int) (cs : List Cel) : mixC k cs 0 = cs := same_cells (mixC_len ..) (fun j hj => by rw [mixC_at _ _ _ _ (by rw [mixC_len] at hj; exact hj), if_neg (Nat.not_lt_zero _)])
theorem mixC_succ (k : Int) (cs : List Cel) (j : Nat) (h : j < cs.length) : mixC k cs (j + 1) = (mixC k cs j).set j (markedC k cs j) := same_cells (by simp [mixC]) (fun i hi => by
  rw [mixC_len] at hi
  rw [mixC_at _ _ _ _ hi, cs_set_at _ _ _ _ (by rw [mixC_len]; exact h)]
  by_cases e : i = j
  · subst e; rw [if_pos (by omega), if_pos rfl]
  · rw [if_neg e, mixC_at _ _ _ _ hi]
    by_cases e2 : i < j
    · rw [if_pos e2, if_pos (by omega)]
    · rw [if_neg e2, if_neg (by omega)])
theorem flat_set2 : ∀ (rs : List RC) (i : Nat) (a b : Int), i < rs.length → ((flat rs).set (i * 3) (.int .i64 a)).set (i * 3 + 1) (.int .i64 b) = flat (rs.set i (a, b, (rs.getD i RC.zero).2.2))
  | [], i, a, b, h => by simp at h
  | x :: rs, 0, a, b, _ => by simp [flat_cons]
  | x :: rs, i + 1, a, b, h => by
    have := flat_set2 rs i a b (by simpa using h)
    rw [flat_cons, show (i + 1) * 3 = (i * 3) + 1 + 1 + 1 by omega, show (i * 3) + 1 + 1 + 1 + 1 = (i * 3 + 1) + 1 + 1 + 1 by omega]
    simp only [List.set_cons_succ, this]
    rfl
theorem mark_one {w w3 : World} {B U g n c j : Nat} {ds : List Cel} {rs : List RC} (hn : n = ds.length) (hl : rs.length = ds.length) (hr : w.ownsRow B 42 3 (.slice (some ⟨g, 0, none⟩) n c) n (flat rs)) (hf : ∀ i, i < ds.length → Fits w B (rs.getD i RC.zero) (ds.getD i Cel.none))
    (ha : ApartC (some ⟨g, 0, none⟩) rs) (hu : g < U) (ht : ∀ i, i < ds.length → ∀ k, tb (rs.getD i RC.zero).2.2.1 (rs.getD i RC.zero).2.2.2.1 = some k → k < U) (hj : j < ds.length) (a b : Int) (ms : List Int)
    (ho : OwnT w3 B (rs.getD j RC.zero).2.2.1 (rs.getD j RC.zero).2.2.2.1 (rs.getD j RC.zero).2.2.2.2 ms)
    (hg : ((w.setCell ⟨g, j * 3, none⟩ (.int .i64 a)).setCell ⟨g, j * 3 + 1, none⟩ (.int .i64 b)).grownBy w3 (tb (rs.getD j RC.zero).2.2.1 (rs.getD j RC.zero).2.2.2.1)) :
    OwnCU w3 B U (some ⟨g, 0, none⟩) n c (ds.set j (a, b, ms)) ∧ Keep B U w w3 := by
  have hgB := (hr.lt g rfl)
  have h2 := ((hr.stored (j * 3) (.int .i64 a)).1.stored (j * 3 + 1) (.int .i64 b)).1
  rw [flat_set2 rs j a b (by omega)] at h2
  have hnrow : ∀ i, i < ds.length → tb (rs.getD i RC.zero).2.2.1 (rs.getD i RC.zero).2.2.2.1 ≠ some g := fun i hi e => by
    have h1 := (hf i hi).2.2.tb e
    exact ha.1 i (by omega) (tb_some e).1 h1.1
  have hat : ∀ i, ((rs.set j (a, b, (rs.getD j RC.zero).2.2)).getD i RC.zero).2.2 = (rs.getD i RC.zero).2.2 := fun i => by
    rw [rs_set_at _ _ _ _ (by omega)]
    by_cases e : i = j
    · rw [if_pos e, e]
    · rw [if_neg e]
  refine ⟨⟨by simpa using hn, rs.set j (a, b, (rs.getD j RC.zero).2.2), by simpa using hl, h2.kept hg (.inr (fun e => hnrow j hj e.symm)), fun i hi => ?_, ⟨fun i hi => ?_, fun i i' hi hi' hne => ?_⟩, fun k hk => ?_, fun i hi k hk => ?_⟩, ?_⟩
  · have hi' : i < ds.length := by simpa using hi
    rw [cs_set_at _ _ _ _ hj, rs_set_at _ _ _ _ (by omega)]
    by_cases e : i = j
    · rw [if_pos e, if_pos e]
      exact ⟨rfl, rfl, ho⟩
    · rw [if_neg e, if_neg e]
      obtain ⟨q0, q1, q2⟩ := hf i hi'
      refine ⟨q0, q1, ((q2.setCell (a := ⟨g, j * 3, none⟩) (fun hp e' => ha.1 i (by omega) hp e') _).setCell (a := ⟨g, j * 3 + 1, none⟩) (fun hp e' => ha.1 i (by omega) hp e') _).other hg.size (fun k hp e' => ?_)⟩
      have hk := (q2.tb (e' ▸ tb_of hp)).2.2
      refine hg.block k (by simpa using hk) (fun e2 => ?_)
      have h5 := (hf j hj).2.2.tb e2.symm
      exact ha.2 i j (by omega) (by omega) e hp (tb_some e2.symm).1 (by rw [e', h5.1])
  · rw [hat]; exact ha.1 i (by simpa using hi)
  · rw [hat, hat]; exact ha.2 i i' (by simpa using hi) (by simpa using hi') hne
  · have : k = g := (Option.some.inj hk).symm
    omega
  · rw [hat] at hk
    exact ht i (by simpa using hi) k hk
  · refine Keep.trans (Keep.trans (b := w.setCell ⟨g, j * 3, none⟩ (.int .i64 a)) ?_ ?_) (Keep.of_grown hg (fun k e => ⟨((hf j hj).2.2.tb e).2.1, ht j hj k e⟩))
    · exact ⟨rfl, rfl, rfl, by simp, fun k _ hp => Below.heap_setCell _ _ _ _ (show k ≠ g by omega)⟩
    · exact ⟨rfl, rfl, rfl, by simp, fun k _ hp => Below.heap_setCell _ _ _ _ (show k ≠ g by omega)⟩
def markC (k : Int) (cs : List Cel) : List Cel := mixC k cs cs.length
def endC (k : Int) (cs : List Cel) : Int := kAt k cs cs.length
theorem markCells_any (B U : Nat) (p : Option Addr) (n c : Nat) (k : Int) (cs : List Cel) (w : World) (h0 : 0 ≤ k) (h1 : k ≤ 10000000) (hn : cs.length + tl cs ≤ 100000000) (hown : OwnCU w B U p n c cs) :
    Calls Tryz.prog 10 #[.slice p n c, .int .i64 k] w fun e w' => e = .returned (.int .i64 (endC k cs)) ∧ OwnCU w' B U p n c (markC k cs) ∧ Keep B U w w' := by
  have hnl := hown.1
  have HO : Hid (OwnCU w B U p n c cs) := hown
  clear hown
  have HNL : Hid (n = cs.length) := hnl
  clear hnl
  go_enter Tryz.func10, Tryz.ntmps10
  go_wp2
  go_loopw [1, 5] (fun q i wr => ∃ (j : Nat) (kj : Int), j ≤ n ∧ 0 ≤ kj ∧ kj ≤ 1000000000 ∧ i = .int .i64 j ∧ q = .int .i64 kj ∧ Hid (kj = kAt k cs j) ∧ Hid (OwnCU wr B U p n c (mixC k cs j)) ∧ Hid (Keep B U w wr)) (fun _ i _ => n - (intOf i).toNat)
  case atStart => exact ⟨0, k, Nat.zero_le _, h0, by omega, rfl, rfl, (kAt_zero _ _).symm, by rw [mixC_zero]; exact HO, Keep.refl _ _ _⟩
  case round =>
    obtain ⟨j, kj, hj, hk0, hk1, rfl, rfl, HK, HR, HG⟩ := hrel
    by_cases hlt : j < n
    · obtain ⟨hn1, rs, hl, hr, hf, ha, hu, ht⟩ := HR.out
      obtain ⟨g, cap, hv, hbg, hgs⟩ := hr.form (by omega)
      simp only [Value.slice.injEq, true_and] at hv
      obtain ⟨rfl, rfl⟩ := hv
      have hjl : j < cs.length := by rw [← HNL.out]; exact hlt
      rw [mixC_len] at hl hf ht
      obtain ⟨a0, a1, a2⟩ := flat_at rs j (by omega)
      have d0 := (hr.cellAt (j * 3) (by omega)).trans a0
      have d1 := (hr.cellAt (j * 3 + 1) (by omega)).trans a1
      have d2 := (hr.cellAt (j * 3 + 2) (by omega)).trans a2
      have ff := hr.frozenAt
      obtain ⟨q0, q1, q2⟩ := hf j hjl
      have hlen : (rs.getD j RC.zero).2.2.2.1 = (cs.getD j Cel.none).2.2.length := by
        rw [q2.1, mixC_at _ _ _ _ hjl, if_neg (Nat.lt_irrefl j)]
      have htl := tl_at cs j hjl
      have hkb : kj + 1 + 1 ≤ 1000000000000 := by omega
      have HMARK := markT_any B (rs.getD j RC.zero).2.2.1 (rs.getD j RC.zero).2.2.2.1 (rs.getD j RC.zero).2.2.2.2 (kj + 1 + 1) _ _ (by omega) hkb (by omega) ((q2.setCell (a := ⟨g, j * 3, none⟩) (fun hp e' => ha.1 j (by omega) hp e') (.int .i64 kj)).setCell (a := ⟨g, j * 3 + 1, none⟩) (fun hp e' => ha.1 j (by omega) hp e') (.int .i64 (kj + 1)))
      have HONE : Hid (∀ w3 ms, OwnT w3 B (rs.getD j RC.zero).2.2.1 (rs.getD j RC.zero).2.2.2.1 (rs.getD j RC.zero).2.2.2.2 ms → ((wr.setCell ⟨g, j * 3, none⟩ (.int .i64 kj)).setCell ⟨g, j * 3 + 1, none⟩ (.int .i64 (kj + 1))).grownBy w3 (tb (rs.getD j RC.zero).2.2.1 (rs.getD j RC.zero).2.2.2.1) →
          OwnCU w3 B U (some ⟨g, 0, none⟩) n c ((mixC k cs j).set j (kj, kj + 1, ms)) ∧ Keep B U wr w3) := fun w3 ms h1 h2 => mark_one hn1 (by rw [mixC_len]; exact hl) hr (by rw [mixC_len]; exact hf) ha (hu g rfl) (by rw [mixC_len]; exact ht) (by rw [mixC_len]; exact hjl) kj (kj + 1) ms h1 h2
      have HS1 : Hid _ := kAt_succ k cs j hjl
      have HS2 : Hid _ := mixC_succ k cs j hjl
      have HLEN : Hid _ := hlen
      have hbound : kAt k cs (j + 1) ≤ 1000000000 := by have := tl_take_le cs (j + 1); simp only [kAt]; omega
      have HBD : Hid _ := hbound
      obtain ⟨tp, etp⟩ : ∃ x, x = (rs.getD j RC.zero).2.2.1 := ⟨_, rfl⟩
      obtain ⟨tn, etn⟩ : ∃ x, x = (rs.getD j RC.zero).2.2.2.1 := ⟨_, rfl⟩
      obtain ⟨tc, etc⟩ : ∃ x, x = (rs.getD j RC.zero).2.2.2.2 := ⟨_, rfl⟩
      rw [← etp, ← etn, ← etc] at HMARK d2 HONE
      rw [← etn] at HLEN hlen
      have htn : tn ≤ 100000000 := by omega
      clear etp etn etc hn1 hl hr hf ha hu ht a0 a1 a2 q0 q1 q2 hlen htl HR HO hbound
      go_wp2_with fail
      refine HMARK.mono ?_
      rintro e w3 ⟨rfl, ho3, hg3⟩
      have HFIN : Hid _ := HONE.out w3 _ ho3 hg3
      clear ho3 hg3
      go_wp2_with fail
      have e1 := HS1.out
      have e2 := HS2.out
      have e3 := HK.out
      have e4 := HLEN.out
      have e5 := HBD.out
      have hfin := HFIN.out
      go_roundw
      case rel => exact ⟨j + 1, kj + 1 + 1 + tn, by omega, by omega, by rw [e1] at e5; omega, by go_num, rfl, by show _ = _; rw [e1]; omega, by
        show OwnCU _ _ _ _ _ _ _
        rw [e2, markedC, ← e3, ← e4]
        exact hfin.1, HG.out.trans hfin.2⟩
      case measure => simp [intOf]; omega
    · obtain rfl : j = n := by omega
      go_wp2_with fail
      go_ret
      refine ⟨ret_int ?_, ?_, HG.out⟩
      · rw [HK.out, HNL.out]; rfl
      · have := HR.out
        rw [markC, ← HNL.out]
        exact this
end Go.Proofs.YtpigjapbhbdhbaaGreatDoor

