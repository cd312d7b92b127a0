/- Texts of CopyT, Cell2, Cell3, IsC. Own work of the verifier. -/
import Derived.Test.YtjhbplgppakhoaaGreatDoorUqaa
import Derived.Test.YtjhbplgppakhoaaGreatDoorUqab
import Derived.Test.YtjhbplgppakhoaaGreatDoorUqae
import Derived.Deep.RegionWith
namespace Go.Proofs.YtjhbplgppakhoaaGreatDoor
open Go Go.RowKit
set_option linter.unusedVariables false
theorem vals_set (xs : List Int) (k : Nat) (h : k < xs.length) :
    ((xs.take k).map (Value.int .u8) ++ List.replicate (xs.length - k) (Value.int .u8 0)).set k (Value.int .u8 (xs.getD k 0)) = (xs.take (k + 1)).map (Value.int .u8) ++ List.replicate (xs.length - (k + 1)) (Value.int .u8 0) := by
  rw [List.set_append_right _ _ (by simp; omega), List.take_succ_eq_append_getElem h]
  have e : k - ((xs.take k).map (Value.int IntKind.u8)).length = 0 := by simp; omega
  rw [e, show xs.length - k = (xs.length - (k + 1)) + 1 by omega, List.replicate_succ, List.set_cons_zero, List.map_append, List.append_assoc]
  simp only [List.map_cons, List.map_nil, List.singleton_append, List.getD, List.getElem?_eq_getElem h, Option.getD_some]
theorem toByteS_any (p : Option Addr) (cap : Nat) (xs : List Int) (w : World) (hn : xs.length ≤ 1048576) (hc : BIn w p xs) :
    Calls Tryz.prog 36 #[.slice p xs.length cap] w fun e w' => e = .returned (.slice (some ⟨w.heap.size, 0, none⟩) xs.length xs.length) ∧
      w'.ownsRow w.heap.size 5 1 (.slice (some ⟨w.heap.size, 0, none⟩) xs.length xs.length) xs.length (xs.map (Value.int .u8)) ∧ Below w.heap.size w w' := by
  obtain ⟨i0, hi, hz0, hz1, hz2⟩ := info_parts infoByte
  have hmx : xs.length ≤ maxLen := by unfold maxLen; omega
  go_enter Tryz.func36, Tryz.ntmps36
  go_wp2_with (at_make; refine wpList_make_full _ rfl _ _ 28 rfl w.heap.size 5 i0 (.int .u8 0) 1 Tryz.underlying28 hi hz0 hz1 _ _ _ _ xs.length rfl rfl rfl rfl (by rw [hz2]; omega) hmx (Nat.le_refl _) ?_; intro w1 hown hgrow)
  have hb1 : Below w.heap.size w w1 := (Below.refl _ _).grown hgrow (Nat.le_refl _) (fun k h => by cases h)
  have HO : Hid (w1.ownsRow w.heap.size 5 1 (.slice (some ⟨w.heap.size, 0, none⟩) xs.length xs.length) xs.length (List.replicate xs.length (Value.int .u8 0))) := by
    have := hown; simp [Value.cells, toList_madeCells_one] at this; exact this
  clear hown hgrow
  go_loopw [4] (fun i wr => ∃ k : Nat, k ≤ xs.length ∧ i = .int .i64 k ∧ Hid (wr.ownsRow w.heap.size 5 1 (.slice (some ⟨w.heap.size, 0, none⟩) xs.length xs.length) xs.length ((xs.take k).map (Value.int .u8) ++ List.replicate (xs.length - k) (Value.int .u8 0))) ∧ Below w.heap.size w wr)
    (fun i _ => xs.length - (intOf i).toNat)
  case atStart => exact ⟨0, Nat.zero_le _, rfl, by simpa using HO, hb1⟩
  case round =>
    obtain ⟨k, hk, rfl, HR, hbr⟩ := hrel
    by_cases hlt : k < xs.length
    · obtain ⟨b, o, rfl, hcs⟩ := hc (by omega)
      have hx : wr.cell? ⟨b, o + k, none⟩ = some (.int .u8 (xs.getD k 0)) := (hbr.cell (World.block_lt_of_cell? _ _ (hcs k hlt))).trans (hcs k hlt)
      have hd : wr.cell? ⟨w.heap.size, k, none⟩ = some (.int .u8 0) := by
        rw [HR.out.cellAt k (by omega), List.getElem?_append_right (by simp; omega), List.getElem?_replicate, if_pos (by simp; omega)]
      have hf := HR.out.frozenAt k
      obtain ⟨x, ex⟩ : ∃ x, x = xs.getD k 0 := ⟨_, rfl⟩
      rw [← ex] at hx
      have HX : Hid (x = xs.getD k 0) := ex
      have HB : Hid (Below w.heap.size w wr) := hbr
      clear ex hcs hc hb1 HO hbr
      go_wp2
      go_roundw
      case rel => exact ⟨k + 1, by omega, by go_num, by
        have := HR.out.stored k (.int .u8 x)
        rw [HX.out, vals_set xs k hlt] at this
        rw [HX.out]
        exact this.1, HB.out.setCell (p := ⟨w.heap.size, k, none⟩) (Nat.le_refl _) _⟩
      case measure => simp [intOf]; omega
    · obtain rfl : k = xs.length := by omega
      go_wp2
      go_ret
      exact ⟨rfl, by simpa using HR.out, hbr⟩
end Go.Proofs.YtjhbplgppakhoaaGreatDoor

namespace Go.Proofs.YtjhbplgppakhoaaGreatDoor
open Go Go.RowKit
set_option linter.unusedVariables false
theorem infoCell : (Tryz.prog.info? 71).map (fun i => (i.zero, i.size, i.bytes)) = some (some (.agg #[.int .i64 0, .int .i64 0, .slice none 0 0]), 3, 40) := by kernel_rfl
def rcV (r : RC) : List Value := [.int .i64 r.1, .int .i64 r.2.1, .slice r.2.2.1 r.2.2.2.1 r.2.2.2.2]
def flat (rs : List RC) : List Value := rs.flatMap rcV
theorem flat_cons (r : RC) (rs : List RC) : flat (r :: rs) = .int .i64 r.1 :: .int .i64 r.2.1 :: .slice r.2.2.1 r.2.2.2.1 r.2.2.2.2 :: flat rs := rfl
theorem flat_len : ∀ rs : List RC, (flat rs).length = rs.length * 3
  | [] => rfl
  | r :: rs => by simp only [flat_cons, List.length_cons, flat_len rs]; omega
theorem flat_at : ∀ (rs : List RC) (i : Nat), i < rs.length → (flat rs)[i * 3]? = some (.int .i64 (rs.getD i RC.zero).1) ∧ (flat rs)[i * 3 + 1]? = some (.int .i64 (rs.getD i RC.zero).2.1) ∧
    (flat rs)[i * 3 + 2]? = some (.slice (rs.getD i RC.zero).2.2.1 (rs.getD i RC.zero).2.2.2.1 (rs.getD i RC.zero).2.2.2.2)
  | [], i, h => by simp at h
  | r :: rs, 0, _ => by simp [flat_cons]
  | r :: rs, i + 1, h => by
    have := flat_at rs i (by simpa using h)
    rw [flat_cons, show (i + 1) * 3 = (i * 3) + 1 + 1 + 1 by omega, show (i * 3) + 1 + 1 + 1 + 1 = (i * 3 + 1) + 1 + 1 + 1 by omega, show (i * 3) + 1 + 1 + 1 + 2 = (i * 3 + 2) + 1 + 1 + 1 by omega]
    simpa using this
theorem flat_set : ∀ (rs : List RC) (i : Nat) (r : RC), i < rs.length → (((flat rs).set (i * 3) (.int .i64 r.1)).set (i * 3 + 1) (.int .i64 r.2.1)).set (i * 3 + 2) (.slice r.2.2.1 r.2.2.2.1 r.2.2.2.2) = flat (rs.set i r)
  | [], i, r, h => by simp at h
  | a :: rs, 0, r, _ => by simp [flat_cons]
  | a :: rs, i + 1, r, h => by
    have := flat_set rs i r (by simpa using h)
    rw [flat_cons, show (i + 1) * 3 = (i * 3) + 1 + 1 + 1 by omega, show (i * 3) + 1 + 1 + 1 + 1 = (i * 3 + 1) + 1 + 1 + 1 by omega, show (i * 3) + 1 + 1 + 1 + 2 = (i * 3 + 2) + 1 + 1 + 1 by omega]
    simp only [List.set_cons_succ, this]
    rfl
theorem made_flat (n : Nat) : (madeCells #[.int .i64 0, .int .i64 0, .slice none 0 0] (n * 3)).toList = flat (List.replicate n RC.zero) := by
  apply List.ext_getElem?
  intro j
  by_cases hj : j < n * 3
  · have h := flat_at (List.replicate n RC.zero) (j / 3) (by simp; omega)
    have hz : (List.replicate n RC.zero).getD (j / 3) RC.zero = RC.zero := by simp [List.getD, List.getElem?_replicate]; split <;> rfl
    rw [hz] at h
    obtain ⟨h0, h1, h2⟩ := h
    have h3 : j % 3 = 0 ∨ j % 3 = 1 ∨ j % 3 = 2 := by omega
    rcases h3 with h3 | h3 | h3
    · rw [show j / 3 * 3 = j by omega] at h0
      rw [h0]; simp [madeCells, hj, h3, RC.zero]
    · rw [show j / 3 * 3 + 1 = j by omega] at h1
      rw [h1]; simp [madeCells, hj, h3, RC.zero]
    · rw [show j / 3 * 3 + 2 = j by omega] at h2
      rw [h2]; simp [madeCells, hj, h3, RC.zero]
  · rw [List.getElem?_eq_none (l := flat _) (by rw [flat_len]; simp; omega), List.getElem?_eq_none (by rw [Array.length_toList, size_madeCells]; omega)]
def OwnC (w : World) (B : Nat) (p : Option Addr) (n c : Nat) (cs : List Cel) : Prop :=
  n = cs.length ∧ ∃ rs : List RC, rs.length = cs.length ∧ w.ownsRow B 71 3 (.slice p n c) n (flat rs) ∧ (∀ i, i < cs.length → Fits w B (rs.getD i RC.zero) (cs.getD i Cel.none)) ∧ ApartC p rs
theorem OwnC.nil (w : World) (B : Nat) : OwnC w B none 0 0 [] := ⟨rfl, [], rfl, World.ownsRow_nil _ _ _ _, fun i h => by simp at h, fun i h => by simp at h, fun i j h => by simp at h⟩
theorem OwnC.cin {w : World} {B : Nat} {p : Option Addr} {n c : Nat} {cs : List Cel} (h : OwnC w B p n c cs) : CIn w p cs := fun hn => by
  obtain ⟨rfl, rs, hl, hr, hf, _⟩ := h
  obtain ⟨g, cap, hv, hb, hg⟩ := hr.form hn
  simp only [Value.slice.injEq, true_and] at hv
  obtain ⟨rfl, rfl⟩ := hv
  refine ⟨g, 0, rfl, fun i hi => ?_⟩
  obtain ⟨f0, f1, f2⟩ := hf i hi
  obtain ⟨a0, a1, a2⟩ := flat_at rs i (by omega)
  rw [Nat.zero_add]
  refine ⟨(rs.getD i RC.zero).2.2.1, (rs.getD i RC.zero).2.2.2.2, ?_, ?_, ?_, f2.bin⟩
  · rw [hr.cellAt _ (by omega), a0, f0]
  · rw [hr.cellAt _ (by omega), a1, f1]
  · rw [hr.cellAt _ (by omega), a2, f2.len]
theorem OwnC.below {w w' : World} {B : Nat} {p : Option Addr} {n c : Nat} {cs : List Cel} (h : OwnC w B p n c cs) (hb : Below w.heap.size w w') : OwnC w' B p n c cs := by
  obtain ⟨rfl, rs, hl, hr, hf, ha⟩ := h
  refine ⟨rfl, rs, hl, ⟨hr.1, ?_⟩, fun i hi => ⟨(hf i hi).1, (hf i hi).2.1, (hf i hi).2.2.below hb⟩, ha⟩
  rcases hr.2 with h' | ⟨g, cap, cur, hv, hB, hg, r⟩
  · exact .inl h'
  · exact .inr ⟨g, cap, cur, hv, hB, (hb.block g (Array.getElem?_eq_some_iff.1 hg).1).trans hg, r⟩
theorem OwnC.mono {w : World} {B B' : Nat} {p : Option Addr} {n c : Nat} {cs : List Cel} (h : OwnC w B p n c cs) (hB : B' ≤ B) : OwnC w B' p n c cs := by
  obtain ⟨hn, rs, hl, hr, hf, ha⟩ := h
  exact ⟨hn, rs, hl, ownsRow_down hr hB, fun i hi => ⟨(hf i hi).1, (hf i hi).2.1, (hf i hi).2.2.mono hB⟩, ha⟩
theorem toCell_any (k n : Int) (p : Option Addr) (m cap : Nat) (xs : List Int) (w : World) (hl : m = xs.length) (hn : m ≤ 1048576) (hin : BIn w p xs) :
    Calls Tryz.prog 35 #[.agg #[.int .i64 k, .int .i64 n, .slice p m cap]] w fun e w' => ∃ g, e = .returned (.agg #[.int .i64 k, .int .i64 n, .slice (some ⟨g, 0, none⟩) m m]) ∧ OwnS w' w.heap.size (some ⟨g, 0, none⟩) m m xs ∧ Below w.heap.size w w' := by
  have HI : Hid (BIn w p xs) := hin
  subst hl
  clear hin
  go_enter Tryz.func35, Tryz.ntmps35
  go_wp2_with fail
  have hb0 : Below w.heap.size w (((w.alloc (Obj.cells #[Value.int IntKind.i64 k, Value.int IntKind.i64 n, Value.slice p xs.length cap] 62)).alloc
          (Obj.cells #[Value.int IntKind.i64 0, Value.int IntKind.i64 0, Value.slice none 0 0] 71)).alloc
      (Obj.cells #[Value.int IntKind.i64 k, Value.int IntKind.i64 n, Value.slice none 0 0] 71)) :=
    (((Below.refl _ _).alloc (Nat.le_refl _) _).alloc (by simp) _).alloc (by simp; omega) _
  refine (toByteS_any p cap xs _ hn (HI.out.below hb0)).mono ?_
  rintro e w1 ⟨rfl, hown, hb1⟩
  have b1 : Box3 w1 (w.heap.size + 1) (.int .i64 0) (.int .i64 0) (.slice none 0 0) := Box3.of_block (t := 71) ((hb1.block _ (by simp)).trans (heap_three w _ _ _).1)
  have b2 : Box3 w1 (w.heap.size + 1 + 1) (.int .i64 k) (.int .i64 n) (.slice none 0 0) := Box3.of_block (t := 71) ((hb1.block _ (by simp)).trans (heap_three w _ _ _).2)
  have HO : Hid (OwnS w1 (w.heap.size + 1 + 1 + 1) (some ⟨w.heap.size + 1 + 1 + 1, 0, none⟩) xs.length xs.length xs) := by
    have := OwnS.of_row hown
    simp at this
    exact this
  have HB : Hid (Below w.heap.size w w1) := Below.on hb0 hb1
  obtain ⟨c10, c11, c12, f1⟩ := b1
  obtain ⟨c20, c21, c22, f2⟩ := b2
  clear hown hb1 hb0
  have D := box3_set (w := w1.setCell ⟨w.heap.size + 1 + 1, 2, none⟩ (Value.slice (some ⟨w.heap.size + 1 + 1 + 1, 0, none⟩) xs.length xs.length)) (b := w.heap.size + 1) ((World.cell?_setCell_other _ _ _ _ (by simp)).trans c10) ((World.cell?_setCell_other _ _ _ _ (by simp)).trans c11) ((World.cell?_setCell_other _ _ _ _ (by simp)).trans c12)
    (Value.int IntKind.i64 k) (Value.int IntKind.i64 n) (Value.slice (some ⟨w.heap.size + 1 + 1 + 1, 0, none⟩) xs.length xs.length)
  have HD : Hid _ := D
  clear D
  go_wp2
  obtain ⟨d0, d1, d2⟩ := HD.out
  refine bodyPost_ret (v := .agg #[.int .i64 k, .int .i64 n, .slice (some ⟨w.heap.size + 1 + 1 + 1, 0, none⟩) xs.length xs.length]) (by simp [results, Tryz.results35, go_sem, d0, d1, d2]) rfl ⟨_, rfl, ?_, ?_⟩
  · have h := (((HO.out.setCell (a := ⟨w.heap.size + 1 + 1, 2, none⟩) (by simp) (Value.slice (some ⟨w.heap.size + 1 + 1 + 1, 0, none⟩) xs.length xs.length)).setCell (a := ⟨w.heap.size + 1, 0, none⟩) (by simp) (Value.int IntKind.i64 k)).setCell (a := ⟨w.heap.size + 1, 1, none⟩) (by simp) (Value.int IntKind.i64 n)).setCell (a := ⟨w.heap.size + 1, 2, none⟩) (by simp) (Value.slice (some ⟨w.heap.size + 1 + 1 + 1, 0, none⟩) xs.length xs.length)
    exact h.mono (by omega)
  · exact (((HB.out.setCell (p := ⟨_, _, none⟩) (by simp; omega) _).setCell (p := ⟨_, _, none⟩) (by simp) _).setCell (p := ⟨_, _, none⟩) (by simp) _).setCell (p := ⟨_, _, none⟩) (by simp) _
def Laid (w : World) (H k : Nat) (rs : List RC) (cs : List Cel) : Prop :=
  rs.length = cs.length ∧ w.ownsRow H 71 3 (.slice (some ⟨H, 0, none⟩) cs.length cs.length) cs.length (flat rs) ∧ (∀ i, i < k → Fits w H (rs.getD i RC.zero) (cs.getD i Cel.none)) ∧
  (∀ i, i < k → ∃ g, (rs.getD i RC.zero).2.2.1 = some ⟨g, 0, none⟩ ∧ H < g ∧ g < w.heap.size) ∧ (∀ i j, i < k → j < k → i ≠ j → (rs.getD i RC.zero).2.2.1 ≠ (rs.getD j RC.zero).2.2.1)
theorem Laid.below {w w' : World} {H k : Nat} {rs : List RC} {cs : List Cel} (h : Laid w H k rs cs) (hb : Below w.heap.size w w') : Laid w' H k rs cs := by
  obtain ⟨hl, hr, hf, hg, ha⟩ := h
  refine ⟨hl, ⟨hr.1, ?_⟩, fun i hi => ⟨(hf i hi).1, (hf i hi).2.1, (hf i hi).2.2.below hb⟩, fun i hi => ?_, ha⟩
  · rcases hr.2 with h' | ⟨g, cap, cur, hv, hB, hg, r⟩
    · exact .inl h'
    · exact .inr ⟨g, cap, cur, hv, hB, (hb.block g (Array.getElem?_eq_some_iff.1 hg).1).trans hg, r⟩
  · obtain ⟨g, e, h1, h2⟩ := hg i hi
    exact ⟨g, e, h1, Nat.lt_of_lt_of_le h2 hb.size⟩
theorem Laid.next {w : World} {H k g m B : Nat} {rs : List RC} {cs : List Cel} (h : Laid w H k rs cs) (hk : k < cs.length) (a b : Int) (ea : a = (cs.getD k Cel.none).1) (eb : b = (cs.getD k Cel.none).2.1) (hB : H < B)
    (ho : OwnS w B (some ⟨g, 0, none⟩) m m (cs.getD k Cel.none).2.2) (hnew : ∀ i, i < k → (rs.getD i RC.zero).2.2.1 ≠ some ⟨g, 0, none⟩) :
    Laid (((w.setCell ⟨H, k * 3, none⟩ (.int .i64 a)).setCell ⟨H, k * 3 + 1, none⟩ (.int .i64 b)).setCell ⟨H, k * 3 + 2, none⟩ (.slice (some ⟨g, 0, none⟩) m m)) H (k + 1) (rs.set k (a, b, some ⟨g, 0, none⟩, m, m)) cs := by
  obtain ⟨hl, hr, hf, hg, ha⟩ := h
  have hgB : B ≤ g ∧ g < w.heap.size := by
    rcases ho.form with ⟨h, _⟩ | ⟨g', h', h1, h2⟩
    · cases h
    · cases h'; exact ⟨h1, h2⟩
  refine ⟨by simpa using hl, ?_, fun i hi => ?_, fun i hi => ?_, fun i j hi hj hij => ?_⟩
  · have h1 := (((hr.stored (k * 3) (.int .i64 a)).1.stored (k * 3 + 1) (.int .i64 b)).1.stored (k * 3 + 2) (.slice (some ⟨g, 0, none⟩) m m)).1
    rwa [flat_set rs k (a, b, some ⟨g, 0, none⟩, m, m) (by omega)] at h1
  · rw [rs_set_at _ _ _ _ (by omega)]
    by_cases e : i = k
    · subst e
      rw [if_pos rfl]
      exact ⟨ea, eb, (((ho.toT.setCell (ne_block (H := H) (by omega)) _).setCell (ne_block (H := H) (by omega)) _).setCell (ne_block (H := H) (by omega)) _).mono (by omega)⟩
    · rw [if_neg e]
      obtain ⟨f0, f1, f2⟩ := hf i (by omega)
      obtain ⟨g', e', h1, h2⟩ := hg i (by omega)
      rw [e'] at f2
      rw [Fits, e']
      exact ⟨f0, f1, ((f2.setCell (ne_block (H := H) (by omega)) _).setCell (ne_block (H := H) (by omega)) _).setCell (ne_block (H := H) (by omega)) _⟩
  · rw [rs_set_at _ _ _ _ (by omega)]
    by_cases e : i = k
    · subst e
      rw [if_pos rfl]
      exact ⟨g, rfl, by omega, by simpa using hgB.2⟩
    · rw [if_neg e]
      obtain ⟨g', e', h1, h2⟩ := hg i (by omega)
      exact ⟨g', e', h1, by simpa using h2⟩
  · rw [rs_set_at _ _ _ _ (by omega), rs_set_at _ _ _ _ (by omega)]
    by_cases e : i = k
    · rw [if_pos e, if_neg (by omega)]
      exact fun x => hnew j (by omega) x.symm
    · by_cases e' : j = k
      · rw [if_neg e, if_pos e']
        exact hnew i (by omega)
      · rw [if_neg e, if_neg e']
        exact ha i j (by omega) (by omega) hij
theorem Laid.own {w : World} {H : Nat} {rs : List RC} {cs : List Cel} (h : Laid w H cs.length rs cs) : OwnC w H (some ⟨H, 0, none⟩) cs.length cs.length cs := by
  obtain ⟨hl, hr, hf, hg, ha⟩ := h
  refine ⟨rfl, rs, hl, hr, hf, fun i hi _ e => ?_, fun i j hi hj hij _ _ => ha i j (by omega) (by omega) hij⟩
  obtain ⟨g, e', h1, _⟩ := hg i (by omega)
  rw [e] at e'
  simp only [Option.some.injEq, Addr.mk.injEq, and_true] at e'
  omega
theorem toCellS_any (p : Option Addr) (cap : Nat) (cs : List Cel) (w : World) (hn : cs.length + tl cs ≤ 1048576) (hc : CIn w p cs) :
    Calls Tryz.prog 10 #[.slice p cs.length cap] w fun e w' => e = .returned (.slice (some ⟨w.heap.size, 0, none⟩) cs.length cs.length) ∧ OwnC w' w.heap.size (some ⟨w.heap.size, 0, none⟩) cs.length cs.length cs ∧ Below w.heap.size w w' := by
  obtain ⟨i0, hi, hz0, hz1, hz2⟩ := info_parts infoCell
  have hmx : cs.length ≤ maxLen := by unfold maxLen; omega
  have HC : Hid (CIn w p cs) := hc
  clear hc
  go_enter Tryz.func10, Tryz.ntmps10
  go_wp2_with (at_make; refine wpList_make_full _ rfl _ _ 32 rfl w.heap.size 71 i0 (.agg #[.int .i64 0, .int .i64 0, .slice none 0 0]) 3 Tryz.underlying32 hi hz0 hz1 _ _ _ _ cs.length rfl rfl rfl rfl (by rw [hz2]; omega) hmx (Nat.le_refl _) ?_; intro w1 hown hgrow)
  have HB1 : Hid (Below w.heap.size w w1) := (Below.refl _ _).grown hgrow (Nat.le_refl _) (fun k h => by cases h)
  have HO : Hid (Laid w1 w.heap.size 0 (List.replicate cs.length RC.zero) cs) := ⟨by simp, by
    have := hown
    rw [show (Value.agg #[.int .i64 0, .int .i64 0, .slice none 0 0]).cells = #[.int .i64 0, .int .i64 0, .slice none 0 0] from rfl, made_flat] at this
    exact this, fun i h => by omega, fun i h => by omega, fun i j h => by omega⟩
  clear hown hgrow
  go_loopw [4] (fun i wr => ∃ k rs, k ≤ cs.length ∧ i = .int .i64 k ∧ Hid (Laid wr w.heap.size k rs cs) ∧ Hid (Below w.heap.size w wr)) (fun i _ => cs.length - (intOf i).toNat)
  case atStart => exact ⟨0, _, Nat.zero_le _, rfl, HO, HB1⟩
  case round =>
    obtain ⟨k, rs, hk, rfl, HR, HB⟩ := hrel
    by_cases hlt : k < cs.length
    · obtain ⟨b, o, rfl, hcs⟩ := HC.out (by omega)
      obtain ⟨q, qc, h0, h1, h2, h3⟩ := (hcs k hlt).below HB.out
      have hmk : (cs.getD k Cel.none).2.2.length ≤ 1048576 := by have := tl_at cs k hlt; omega
      obtain ⟨c0, e0⟩ : ∃ x, x = (cs.getD k Cel.none).1 := ⟨_, rfl⟩
      obtain ⟨c1, e1⟩ : ∃ x, x = (cs.getD k Cel.none).2.1 := ⟨_, rfl⟩
      obtain ⟨m, em⟩ : ∃ x, x = (cs.getD k Cel.none).2.2.length := ⟨_, rfl⟩
      rw [← e0] at h0
      rw [← e1] at h1
      rw [← em] at h2 hmk
      have HE0 : Hid _ := e0
      have HE1 : Hid _ := e1
      have HS := toCell_any c0 c1 q m qc (cs.getD k Cel.none).2.2 wr em hmk h3
      clear e0 e1 em hcs h3 HC
      go_wp2_with fail
      refine HS.mono ?_
      rintro e w2 ⟨g, rfl, hown2, hb2⟩
      have HB2 : Hid (Below w.heap.size w w2) := Below.on HB.out hb2
      have HL2 : Hid (Laid w2 w.heap.size k rs cs) := HR.out.below hb2
      have HO2 : Hid (OwnS w2 wr.heap.size (some ⟨g, 0, none⟩) m m (cs.getD k Cel.none).2.2) := hown2
      have hHw : w.heap.size < wr.heap.size := by
        rcases HR.out.2.1.2 with ⟨h', _⟩ | ⟨g', cap', cur, hv, hb', hg', _⟩
        · simp at h'
        · simp only [Value.slice.injEq, Option.some.injEq, Addr.mk.injEq, and_true, true_and] at hv
          rw [hv.1]; exact (Array.getElem?_eq_some_iff.1 hg').1
      have hge : wr.heap.size ≤ g := by
        rcases hown2.form with ⟨h, _⟩ | ⟨g', h', h1', _⟩
        · cases h
        · cases h'; exact h1'
      have HN : Hid (∀ i, i < k → (rs.getD i RC.zero).2.2.1 ≠ some ⟨g, 0, none⟩) := fun i hi e => by
        obtain ⟨g', e', _, h2'⟩ := HR.out.2.2.2.1 i hi
        rw [e] at e'
        simp only [Option.some.injEq, Addr.mk.injEq, and_true] at e'
        omega
      clear hown2 hb2
      obtain ⟨a0, a1, a2⟩ := flat_at rs k (by have := HR.out.1; omega)
      have d0 := (HL2.out.2.1.cellAt (k * 3) (by omega)).trans a0
      have d1 := (HL2.out.2.1.cellAt (k * 3 + 1) (by omega)).trans a1
      have d2 := (HL2.out.2.1.cellAt (k * 3 + 2) (by omega)).trans a2
      have ff := HL2.out.2.1.frozenAt
      clear a0 a1 a2
      go_wp2
      go_roundw
      case rel => exact ⟨k + 1, _, by omega, by go_num, HL2.out.next hlt _ _ HE0.out HE1.out hHw HO2.out HN.out, ((HB2.out.setCell (p := ⟨_, _, none⟩) (Nat.le_refl _) _).setCell (p := ⟨_, _, none⟩) (Nat.le_refl _) _).setCell (p := ⟨_, _, none⟩) (Nat.le_refl _) _⟩
      case measure => simp [intOf]; omega
    · obtain rfl : k = cs.length := by omega
      clear HC
      go_wp2
      go_ret
      exact ⟨rfl, HR.out.own, HB.out⟩
end Go.Proofs.YtjhbplgppakhoaaGreatDoor

namespace Go.Proofs.YtjhbplgppakhoaaGreatDoor
open Go Go.RowKit
set_option linter.unusedVariables false
theorem eqCell_any (k1 n1 k2 n2 : Int) (p q : Option Addr) (m1 m2 c1 c2 : Nat) (xs ys : List Int) (w : World) (hl1 : m1 = xs.length) (hl2 : m2 = ys.length) (hn : m1 ≤ 1000000000) (hm : m2 ≤ 1000000000) (hx : BIn w p xs) (hy : BIn w q ys) :
    Calls Tryz.prog 43 #[.agg #[.int .i64 k1, .int .i64 n1, .slice p m1 c1], .agg #[.int .i64 k2, .int .i64 n2, .slice q m2 c2]] w fun e w' => e = .returned (.bool (decide (((k1, n1, xs) : Cel) = (k2, n2, ys)))) ∧ Below w.heap.size w w' := by
  subst hl1 hl2
  have HSS : Hid (∀ W, Below w.heap.size w W → Calls Tryz.prog 13 #[.slice p xs.length c1, .slice q ys.length c2] W fun e w' => e = .returned (.bool (decide (xs = ys))) ∧ ∃ n, w' = W.drewN n) := fun W hW => eqByteS_any p q c1 c2 xs ys W hn hm (hx.below hW) (hy.below hW)
  have hb0 : Below w.heap.size w ((w.alloc (Obj.cells #[Value.int IntKind.i64 k1, Value.int IntKind.i64 n1, Value.slice p xs.length c1] 71)).alloc (Obj.cells #[Value.int IntKind.i64 k2, Value.int IntKind.i64 n2, Value.slice q ys.length c2] 71)) := ((Below.refl _ _).alloc (Nat.le_refl _) _).alloc (by simp) _
  clear hx hy
  by_cases hk : k1 = k2
  · subst hk
    by_cases hnn : n1 = n2
    · subst hnn
      have HS := HSS.out _ hb0
      have HB : Hid _ := hb0
      clear hb0 HSS
      have hd : decide (((k1, n1, xs) : Cel) = (k1, n1, ys)) = decide (xs = ys) := by simp
      rw [hd]
      cases ht : decide (xs = ys)
      · rw [ht] at HS
        clear ht hd
        go_enter Tryz.func43, Tryz.ntmps43
        go_wp2_with (go_at_call 13; refine HS.mono ?_; rintro e w' ⟨rfl, m, rfl⟩)
        go_ret
        exact ⟨rfl, below_drewN HB.out _⟩
      · rw [ht] at HS
        clear ht hd
        go_enter Tryz.func43, Tryz.ntmps43
        go_wp2_with (go_at_call 13; refine HS.mono ?_; rintro e w' ⟨rfl, m, rfl⟩)
        go_ret
        exact ⟨rfl, below_drewN HB.out _⟩
    · have hd : decide (((k1, n1, xs) : Cel) = (k1, n2, ys)) = false := by simp [hnn]
      rw [hd]
      have HB : Hid _ := hb0
      clear hd HSS hb0
      have hnn' : (n1 != n2) = true := by simpa using hnn
      go_enter Tryz.func43, Tryz.ntmps43
      go_wp2
      go_ret
      exact ⟨rfl, HB.out⟩
  · have hd : decide (((k1, n1, xs) : Cel) = (k2, n2, ys)) = false := by simp [hk]
    rw [hd]
    have HB : Hid _ := hb0
    clear hd HSS hb0
    have hk' : (k1 != k2) = true := by simpa using hk
    go_enter Tryz.func43, Tryz.ntmps43
    go_wp2
    go_ret
    exact ⟨rfl, HB.out⟩
theorem eqCellS_any (p q : Option Addr) (c1 c2 : Nat) (xs ys : List Cel) (w : World) (hn : xs.length + tl xs ≤ 1000000000) (hm : ys.length + tl ys ≤ 1000000000) (hx : CIn w p xs) (hy : CIn w q ys) :
    Calls Tryz.prog 15 #[.slice p xs.length c1, .slice q ys.length c2] w fun e w' => e = .returned (.bool (decide (xs = ys))) ∧ Below w.heap.size w w' := by
  have HX : Hid (CIn w p xs) := hx
  have HY : Hid (CIn w q ys) := hy
  clear hx hy
  by_cases hl : xs.length = ys.length
  · have HL : Hid (xs.length = ys.length) := hl
    obtain ⟨n, en⟩ : ∃ n, ys.length = n := ⟨_, rfl⟩
    rw [hl]
    rw [hl] at hn
    rw [en] at hn hm hl ⊢
    have HE : Hid (ys.length = n) := en
    clear hl en
    go_enter Tryz.func15, Tryz.ntmps15
    go_wp2
    go_loopw [5] (fun i wr => ∃ k : Nat, k ≤ n ∧ i = .int .i64 k ∧ Hid (Below w.heap.size w wr) ∧ Hid (∀ j, j < k → xs.getD j Cel.none = ys.getD j Cel.none)) (fun i _ => n - (intOf i).toNat)
    case atStart => exact ⟨0, Nat.zero_le _, rfl, Below.refl _ _, fun _ h => absurd h (Nat.not_lt_zero _)⟩
    case round =>
      obtain ⟨k, hk, rfl, HB, HN⟩ := hrel
      by_cases hlt : k < n
      · have hkx : k < xs.length := by rw [HL.out, HE.out]; exact hlt
        have hky : k < ys.length := by rw [HE.out]; exact hlt
        obtain ⟨b, o, rfl, hcx⟩ := HX.out (by omega)
        obtain ⟨b', o', rfl, hcy⟩ := HY.out (by omega)
        obtain ⟨px, qx, x0, x1, x2, x3⟩ := (hcx k hkx).below HB.out
        obtain ⟨py, qy, y0, y1, y2, y3⟩ := (hcy k hky).below HB.out
        have bx := tl_at xs k hkx
        have bY := tl_at ys k hky
        have HEQ : Hid (decide (((xs.getD k Cel.none).1, (xs.getD k Cel.none).2.1, (xs.getD k Cel.none).2.2) = (((ys.getD k Cel.none).1, (ys.getD k Cel.none).2.1, (ys.getD k Cel.none).2.2) : Cel)) = decide (xs.getD k Cel.none = ys.getD k Cel.none)) := rfl
        obtain ⟨a0, ea0⟩ : ∃ x, x = (xs.getD k Cel.none).1 := ⟨_, rfl⟩
        obtain ⟨a1, ea1⟩ : ∃ x, x = (xs.getD k Cel.none).2.1 := ⟨_, rfl⟩
        obtain ⟨am, eam⟩ : ∃ x, x = (xs.getD k Cel.none).2.2.length := ⟨_, rfl⟩
        obtain ⟨e0, ee0⟩ : ∃ x, x = (ys.getD k Cel.none).1 := ⟨_, rfl⟩
        obtain ⟨e1, ee1⟩ : ∃ x, x = (ys.getD k Cel.none).2.1 := ⟨_, rfl⟩
        obtain ⟨em, eem⟩ : ∃ x, x = (ys.getD k Cel.none).2.2.length := ⟨_, rfl⟩
        have HS : Hid (∀ W, Below wr.heap.size wr W → Calls Tryz.prog 43 #[.agg #[.int .i64 a0, .int .i64 a1, .slice px am qx], .agg #[.int .i64 e0, .int .i64 e1, .slice py em qy]] W fun e w' => e = .returned (.bool (decide (xs.getD k Cel.none = ys.getD k Cel.none))) ∧ Below W.heap.size W w') := fun W hW => by
          have := eqCell_any a0 a1 e0 e1 px py am em qx qy _ _ W eam eem (by omega) (by omega) (x3.below hW) (y3.below hW)
          rwa [ea0, ea1, ee0, ee1, HEQ.out, ← ea0, ← ea1, ← ee0, ← ee1] at this
        rw [← ea0] at x0
        rw [← ea1] at x1
        rw [← eam] at x2
        rw [← ee0] at y0
        rw [← ee1] at y1
        rw [← eem] at y2
        clear ea0 ea1 eam ee0 ee1 eem HEQ x3 y3 hcx hcy HX HY bx bY hkx hky
        cases ht : decide (xs.getD k Cel.none = ys.getD k Cel.none)
        · rw [ht] at HS
          have HT : Hid _ := ht
          clear ht
          go_wp2
          go_region_with (go_at_call 43; refine (HS.out _ (Below.refl _ _).drew).mono ?_; rintro e w2 ⟨rfl, hb2⟩)
          all_goals go_wp2
          all_goals go_ret
          all_goals exact ⟨ret_bool (by
            symm; rw [decide_eq_false_iff_not]; intro e
            have := HT.out
            rw [decide_eq_false_iff_not] at this
            exact this (by rw [e])), Below.on HB.out ((Below.refl _ _).drew.trans hb2)⟩
        · rw [ht] at HS
          have HT : Hid _ := ht
          clear ht
          go_wp2
          go_region_with (go_at_call 43; refine (HS.out _ (Below.refl _ _).drew).mono ?_; rintro e w2 ⟨rfl, hb2⟩)
          all_goals go_wp2
          all_goals go_roundw
          all_goals first
            | (simp [intOf]; omega)
            | exact ⟨k + 1, by omega, by go_num, Below.on HB.out ((Below.refl _ _).drew.trans hb2), fun j hj => by
                by_cases e : j = k
                · subst e; exact of_decide_eq_true HT.out
                · exact HN.out j (by omega)⟩
      · obtain rfl : k = n := by omega
        go_wp2
        go_ret
        exact ⟨ret_bool (by symm; rw [decide_eq_true_iff]; exact same_cells HL.out (by rw [HL.out, HE.out]; exact HN.out)), HB.out⟩
  · have hne : ¬ ((xs.length : Int) = (ys.length : Int)) := by omega
    have e : decide (xs = ys) = false := by rw [decide_eq_false_iff_not]; intro e; exact hl (by rw [e])
    rw [e]
    clear e
    go_enter Tryz.func15, Tryz.ntmps15
    go_wp2
    go_ret
    exact ⟨rfl, Below.refl _ _⟩
end Go.Proofs.YtjhbplgppakhoaaGreatDoor

namespace Go.Proofs.YtjhbplgppakhoaaGreatDoor
open Go Go.RowKit
set_option linter.unusedVariables false
def cellB (k n : Int) (m : Nat) : Bool := decide ((k = 0 ∧ 0 ≤ n ∧ n ≤ 1000000 ∧ m = 0) ∨ (k = 1 ∧ -1000000000000000 ≤ n ∧ n ≤ 1000000000000000 ∧ m = 0) ∨ (k = 2 ∧ m ≤ 100 ∧ n = 0) ∨ (k = 3 ∧ m ≤ 100 ∧ 1 ≤ n ∧ n ≤ 20))
theorem isCell_any (k n : Int) (p : Option Addr) (m c : Nat) (w : World) :
    Calls Tryz.prog 53 #[.agg #[.int .i64 k, .int .i64 n, .slice p m c]] w fun e w' => e = .returned (.bool (cellB k n m)) ∧ Below w.heap.size w w' := by
  have fin : ∀ {a : Bool} {o : Obj}, a = cellB k n m → (Ending.returned (.bool a) = .returned (.bool (cellB k n m)) ∧ Below w.heap.size w (w.alloc o)) := fun h => ⟨ret_bool h, (Below.refl _ _).alloc (Nat.le_refl _) _⟩
  have FIN : Hid _ := @fin
  clear fin
  by_cases k0 : k = 0
  · subst k0
    by_cases hm : m = 0
    · subst hm
      by_cases a : 0 ≤ n
      · go_enter Tryz.func53, Tryz.ntmps53
        go_wp2
        go_ret
        exact FIN.out (by rw [Bool.eq_iff_iff]; simp [cellB]; omega)
      · go_enter Tryz.func53, Tryz.ntmps53
        go_wp2
        go_ret
        exact FIN.out (by rw [Bool.eq_iff_iff]; simp [cellB]; omega)
    · have hm' : ((m : Int) == 0) = false := by simp; omega
      have HM : Hid (m ≠ 0) := hm
      clear hm
      go_enter Tryz.func53, Tryz.ntmps53
      go_wp2
      go_ret
      exact FIN.out (by have := HM.out; rw [Bool.eq_iff_iff]; simp [cellB]; omega)
  · by_cases k1 : k = 1
    · subst k1
      by_cases hm : m = 0
      · subst hm
        by_cases a : -1000000000000000 ≤ n
        · go_enter Tryz.func53, Tryz.ntmps53
          go_wp2
          go_ret
          exact FIN.out (by rw [Bool.eq_iff_iff]; simp [cellB]; omega)
        · go_enter Tryz.func53, Tryz.ntmps53
          go_wp2
          go_ret
          exact FIN.out (by rw [Bool.eq_iff_iff]; simp [cellB]; omega)
      · have hm' : ((m : Int) == 0) = false := by simp; omega
        have HM : Hid (m ≠ 0) := hm
        clear hm k0
        go_enter Tryz.func53, Tryz.ntmps53
        go_wp2
        go_ret
        exact FIN.out (by have := HM.out; rw [Bool.eq_iff_iff]; simp [cellB]; omega)
    · have t0 : (k == 0) = false := by simpa using k0
      have t1 : (k == 1) = false := by simpa using k1
      by_cases k2 : k = 2
      · subst k2
        clear t0 t1 k0 k1
        by_cases hm : (m : Int) ≤ 100
        · go_enter Tryz.func53, Tryz.ntmps53
          go_wp2
          go_ret
          exact FIN.out (by rw [Bool.eq_iff_iff]; simp [cellB]; omega)
        · go_enter Tryz.func53, Tryz.ntmps53
          go_wp2
          go_ret
          exact FIN.out (by rw [Bool.eq_iff_iff]; simp [cellB]; omega)
      · by_cases k3 : k = 3
        · subst k3
          clear t0 t1 k0 k1 k2
          by_cases hm : (m : Int) ≤ 100
          · by_cases a : 1 ≤ n
            · go_enter Tryz.func53, Tryz.ntmps53
              go_wp2
              go_ret
              exact FIN.out (by rw [Bool.eq_iff_iff]; simp [cellB]; omega)
            · go_enter Tryz.func53, Tryz.ntmps53
              go_wp2
              go_ret
              exact FIN.out (by rw [Bool.eq_iff_iff]; simp [cellB]; omega)
          · go_enter Tryz.func53, Tryz.ntmps53
            go_wp2
            go_ret
            exact FIN.out (by rw [Bool.eq_iff_iff]; simp [cellB]; omega)
        · have t2 : (k == 2) = false := by simpa using k2
          have t3 : (k == 3) = false := by simpa using k3
          have HK : Hid (k ≠ 0 ∧ k ≠ 1 ∧ k ≠ 2 ∧ k ≠ 3) := ⟨k0, k1, k2, k3⟩
          clear k0 k1 k2 k3
          go_enter Tryz.func53, Tryz.ntmps53
          go_wp2
          go_ret
          exact FIN.out (by have := HK.out; rw [Bool.eq_iff_iff]; simp [cellB]; omega)
end Go.Proofs.YtjhbplgppakhoaaGreatDoor

