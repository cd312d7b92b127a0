/- Texts of OpsT, LawWr, ProofNN, IntG. Own work of the verifier. -/
import Derived.Test.YtjhbplgppakhoaaGreatDoorUqah
import Derived.Test.YtjhbplgppakhoaaGreatDoorUqak
import Derived.Test.YtjhbplgppakhoaaGreatDoorUqbd
import Derived.Test.YtjhbplgppakhoaaGreatDoorUqbe
import Derived.Test.YtjhbplgppakhoaaGreatDoorUqab
import Derived.Test.YtjhbplgppakhoaaGreatDoorUqac
import Derived.Test.YtjhbplgppakhoaaGreatDoorTie
import Derived.Test.YtjhbplgppakhoaaGreatDoorCards
import Derived.Stop.Joined
import Derived.Lib.LaidTab
import Derived.SevenTiedAt
import Derived.LaidMore
import Derived.LaidHandle
import Derived.LaidSub
import Derived.Stop.LaidErr
import Derived.Carry
import Derived.OpenVars
import Derived.Test.YtjhbplgppakhoaaGreatDoorUqae
import Derived.Deep.AppendLies
namespace Go.Proofs.YtjhbplgppakhoaaGreatDoor
open Go Go.RowKit
set_option linter.unusedVariables false
theorem toOp_any (k n : Int) (p : Option Addr) (m cap : Nat) (xs : List Int) (w : World) (hl : m = xs.length) (hn : m ≤ 1048576) (hin : BIn w p xs) :
    Calls Tryz.prog 34 #[.agg #[.slice p m cap, .int .i64 k, .int .i64 n]] w fun e w' => ∃ g, e = .returned (.agg #[.slice (some ⟨g, 0, none⟩) m m, .int .i64 k, .int .i64 n]) ∧ OwnS w' w.heap.size (some ⟨g, 0, none⟩) m m xs ∧ Below w.heap.size w w' := by
  have HI : Hid (BIn w p xs) := hin
  subst hl
  clear hin
  go_enter Tryz.func34, Tryz.ntmps34
  go_wp2_with fail
  have hb0 : Below w.heap.size w (((w.alloc (Obj.cells #[Value.slice p xs.length cap, Value.int IntKind.i64 k, Value.int IntKind.i64 n] 59)).alloc
          (Obj.cells #[Value.slice none 0 0, Value.int IntKind.i64 0, Value.int IntKind.i64 0] 69)).alloc
      (Obj.cells #[Value.slice none 0 0, Value.int IntKind.i64 0, Value.int IntKind.i64 0] 69)) :=
    (((Below.refl _ _).alloc (Nat.le_refl _) _).alloc (by simp) _).alloc (by simp; omega) _
  refine (toByteS_any p cap xs _ hn (HI.out.below hb0)).mono ?_
  rintro e w1 ⟨rfl, hown, hb1⟩
  have h0 : Box3 w1 w.heap.size (.slice p xs.length cap) (.int .i64 k) (.int .i64 n) := Box3.of_block (t := 59) ((hb1.block _ (by simp; omega)).trans (by
    rw [Below.heap_alloc _ _ _ (by simp; omega), Below.heap_alloc _ _ _ (by simp)]
    exact heap_alloc_new w _))
  have b1 : Box3 w1 (w.heap.size + 1) (.slice none 0 0) (.int .i64 0) (.int .i64 0) := Box3.of_block (t := 69) ((hb1.block _ (by simp)).trans (heap_three w _ _ _).1)
  have b2 : Box3 w1 (w.heap.size + 1 + 1) (.slice none 0 0) (.int .i64 0) (.int .i64 0) := Box3.of_block (t := 69) ((hb1.block _ (by simp)).trans (heap_three w _ _ _).2)
  have HO : Hid (OwnS w1 (w.heap.size + 1 + 1 + 1) (some ⟨w.heap.size + 1 + 1 + 1, 0, none⟩) xs.length xs.length xs) := by
    have := OwnS.of_row hown
    simp at this
    exact this
  have HB : Hid (Below w.heap.size w w1) := Below.on hb0 hb1
  obtain ⟨a0, a1, a2, _⟩ := h0
  obtain ⟨c10, c11, c12, f1⟩ := b1
  obtain ⟨c20, c21, c22, f2⟩ := b2
  clear hown hb1 hb0
  have D0 := box3_set (w := w1) (b := w.heap.size + 1 + 1) c20 c21 c22 (Value.slice (some ⟨w.heap.size + 1 + 1 + 1, 0, none⟩) xs.length xs.length) (Value.int IntKind.i64 k) (Value.int IntKind.i64 n)
  generalize hW : (((w1.setCell ⟨w.heap.size + 1 + 1, 0, none⟩ (Value.slice (some ⟨w.heap.size + 1 + 1 + 1, 0, none⟩) xs.length xs.length)).setCell ⟨w.heap.size + 1 + 1, 1, none⟩ (Value.int IntKind.i64 k)).setCell ⟨w.heap.size + 1 + 1, 2, none⟩ (Value.int IntKind.i64 n)) = W at D0
  have keep : ∀ j v, w1.cell? ⟨w.heap.size + 1, j, none⟩ = some v → W.cell? ⟨w.heap.size + 1, j, none⟩ = some v := fun j v h => by
    rw [← hW, World.cell?_setCell_other _ _ _ _ (by simp), World.cell?_setCell_other _ _ _ _ (by simp), World.cell?_setCell_other _ _ _ _ (by simp)]; exact h
  have D := box3_set (w := W) (b := w.heap.size + 1) (keep 0 _ c10) (keep 1 _ c11) (keep 2 _ c12) (Value.slice (some ⟨w.heap.size + 1 + 1 + 1, 0, none⟩) xs.length xs.length) (Value.int IntKind.i64 k) (Value.int IntKind.i64 n)
  have HD : Hid _ := D
  have HD0 : Hid _ := D0
  have HW : Hid _ := hW
  clear D D0 keep hW
  go_wp2
  obtain ⟨d0, d1, d2⟩ := HD.out
  refine bodyPost_ret (v := .agg #[.slice (some ⟨w.heap.size + 1 + 1 + 1, 0, none⟩) xs.length xs.length, .int .i64 k, .int .i64 n]) (by rw [HW.out]; simp [results, Tryz.results34, go_sem, d0, d1, d2]) rfl ⟨_, rfl, ?_, ?_⟩
  · have h := (((((HO.out.setCell (a := ⟨w.heap.size + 1 + 1, 0, none⟩) (by simp) (Value.slice (some ⟨w.heap.size + 1 + 1 + 1, 0, none⟩) xs.length xs.length)).setCell (a := ⟨w.heap.size + 1 + 1, 1, none⟩) (by simp) (Value.int IntKind.i64 k)).setCell (a := ⟨w.heap.size + 1 + 1, 2, none⟩) (by simp) (Value.int IntKind.i64 n)).setCell (a := ⟨w.heap.size + 1, 0, none⟩) (by simp) (Value.slice (some ⟨w.heap.size + 1 + 1 + 1, 0, none⟩) xs.length xs.length)).setCell (a := ⟨w.heap.size + 1, 1, none⟩) (by simp) (Value.int IntKind.i64 k)).setCell (a := ⟨w.heap.size + 1, 2, none⟩) (by simp) (Value.int IntKind.i64 n)
    exact h.mono (by omega)
  · exact (((((HB.out.setCell (p := ⟨_, _, none⟩) (by simp; omega) _).setCell (p := ⟨_, _, none⟩) (by simp; omega) _).setCell (p := ⟨_, _, none⟩) (by simp; omega) _).setCell (p := ⟨_, _, none⟩) (by simp) _).setCell (p := ⟨_, _, none⟩) (by simp) _).setCell (p := ⟨_, _, none⟩) (by simp) _
def LaidO (w : World) (H k : Nat) (rs : List RC) (cs : List Cel) : Prop :=
  rs.length = cs.length ∧ w.ownsRow H 69 3 (.slice (some ⟨H, 0, none⟩) cs.length cs.length) cs.length (flatO rs) ∧ (∀ i, i < k → Fits w H (rs.getD i RC.zero) (cs.getD i Cel.none)) ∧
  (∀ i, i < k → ∃ g, (rs.getD i RC.zero).2.2.1 = some ⟨g, 0, none⟩ ∧ H < g ∧ g < w.heap.size) ∧ (∀ i j, i < k → j < k → i ≠ j → (rs.getD i RC.zero).2.2.1 ≠ (rs.getD j RC.zero).2.2.1)
theorem LaidO.below {w w' : World} {H k : Nat} {rs : List RC} {cs : List Cel} (h : LaidO w H k rs cs) (hb : Below w.heap.size w w') : LaidO w' H k rs cs := by
  obtain ⟨hl, hr, hf, hg, ha⟩ := h
  refine ⟨hl, ⟨hr.1, ?_⟩, fun i hi => ⟨(hf i hi).1, (hf i hi).2.1, (hf i hi).2.2.below hb⟩, fun i hi => ?_, ha⟩
  · rcases hr.2 with h' | ⟨g, cap, cur, hv, hB, hg, r⟩
    · exact .inl h'
    · exact .inr ⟨g, cap, cur, hv, hB, (hb.block g (Array.getElem?_eq_some_iff.1 hg).1).trans hg, r⟩
  · obtain ⟨g, e, h1, h2⟩ := hg i hi
    exact ⟨g, e, h1, Nat.lt_of_lt_of_le h2 hb.size⟩
theorem LaidO.next {w : World} {H k g m B : Nat} {rs : List RC} {cs : List Cel} (h : LaidO w H k rs cs) (hk : k < cs.length) (a b : Int) (ea : a = (cs.getD k Cel.none).1) (eb : b = (cs.getD k Cel.none).2.1) (hB : H < B)
    (ho : OwnS w B (some ⟨g, 0, none⟩) m m (cs.getD k Cel.none).2.2) (hnew : ∀ i, i < k → (rs.getD i RC.zero).2.2.1 ≠ some ⟨g, 0, none⟩) :
    LaidO (((w.setCell ⟨H, k * 3, none⟩ (.slice (some ⟨g, 0, none⟩) m m)).setCell ⟨H, k * 3 + 1, none⟩ (.int .i64 a)).setCell ⟨H, k * 3 + 2, none⟩ (.int .i64 b)) H (k + 1) (rs.set k (a, b, some ⟨g, 0, none⟩, m, m)) cs := by
  obtain ⟨hl, hr, hf, hg, ha⟩ := h
  have hgB : B ≤ g ∧ g < w.heap.size := by
    rcases ho.form with ⟨h, _⟩ | ⟨g', h', h1, h2⟩
    · cases h
    · cases h'; exact ⟨h1, h2⟩
  refine ⟨by simpa using hl, ?_, fun i hi => ?_, fun i hi => ?_, fun i j hi hj hij => ?_⟩
  · have h1 := (((hr.stored (k * 3) (.slice (some ⟨g, 0, none⟩) m m)).1.stored (k * 3 + 1) (.int .i64 a)).1.stored (k * 3 + 2) (.int .i64 b)).1
    rwa [flatO_set rs k (a, b, some ⟨g, 0, none⟩, m, m) (by omega)] at h1
  · rw [rs_set_at _ _ _ _ (by omega)]
    by_cases e : i = k
    · subst e
      rw [if_pos rfl]
      exact ⟨ea, eb, (((ho.toT.setCell (ne_block (H := H) (by omega)) _).setCell (ne_block (H := H) (by omega)) _).setCell (ne_block (H := H) (by omega)) _).mono (by omega)⟩
    · rw [if_neg e]
      obtain ⟨f0, f1, f2⟩ := hf i (by omega)
      obtain ⟨g', e', h1, h2⟩ := hg i (by omega)
      rw [e'] at f2
      rw [Fits, e']
      exact ⟨f0, f1, ((f2.setCell (ne_block (H := H) (by omega)) _).setCell (ne_block (H := H) (by omega)) _).setCell (ne_block (H := H) (by omega)) _⟩
  · rw [rs_set_at _ _ _ _ (by omega)]
    by_cases e : i = k
    · subst e
      rw [if_pos rfl]
      exact ⟨g, rfl, by omega, by simpa using hgB.2⟩
    · rw [if_neg e]
      obtain ⟨g', e', h1, h2⟩ := hg i (by omega)
      exact ⟨g', e', h1, by simpa using h2⟩
  · rw [rs_set_at _ _ _ _ (by omega), rs_set_at _ _ _ _ (by omega)]
    by_cases e : i = k
    · rw [if_pos e, if_neg (by omega)]
      exact fun x => hnew j (by omega) x.symm
    · by_cases e' : j = k
      · rw [if_neg e, if_pos e']
        exact hnew i (by omega)
      · rw [if_neg e, if_neg e']
        exact ha i j (by omega) (by omega) hij
theorem LaidO.own {w : World} {H : Nat} {rs : List RC} {cs : List Cel} (h : LaidO w H cs.length rs cs) : OwnO w H (some ⟨H, 0, none⟩) cs.length cs.length cs := by
  obtain ⟨hl, hr, hf, hg, ha⟩ := h
  refine ⟨rfl, rs, hl, hr, hf, fun i hi _ e => ?_, fun i j hi hj hij _ _ => ha i j (by omega) (by omega) hij⟩
  obtain ⟨g, e', h1, _⟩ := hg i (by omega)
  rw [e] at e'
  simp only [Option.some.injEq, Addr.mk.injEq, and_true] at e'
  omega
theorem toOpS_any (p : Option Addr) (cap : Nat) (cs : List Cel) (w : World) (hn : cs.length + tl cs ≤ 1048576) (hc : OIn w p cs) :
    Calls Tryz.prog 9 #[.slice p cs.length cap] w fun e w' => e = .returned (.slice (some ⟨w.heap.size, 0, none⟩) cs.length cs.length) ∧ OwnO w' w.heap.size (some ⟨w.heap.size, 0, none⟩) cs.length cs.length cs ∧ Below w.heap.size w w' := by
  obtain ⟨i0, hi, hz0, hz1, hz2⟩ := info_parts infoOp
  have hmx : cs.length ≤ maxLen := by unfold maxLen; omega
  have HC : Hid (OIn w p cs) := hc
  clear hc
  go_enter Tryz.func9, Tryz.ntmps9
  go_wp2_with (at_make; refine wpList_make_full _ rfl _ _ 30 rfl w.heap.size 69 i0 (.agg #[.slice none 0 0, .int .i64 0, .int .i64 0]) 3 Tryz.underlying30 hi hz0 hz1 _ _ _ _ cs.length rfl rfl rfl rfl (by rw [hz2]; omega) hmx (Nat.le_refl _) ?_; intro w1 hown hgrow)
  have HB1 : Hid (Below w.heap.size w w1) := (Below.refl _ _).grown hgrow (Nat.le_refl _) (fun k h => by cases h)
  have HO : Hid (LaidO w1 w.heap.size 0 (List.replicate cs.length RC.zero) cs) := ⟨by simp, by
    have := hown
    rw [show (Value.agg #[.slice none 0 0, .int .i64 0, .int .i64 0]).cells = #[.slice none 0 0, .int .i64 0, .int .i64 0] from rfl, made_flatO] at this
    exact this, fun i h => by omega, fun i h => by omega, fun i j h => by omega⟩
  clear hown hgrow
  go_loopw [4] (fun i wr => ∃ k rs, k ≤ cs.length ∧ i = .int .i64 k ∧ Hid (LaidO wr w.heap.size k rs cs) ∧ Hid (Below w.heap.size w wr)) (fun i _ => cs.length - (intOf i).toNat)
  case atStart => exact ⟨0, _, Nat.zero_le _, rfl, HO, HB1⟩
  case round =>
    obtain ⟨k, rs, hk, rfl, HR, HB⟩ := hrel
    by_cases hlt : k < cs.length
    · obtain ⟨b, o, rfl, hcs⟩ := HC.out (by omega)
      obtain ⟨q, qc, h0, h1, h2, h3⟩ := (hcs k hlt).below HB.out
      have hmk : (cs.getD k Cel.none).2.2.length ≤ 1048576 := by have := tl_at cs k hlt; omega
      obtain ⟨c0, e0⟩ : ∃ x, x = (cs.getD k Cel.none).1 := ⟨_, rfl⟩
      obtain ⟨c1, e1⟩ : ∃ x, x = (cs.getD k Cel.none).2.1 := ⟨_, rfl⟩
      obtain ⟨m, em⟩ : ∃ x, x = (cs.getD k Cel.none).2.2.length := ⟨_, rfl⟩
      rw [← e0] at h0
      rw [← e1] at h1
      rw [← em] at h2 hmk
      have HE0 : Hid _ := e0
      have HE1 : Hid _ := e1
      have HS := toOp_any c0 c1 q m qc (cs.getD k Cel.none).2.2 wr em hmk h3
      clear e0 e1 em hcs h3 HC
      go_wp2_with fail
      refine HS.mono ?_
      rintro e w2 ⟨g, rfl, hown2, hb2⟩
      have HB2 : Hid (Below w.heap.size w w2) := Below.on HB.out hb2
      have HL2 : Hid (LaidO w2 w.heap.size k rs cs) := HR.out.below hb2
      have HO2 : Hid (OwnS w2 wr.heap.size (some ⟨g, 0, none⟩) m m (cs.getD k Cel.none).2.2) := hown2
      have hHw : w.heap.size < wr.heap.size := by
        rcases HR.out.2.1.2 with ⟨h', _⟩ | ⟨g', cap', cur, hv, hb', hg', _⟩
        · simp at h'
        · simp only [Value.slice.injEq, Option.some.injEq, Addr.mk.injEq, and_true, true_and] at hv
          rw [hv.1]; exact (Array.getElem?_eq_some_iff.1 hg').1
      have hge : wr.heap.size ≤ g := by
        rcases hown2.form with ⟨h, _⟩ | ⟨g', h', h1', _⟩
        · cases h
        · cases h'; exact h1'
      have HN : Hid (∀ i, i < k → (rs.getD i RC.zero).2.2.1 ≠ some ⟨g, 0, none⟩) := fun i hi e => by
        obtain ⟨g', e', _, h2'⟩ := HR.out.2.2.2.1 i hi
        rw [e] at e'
        simp only [Option.some.injEq, Addr.mk.injEq, and_true] at e'
        omega
      clear hown2 hb2
      obtain ⟨a0, a1, a2⟩ := flatO_at rs k (by have := HR.out.1; omega)
      have d0 := (HL2.out.2.1.cellAt (k * 3) (by omega)).trans a2
      have d1 := (HL2.out.2.1.cellAt (k * 3 + 1) (by omega)).trans a0
      have d2 := (HL2.out.2.1.cellAt (k * 3 + 2) (by omega)).trans a1
      have ff := HL2.out.2.1.frozenAt
      clear a0 a1 a2
      go_wp2
      go_roundw
      case rel => exact ⟨k + 1, _, by omega, by go_num, HL2.out.next hlt _ _ HE0.out HE1.out hHw HO2.out HN.out, ((HB2.out.setCell (p := ⟨_, _, none⟩) (Nat.le_refl _) _).setCell (p := ⟨_, _, none⟩) (Nat.le_refl _) _).setCell (p := ⟨_, _, none⟩) (Nat.le_refl _) _⟩
      case measure => simp [intOf]; omega
    · obtain rfl : k = cs.length := by omega
      clear HC
      go_wp2
      go_ret
      exact ⟨rfl, HR.out.own, HB.out⟩
end Go.Proofs.YtjhbplgppakhoaaGreatDoor

namespace Go.Proofs.YtjhbplgppakhoaaGreatDoor
open Go Go.RowKit
set_option linter.unusedVariables false
theorem OwnT.keepU {w w' : World} {B B' U' : Nat} {p : Option Addr} {n c : Nat} {ys : List Int} (h : OwnT w B p n c ys) (hk : Keep B' U' w w') (ho : U' ≤ B) : OwnT w' B p n c ys :=
  h.other hk.size fun g hn e => by
    obtain ⟨g', e', h1, h2, _⟩ := h.2 hn
    rw [e'] at e
    injection e with e
    injection e with e
    subst e
    exact hk.block _ h2 (.inr (by omega))
theorem OwnNN.keep {w w' : World} {B U B' U' g : Nat} {N : List (List Int)} {gs : List Nat} (h : OwnNN w B U g N gs) (hk : Keep B' U' w w') (ho : U' ≤ B) : OwnNN w' B U g N gs :=
  ⟨h.len, rowNN_block h.row (hk.block g (h.row.lt g rfl).2 (.inr (Nat.le_trans ho (h.row.lt g rfl).1))), fun i hi => ownS_block (h.item i hi) (hk.block _ (ownS_lt (h.item i hi)).2 (.inr (Nat.le_trans ho (ownS_lt (h.item i hi)).1))), h.up, h.apart⟩
theorem eqB_same (p q : Option Addr) (c1 c2 n m : Nat) (xs : List Int) (w : World) (hl : xs.length ≤ 10000000000) (en : n = xs.length) (em : m = xs.length) (hx : BIn w p xs) (hy : BIn w q xs) :
    Calls Tryz.prog 13 #[.slice p n c1, .slice q m c2] w fun e w' => e = .returned (.bool true) ∧ Below w.heap.size w w' := by
  rw [en, em]
  refine (eqByteB_any p q c1 c2 xs xs w hl hl hx hy).mono ?_
  rintro e w' ⟨rfl, n, rfl⟩
  exact ⟨by simp, ⟨rfl, rfl, rfl, Nat.le_refl _, fun _ _ => rfl⟩⟩
theorem endO_eq (k : Int) (cs : List Cel) : endO k cs = k + 2 * cs.length + tl cs := by simp [endO, kAt]
end Go.Proofs.YtjhbplgppakhoaaGreatDoor

namespace Go.Proofs.YtjhbplgppakhoaaGreatDoor
open Go Go.ChangeShapes Go.WideShapes Go.ChangeAt Go.WideMaps Go.WideElems Go.RowKit Go.Deep
set_option linter.unusedVariables false
theorem cellsOp : Tryz.prog.cellsOf 59 = 3 := by kernel_rfl
theorem openedOpW {H : Type} {enc : TypeId × Value → H} {W : World} {fuel : Nat} {cs : List Value} {x : DataW H × List MemPlace}
    (h : DataW.trod enc Tryz.prog W 0 (fun _ => true) true fuel 59 cs = some x) :
    ∃ (k n : Int) (p : Option Addr) (cap : Nat) (xs : List Int), cs = [.slice p xs.length cap, .int .i64 k, .int .i64 n] ∧ xs.length ≤ 9223372036854775807 ∧ BIn W p xs ∧ (∀ y ∈ xs, 0 ≤ y ∧ y < 256) ∧
      (-9223372036854775808 ≤ k ∧ k ≤ 9223372036854775807 ∧ -9223372036854775808 ≤ n ∧ n ≤ 9223372036854775807) := by
  obtain ⟨y0, y1, y2, n, hx, hl, h0, h1, h2⟩ := trod_struct3 Tryz.underlying59 h
  rw [cellsOp] at hl
  obtain ⟨a, b, c, rfl⟩ := three_of hl
  simp only [cellsInt, cellsText, List.drop_zero, List.take_succ_cons, List.take_zero, List.drop_succ_cons] at h0 h1 h2
  obtain ⟨k, e0, _, w0⟩ := DataW.trod_int Tryz.underlying3 h1
  obtain ⟨m, e1, _, w1⟩ := DataW.trod_int Tryz.underlying3 h2
  obtain ⟨p, cap, xs, rfl, hlen, hin, hb⟩ := openedText h0
  obtain rfl : b = .int .i64 k := by simpa using e0
  obtain rfl : c = .int .i64 m := by simpa using e1
  exact ⟨k, m, p, cap, xs, rfl, hlen, hin, hb, (wf_i64 w0).1, (wf_i64 w0).2, (wf_i64 w1).1, (wf_i64 w1).2⟩
theorem openedOpsW {H : Type} {enc : TypeId × Value → H} {W : World} {a0 : Option Addr} {len cap : Nat} {d0 : DataW H} {p : List MemPlace}
    (h0 : DataW.Trod enc Tryz.prog W 0 (fun _ => true) true 22 (.slice a0 len cap) d0 p) : ∃ cs : List Cel, cs.length = len ∧ OArg W a0 cs := by
  obtain ⟨fuel, hf⟩ := h0
  rcases open_slice Tryz.underlying22 hf with ⟨hcs, hx⟩ | ⟨a, len', cap', m, n, D, Pl, hcs, hb, hl, hm, hmm, hx, hel⟩
  · simp [Value.cells] at hcs
    obtain ⟨rfl, rfl, rfl⟩ := hcs
    exact ⟨[], rfl, fun h => absurd h (Nat.lt_irrefl 0), by decide, fun i h => by simp at h, fun i h => by simp at h, fun i h => by simp at h⟩
  · simp [Value.cells] at hcs
    obtain ⟨rfl, rfl, rfl⟩ := hcs
    simp only [if_true] at hmm
    subst hmm
    unfold maxLen at hm
    obtain ⟨b, o, s⟩ := a
    have hs0 : ∀ i, i = 0 → i < len → s = none := fun i hi0 hlen => by
      obtain ⟨cs', hc, ht⟩ := hel i (by omega)
      obtain ⟨k, n', q, qc, xs, rfl, r1, r2, r3, r4⟩ := openedOpW ht
      rw [cellsOp] at hc
      have g0 := (World.cells?_some hc).2.2 0 (by decide)
      have g := World.cell?_spot g0
      rw [hi0] at g
      simpa [Addr.add] using g
    have each : ∀ i, i < len → ∃ c : Cel, s = none ∧ OAt W b (o + i * 3) c ∧ c.2.2.length ≤ 9223372036854775807 ∧ (∀ y ∈ c.2.2, 0 ≤ y ∧ y < 256) ∧ (-9223372036854775808 ≤ c.1 ∧ c.1 ≤ 9223372036854775807 ∧ -9223372036854775808 ≤ c.2.1 ∧ c.2.1 ≤ 9223372036854775807) := fun i hi => by
      obtain ⟨cs', hc, ht⟩ := hel i (by omega)
      obtain ⟨k, n', q, qc, xs, rfl, r1, r2, r3, r4⟩ := openedOpW ht
      rw [cellsOp] at hc
      have hs := (World.cells?_some hc).2.2
      have g0 := hs 0 (by decide)
      have g1 := hs 1 (by decide)
      have g2 := hs 2 (by decide)
      obtain rfl : s = none := hs0 0 rfl (by omega)
      simp only [add_plain] at g0 g1 g2
      exact ⟨(k, n', xs), rfl, ⟨q, qc, g1, g2, g0, r2⟩, r1, r3, r4⟩
    obtain ⟨f, hfx⟩ := choose_lt each
    have hat : ∀ i, i < len → ((List.range len).map f).getD i Cel.none = f i := fun i hi => getD_map_range f len i hi
    refine ⟨(List.range len).map f, by simp, fun hn => ?_, by simp; omega, fun i hi => ?_, fun i hi => ?_, fun i hi => ?_⟩
    · have hn' : 0 < len := by simpa using hn
      obtain rfl : s = none := (hfx 0 hn').1
      refine ⟨b, o, rfl, fun i hi => ?_⟩
      have hi' : i < len := by simpa using hi
      rw [hat i hi']
      exact (hfx i hi').2.1
    · have hi' : i < len := by simpa using hi
      rw [hat i hi']
      exact (hfx i hi').2.2.1
    · have hi' : i < len := by simpa using hi
      rw [hat i hi']
      exact (hfx i hi').2.2.2.1
    · have hi' : i < len := by simpa using hi
      rw [hat i hi']
      exact (hfx i hi').2.2.2.2
abbrev laidL : List (String × DataW Unit) := [("math/bits.deBruijn32tab", Rows.laid_math_bits_deBruijn32tab), ("math/bits.deBruijn64tab", Rows.laid_math_bits_deBruijn64tab), ("internal/strconv.uint64pow10", Rows.laid_internal_strconv_uint64pow10), ("loop.example/s00095/impl.charKinds", Rows.laid_loop_example_s00095_impl_charKinds)]
theorem gTab : Tryz.prog.globalNamed "loop.example/s00095/impl.charKinds" = some 2 := by kernel_rfl
theorem tTab : (Tryz.prog.globals[2]?).map (·.type) = some 210 := by kernel_rfl
theorem cellsKind : Tryz.prog.cellsOf 199 = 1 := by kernel_rfl
theorem cellsTab : Tryz.prog.cellsOf 210 = 128 := by kernel_rfl
theorem datumTab : (Rows.laid_loop_example_s00095_impl_charKinds : DataW Unit) = Lib.tabData .u8 tab := by rfl
theorem gPow : Tryz.prog.globalNamed "internal/strconv.uint64pow10" = some 1 := by kernel_rfl
theorem tPow : (Tryz.prog.globals[1]?).map (·.type) = some 206 := by kernel_rfl
theorem cellsU64 : Tryz.prog.cellsOf 193 = 1 := by kernel_rfl
theorem cellsPow : Tryz.prog.cellsOf 206 = 20 := by kernel_rfl
theorem datumPow : (Rows.laid_internal_strconv_uint64pow10 : DataW Unit) = Lib.tabData .u64 Lib.pow10Tab := by rfl
theorem tabs_of {W : World} (h : laidMetH Tryz.prog laidL W) : Tab W ∧ TabP W := by
  rw [MakeChecks.laidMetH_plain _ _ _ (by kernel_rfl)] at h
  have h2 := laidMet.tail (laidMet.tail h)
  have h3 := laidMet.tail h2
  rw [datumPow] at h2
  rw [datumTab] at h3
  have hT := Lib.tabIs_of_head (k := .u8) (zs := tab) gTab tTab Tryz.underlying210 Tryz.underlying199 cellsKind cellsTab h3
  have hP := Lib.tabIs_of_head (k := .u64) (zs := Lib.pow10Tab) gPow tPow Tryz.underlying206 Tryz.underlying193 cellsU64 cellsPow h2
  exact ⟨fun i hi => hT.cell gTab i hi, hP⟩
theorem door_metL (os : Os) (args : Array Value) : laidMetH Tryz.prog laidL ((World.doorLaid Tryz.prog 400 os).forCall (fun _ _ => 0) ⟨#[], args, []⟩).memory :=
  laidMetH_of_parts3 (fuel := 8) (laidMet_of_run' 8 (by kernel_rfl) (by kernel_rfl)) (by kernel_rfl) (by kernel_rfl)
theorem vars_again {H : Type} {enc : TypeId × Value → H} {W W' : World} {gs : List (DataW H)} {q : List MemPlace} (hT : Tab W) (hB : Below W.heap.size W W') (hlt : ∀ x ∈ q, x.block < W.heap.size)
    (hV : DataW.TrodVars enc Tryz.prog W (fun _ => true) ["loop.example/s00095/impl.charKinds"] gs q) :
    ∃ d pv, gs = [d] ∧ DataW.TrodVars enc Tryz.prog W' (fun b => decide (b < W.heap.size)) ["loop.example/s00095/impl.charKinds"] [d] pv := by
  obtain ⟨g, t, cs, fuel, d, p, rfl, hg, ht, hv, hd, rfl⟩ := trodVars_one hV
  obtain rfl := Option.some.inj (gTab.symm.trans hg)
  obtain rfl := Option.some.inj (tTab.symm.trans ht)
  have hg0 : 2 < W.heap.size := World.block_lt_of_cell? _ _ (hT 0 (by decide))
  have hv' := var?_below hB hg hg0 hv
  have h0 : DataW.Trod enc Tryz.prog W 0 (fun _ => true) true 210 (.agg cs) d p := ⟨fuel, by simpa [Value.cells] using hd⟩
  obtain ⟨fuel', h1⟩ := Below.trod laidOut (by kernel_rfl) (of_decide_eq_true (by kernel_rfl)) h0 hB (fun x hx => hlt x (List.mem_append_right _ hx))
  exact ⟨d, _, rfl, trodVars_mk1 hg ht hv' (by simpa [Value.cells] using h1)⟩
end Go.Proofs.YtjhbplgppakhoaaGreatDoor

namespace Go.Proofs.YtjhbplgppakhoaaGreatDoor
open Go Go.RowKit Go.Maps
set_option linter.unusedVariables false
theorem infoInt : (Tryz.prog.info? 3).map (fun i => (i.zero, i.size, i.bytes)) = some (some (.int .i64 0), 1, 8) := by kernel_rfl
def OwnI (w : World) (B : Nat) (t : TypeId) (p : Option Addr) (n c : Nat) (zs : List Int) : Prop := n = zs.length ∧ w.ownsRow B t 1 (.slice p n c) n (zs.map (Value.int .i64))
def IIn (w : World) (p : Option Addr) (zs : List Int) : Prop := 0 < zs.length → ∃ b o, p = some ⟨b, o, none⟩ ∧ ∀ i, i < zs.length → w.cell? ⟨b, o + i, none⟩ = some (.int .i64 (zs.getD i 0))
theorem OwnI.iin {w : World} {B : Nat} {t : TypeId} {p : Option Addr} {n c : Nat} {zs : List Int} (h : OwnI w B t p n c zs) : IIn w p zs := fun hn => by
  obtain ⟨rfl, hr⟩ := h
  obtain ⟨g, cap, hv, hb, hg⟩ := hr.form hn
  simp only [Value.slice.injEq, true_and] at hv
  obtain ⟨rfl, rfl⟩ := hv
  exact ⟨g, 0, rfl, fun i hi => by rw [Nat.zero_add, hr.cellAt i (by omega)]; simp [List.getD, hi]⟩
theorem IIn.below {W W' : World} {p : Option Addr} {zs : List Int} (h : IIn W p zs) (hb : Below W.heap.size W W') : IIn W' p zs := fun hn => by
  obtain ⟨b, o, rfl, hc⟩ := h hn
  exact ⟨b, o, rfl, fun i hi => (hb.cell (World.block_lt_of_cell? _ _ (hc i hi))).trans (hc i hi)⟩
theorem OwnI.nil (w : World) (B : Nat) (t : TypeId) : OwnI w B t none 0 0 [] := ⟨rfl, World.ownsRow_nil _ _ _ _⟩
theorem OwnI.below {w w' : World} {B : Nat} {t : TypeId} {p : Option Addr} {n c : Nat} {zs : List Int} (h : OwnI w B t p n c zs) (hb : Below w.heap.size w w') : OwnI w' B t p n c zs := ⟨h.1, row_below h.2 hb⟩
theorem OwnI.mono {w : World} {B B' : Nat} {t : TypeId} {p : Option Addr} {n c : Nat} {zs : List Int} (h : OwnI w B t p n c zs) (hB : B' ≤ B) : OwnI w B' t p n c zs := ⟨h.1, ownsRow_down h.2 hB⟩
end Go.Proofs.YtjhbplgppakhoaaGreatDoor

