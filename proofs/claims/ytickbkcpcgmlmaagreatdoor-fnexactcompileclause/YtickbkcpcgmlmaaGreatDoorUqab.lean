/- Texts of Cell2, Cell3, IsC, Valid1, Valid2, Tree1, Tree2. Own work of the verifier. -/
import Derived.Test.YtickbkcpcgmlmaaGreatDoorUqaa
import Derived.Deep.RegionWith
namespace Go.Proofs.YtickbkcpcgmlmaaGreatDoor
set_option maxRecDepth 20000
open Go Go.RowKit
set_option linter.unusedVariables false
theorem infoCell : (Tryz.prog.info? 52).map (fun i => (i.zero, i.size, i.bytes)) = some (some (.agg #[.int .i64 0, .int .i64 0, .slice none 0 0]), 3, 40) := by kernel_rfl
def rcV (r : RC) : List Value := [.int .i64 r.1, .int .i64 r.2.1, .slice r.2.2.1 r.2.2.2.1 r.2.2.2.2]
def flat (rs : List RC) : List Value := rs.flatMap rcV
theorem flat_cons (r : RC) (rs : List RC) : flat (r :: rs) = .int .i64 r.1 :: .int .i64 r.2.1 :: .slice r.2.2.1 r.2.2.2.1 r.2.2.2.2 :: flat rs := rfl
theorem flat_append (a b : List RC) : flat (a ++ b) = flat a ++ flat b := List.flatMap_append
theorem flat_len : ∀ rs : List RC, (flat rs).length = rs.length * 3
 | [] => rfl
 | r :: rs => by simp only [flat_cons, List.length_cons, flat_len rs]; omega
theorem flat_at : ∀ (rs : List RC) (i : Nat), i < rs.length → (flat rs)[i * 3]? = some (.int .i64 (rs.getD i RC.zero).1) ∧ (flat rs)[i * 3 + 1]? = some (.int .i64 (rs.getD i RC.zero).2.1) ∧
  (flat rs)[i * 3 + 2]? = some (.slice (rs.getD i RC.zero).2.2.1 (rs.getD i RC.zero).2.2.2.1 (rs.getD i RC.zero).2.2.2.2)
 | [], i, h => by simp at h
 | r :: rs, 0, _ => by simp [flat_cons]
 | r :: rs, i + 1, h => by
   have := flat_at rs i (by simpa using h); rw [flat_cons, show (i + 1) * 3 = (i * 3) + 1 + 1 + 1 by omega, show (i * 3) + 1 + 1 + 1 + 1 = (i * 3 + 1) + 1 + 1 + 1 by omega, show (i * 3) + 1 + 1 + 1 + 2 = (i * 3 + 2) + 1 + 1 + 1 by omega]
   simpa using this
theorem flat_set : ∀ (rs : List RC) (i : Nat) (r : RC), i < rs.length → (((flat rs).set (i * 3) (.int .i64 r.1)).set (i * 3 + 1) (.int .i64 r.2.1)).set (i * 3 + 2) (.slice r.2.2.1 r.2.2.2.1 r.2.2.2.2) = flat (rs.set i r)
 | [], i, r, h => by simp at h
 | a :: rs, 0, r, _ => by simp [flat_cons]
 | a :: rs, i + 1, r, h => by
   have := flat_set rs i r (by simpa using h); rw [flat_cons, show (i + 1) * 3 = (i * 3) + 1 + 1 + 1 by omega, show (i * 3) + 1 + 1 + 1 + 1 = (i * 3 + 1) + 1 + 1 + 1 by omega, show (i * 3) + 1 + 1 + 1 + 2 = (i * 3 + 2) + 1 + 1 + 1 by omega]; simp only [List.set_cons_succ, this]
   rfl
theorem made_flat (n : Nat) : (madeCells #[.int .i64 0, .int .i64 0, .slice none 0 0] (n * 3)).toList = flat (List.replicate n RC.zero) := by
 apply List.ext_getElem?
 intro j
 by_cases hj : j < n * 3
 ·have h := flat_at (List.replicate n RC.zero) (j / 3) (by simp; omega)
  have hz : (List.replicate n RC.zero).getD (j / 3) RC.zero = RC.zero := by simp [List.getD, List.getElem?_replicate]; split <;> rfl
  rw [hz] at h; obtain ⟨h0, h1, h2⟩ := h
  have h3 : j % 3 = 0 ∨ j % 3 = 1 ∨ j % 3 = 2 := by omega
  rcases h3 with h3 | h3 | h3
  ·rw [show j / 3 * 3 = j by omega] at h0
   rw [h0]; simp [madeCells, hj, h3, RC.zero]
  ·rw [show j / 3 * 3 + 1 = j by omega] at h1
   rw [h1]; simp [madeCells, hj, h3, RC.zero]
  ·rw [show j / 3 * 3 + 2 = j by omega] at h2
   rw [h2]; simp [madeCells, hj, h3, RC.zero]
 ·rw [List.getElem?_eq_none (l := flat _) (by rw [flat_len]; simp; omega), List.getElem?_eq_none (by rw [Array.length_toList, size_madeCells]; omega)]
def OwnC (w : World) (B : Nat) (p : Option Addr) (n c : Nat) (cs : List Cel) : Prop :=
 n = cs.length ∧ ∃ rs : List RC, rs.length = cs.length ∧ w.ownsRow B 52 3 (.slice p n c) n (flat rs) ∧ (∀ i, i < cs.length → Fits w B (rs.getD i RC.zero) (cs.getD i Cel.none)) ∧ ApartC p rs
theorem OwnC.nil (w : World) (B : Nat) : OwnC w B none 0 0 [] := ⟨rfl, [], rfl, World.ownsRow_nil _ _ _ _, fun i h => by simp at h, fun i h => by simp at h, fun i j h => by simp at h⟩
theorem OwnC.cin {w : World} {B : Nat} {p : Option Addr} {n c : Nat} {cs : List Cel} (h : OwnC w B p n c cs) : CIn w p cs := fun hn => by
 obtain ⟨rfl, rs, hl, hr, hf, _⟩ := h; obtain ⟨g, cap, hv, hb, hg⟩ := hr.form hn; simp only [Value.slice.injEq, true_and] at hv; obtain ⟨rfl, rfl⟩ := hv; refine ⟨g, 0, rfl, fun i hi => ?_⟩; obtain ⟨f0, f1, f2⟩ := hf i hi; obtain ⟨a0, a1, a2⟩ := flat_at rs i (by omega); rw [Nat.zero_add]; refine ⟨(rs.getD i RC.zero).2.2.1, (rs.getD i RC.zero).2.2.2.2, ?_, ?_, ?_, f2.bin⟩
 ·rw [hr.cellAt _ (by omega), a0, f0]
 ·rw [hr.cellAt _ (by omega), a1, f1]
 ·rw [hr.cellAt _ (by omega), a2, f2.len]
theorem OwnC.below {w w' : World} {B : Nat} {p : Option Addr} {n c : Nat} {cs : List Cel} (h : OwnC w B p n c cs) (hb : Below w.heap.size w w') : OwnC w' B p n c cs := by
 obtain ⟨rfl, rs, hl, hr, hf, ha⟩ := h; refine ⟨rfl, rs, hl, ⟨hr.1, ?_⟩, fun i hi => ⟨(hf i hi).1, (hf i hi).2.1, (hf i hi).2.2.below hb⟩, ha⟩
 rcases hr.2 with h' | ⟨g, cap, cur, hv, hB, hg, r⟩
 ·exact .inl h'
 ·exact .inr ⟨g, cap, cur, hv, hB, (hb.block g (Array.getElem?_eq_some_iff.1 hg).1).trans hg, r⟩
theorem OwnC.mono {w : World} {B B' : Nat} {p : Option Addr} {n c : Nat} {cs : List Cel} (h : OwnC w B p n c cs) (hB : B' ≤ B) : OwnC w B' p n c cs := by
 obtain ⟨hn, rs, hl, hr, hf, ha⟩ := h; exact ⟨hn, rs, hl, ownsRow_down hr hB, fun i hi => ⟨(hf i hi).1, (hf i hi).2.1, (hf i hi).2.2.mono hB⟩, ha⟩
theorem toCell_any (k n : Int) (p : Option Addr) (m cap : Nat) (xs : List Int) (w : World) (hl : m = xs.length) (hn : m ≤ 1048576) (hin : BIn w p xs) :
  Calls Tryz.prog 23 #[.agg #[.int .i64 k, .int .i64 n, .slice p m cap]] w fun e w' => ∃ g, e = .returned (.agg #[.int .i64 k, .int .i64 n, .slice (some ⟨g, 0, none⟩) m m]) ∧ OwnS w' w.heap.size (some ⟨g, 0, none⟩) m m xs ∧ Below w.heap.size w w' := by
 have HI : Hid (BIn w p xs) := hin; subst hl; clear hin
 go_enter Tryz.func23, Tryz.ntmps23
 go_wp2_with fail
 have hb0 : Below w.heap.size w (((w.alloc (Obj.cells #[Value.int IntKind.i64 k, Value.int IntKind.i64 n, Value.slice p xs.length cap] 37)).alloc
       (Obj.cells #[Value.int IntKind.i64 0, Value.int IntKind.i64 0, Value.slice none 0 0] 52)).alloc
   (Obj.cells #[Value.int IntKind.i64 k, Value.int IntKind.i64 n, Value.slice none 0 0] 52)) :=
  (((Below.refl _ _).alloc (Nat.le_refl _) _).alloc (by simp) _).alloc (by simp; omega) _
 refine (toByteS_any p cap xs _ hn (HI.out.below hb0)).mono ?_; rintro e w1 ⟨rfl, hown, hb1⟩; have b1 : Box3 w1 (w.heap.size + 1) (.int .i64 0) (.int .i64 0) (.slice none 0 0) := Box3.of_block (t := 52) ((hb1.block _ (by simp)).trans (heap_three w _ _ _).1); have b2 : Box3 w1 (w.heap.size + 1 + 1) (.int .i64 k) (.int .i64 n) (.slice none 0 0) := Box3.of_block (t := 52) ((hb1.block _ (by simp)).trans (heap_three w _ _ _).2)
 have HO : Hid (OwnS w1 (w.heap.size + 1 + 1 + 1) (some ⟨w.heap.size + 1 + 1 + 1, 0, none⟩) xs.length xs.length xs) := by
  have := OwnS.of_row hown
  simp at this
  exact this
 have HB : Hid (Below w.heap.size w w1) := Below.on hb0 hb1; obtain ⟨c10, c11, c12, f1⟩ := b1; obtain ⟨c20, c21, c22, f2⟩ := b2; clear hown hb1 hb0; have D := box3_set (w := w1.setCell ⟨w.heap.size + 1 + 1, 2, none⟩ (Value.slice (some ⟨w.heap.size + 1 + 1 + 1, 0, none⟩) xs.length xs.length)) (b := w.heap.size + 1) ((World.cell?_setCell_other _ _ _ _ (by simp)).trans c10) ((World.cell?_setCell_other _ _ _ _ (by simp)).trans c11) ((World.cell?_setCell_other _ _ _ _ (by simp)).trans c12)
  (Value.int IntKind.i64 k) (Value.int IntKind.i64 n) (Value.slice (some ⟨w.heap.size + 1 + 1 + 1, 0, none⟩) xs.length xs.length)
 have HD : Hid _ := D; clear D
 go_wp2
 obtain ⟨d0, d1, d2⟩ := HD.out; refine bodyPost_ret (v := .agg #[.int .i64 k, .int .i64 n, .slice (some ⟨w.heap.size + 1 + 1 + 1, 0, none⟩) xs.length xs.length]) (by simp [results, Tryz.results23, go_sem, d0, d1, d2]) rfl ⟨_, rfl, ?_, ?_⟩
 ·have h := (((HO.out.setCell (a := ⟨w.heap.size + 1 + 1, 2, none⟩) (by simp) (Value.slice (some ⟨w.heap.size + 1 + 1 + 1, 0, none⟩) xs.length xs.length)).setCell (a := ⟨w.heap.size + 1, 0, none⟩) (by simp) (Value.int IntKind.i64 k)).setCell (a := ⟨w.heap.size + 1, 1, none⟩) (by simp) (Value.int IntKind.i64 n)).setCell (a := ⟨w.heap.size + 1, 2, none⟩) (by simp) (Value.slice (some ⟨w.heap.size + 1 + 1 + 1, 0, none⟩) xs.length xs.length)
  exact h.mono (by omega)
 ·exact (((HB.out.setCell (p := ⟨_, _, none⟩) (by simp; omega) _).setCell (p := ⟨_, _, none⟩) (by simp) _).setCell (p := ⟨_, _, none⟩) (by simp) _).setCell (p := ⟨_, _, none⟩) (by simp) _
def Laid (w : World) (H k : Nat) (rs : List RC) (cs : List Cel) : Prop :=
 rs.length = cs.length ∧ w.ownsRow H 52 3 (.slice (some ⟨H, 0, none⟩) cs.length cs.length) cs.length (flat rs) ∧ (∀ i, i < k → Fits w H (rs.getD i RC.zero) (cs.getD i Cel.none)) ∧
 (∀ i, i < k → ∃ g, (rs.getD i RC.zero).2.2.1 = some ⟨g, 0, none⟩ ∧ H < g ∧ g < w.heap.size) ∧ (∀ i j, i < k → j < k → i ≠ j → (rs.getD i RC.zero).2.2.1 ≠ (rs.getD j RC.zero).2.2.1)
theorem Laid.below {w w' : World} {H k : Nat} {rs : List RC} {cs : List Cel} (h : Laid w H k rs cs) (hb : Below w.heap.size w w') : Laid w' H k rs cs := by
 obtain ⟨hl, hr, hf, hg, ha⟩ := h; refine ⟨hl, ⟨hr.1, ?_⟩, fun i hi => ⟨(hf i hi).1, (hf i hi).2.1, (hf i hi).2.2.below hb⟩, fun i hi => ?_, ha⟩
 ·rcases hr.2 with h' | ⟨g, cap, cur, hv, hB, hg, r⟩
  ·exact .inl h'
  ·exact .inr ⟨g, cap, cur, hv, hB, (hb.block g (Array.getElem?_eq_some_iff.1 hg).1).trans hg, r⟩
 ·obtain ⟨g, e, h1, h2⟩ := hg i hi
  exact ⟨g, e, h1, Nat.lt_of_lt_of_le h2 hb.size⟩
theorem Laid.next {w : World} {H k g m B : Nat} {rs : List RC} {cs : List Cel} (h : Laid w H k rs cs) (hk : k < cs.length) (a b : Int) (ea : a = (cs.getD k Cel.none).1) (eb : b = (cs.getD k Cel.none).2.1) (hB : H < B)
  (ho : OwnS w B (some ⟨g, 0, none⟩) m m (cs.getD k Cel.none).2.2) (hnew : ∀ i, i < k → (rs.getD i RC.zero).2.2.1 ≠ some ⟨g, 0, none⟩) :
  Laid (((w.setCell ⟨H, k * 3, none⟩ (.int .i64 a)).setCell ⟨H, k * 3 + 1, none⟩ (.int .i64 b)).setCell ⟨H, k * 3 + 2, none⟩ (.slice (some ⟨g, 0, none⟩) m m)) H (k + 1) (rs.set k (a, b, some ⟨g, 0, none⟩, m, m)) cs := by
 obtain ⟨hl, hr, hf, hg, ha⟩ := h
 have hgB : B ≤ g ∧ g < w.heap.size := by
  rcases ho.form with ⟨h, _⟩ | ⟨g', h', h1, h2⟩
  ·cases h
  ·cases h'; exact ⟨h1, h2⟩
 refine ⟨by simpa using hl, ?_, fun i hi => ?_, fun i hi => ?_, fun i j hi hj hij => ?_⟩
 ·have h1 := (((hr.stored (k * 3) (.int .i64 a)).1.stored (k * 3 + 1) (.int .i64 b)).1.stored (k * 3 + 2) (.slice (some ⟨g, 0, none⟩) m m)).1
  rwa [flat_set rs k (a, b, some ⟨g, 0, none⟩, m, m) (by omega)] at h1
 ·rw [rs_set_at _ _ _ _ (by omega)]
  by_cases e : i = k
  ·subst e
   rw [if_pos rfl]; exact ⟨ea, eb, (((ho.toT.setCell (ne_block (H := H) (by omega)) _).setCell (ne_block (H := H) (by omega)) _).setCell (ne_block (H := H) (by omega)) _).mono (by omega)⟩
  ·rw [if_neg e]
   obtain ⟨f0, f1, f2⟩ := hf i (by omega); obtain ⟨g', e', h1, h2⟩ := hg i (by omega); rw [e'] at f2; rw [Fits, e']; exact ⟨f0, f1, ((f2.setCell (ne_block (H := H) (by omega)) _).setCell (ne_block (H := H) (by omega)) _).setCell (ne_block (H := H) (by omega)) _⟩
 ·rw [rs_set_at _ _ _ _ (by omega)]
  by_cases e : i = k
  ·subst e
   rw [if_pos rfl]; exact ⟨g, rfl, by omega, by simpa using hgB.2⟩
  ·rw [if_neg e]
   obtain ⟨g', e', h1, h2⟩ := hg i (by omega); exact ⟨g', e', h1, by simpa using h2⟩
 ·rw [rs_set_at _ _ _ _ (by omega), rs_set_at _ _ _ _ (by omega)]
  by_cases e : i = k
  ·rw [if_pos e, if_neg (by omega)]
   exact fun x => hnew j (by omega) x.symm
  ·by_cases e' : j = k
   ·rw [if_neg e, if_pos e']
    exact hnew i (by omega)
   ·rw [if_neg e, if_neg e']
    exact ha i j (by omega) (by omega) hij
theorem Laid.own {w : World} {H : Nat} {rs : List RC} {cs : List Cel} (h : Laid w H cs.length rs cs) : OwnC w H (some ⟨H, 0, none⟩) cs.length cs.length cs := by
 obtain ⟨hl, hr, hf, hg, ha⟩ := h; refine ⟨rfl, rs, hl, hr, hf, fun i hi _ e => ?_, fun i j hi hj hij _ _ => ha i j (by omega) (by omega) hij⟩; obtain ⟨g, e', h1, _⟩ := hg i (by omega); rw [e] at e'; simp only [Option.some.injEq, Addr.mk.injEq, and_true] at e'
 omega
theorem toCellS_any (p : Option Addr) (cap : Nat) (cs : List Cel) (w : World) (hn : cs.length + tl cs ≤ 1048576) (hc : CIn w p cs) :
  Calls Tryz.prog 6 #[.slice p cs.length cap] w fun e w' => e = .returned (.slice (some ⟨w.heap.size, 0, none⟩) cs.length cs.length) ∧ OwnC w' w.heap.size (some ⟨w.heap.size, 0, none⟩) cs.length cs.length cs ∧ Below w.heap.size w w' := by
 obtain ⟨i0, hi, hz0, hz1, hz2⟩ := info_parts infoCell
 have hmx : cs.length ≤ maxLen := by unfold maxLen; omega
 have HC : Hid (CIn w p cs) := hc; clear hc
 go_enter Tryz.func6, Tryz.ntmps6
 go_wp2_with (at_make; refine wpList_make_full _ rfl _ _ 27 rfl w.heap.size 52 i0 (.agg #[.int .i64 0, .int .i64 0, .slice none 0 0]) 3 Tryz.underlying27 hi hz0 hz1 _ _ _ _ cs.length rfl rfl rfl rfl (by rw [hz2]; omega) hmx (Nat.le_refl _) ?_; intro w1 hown hgrow); have HB1 : Hid (Below w.heap.size w w1) := (Below.refl _ _).grown hgrow (Nat.le_refl _) (fun k h => by cases h)
 have HO : Hid (Laid w1 w.heap.size 0 (List.replicate cs.length RC.zero) cs) := ⟨by simp, by
  have := hown; rw [show (Value.agg #[.int .i64 0, .int .i64 0, .slice none 0 0]).cells = #[.int .i64 0, .int .i64 0, .slice none 0 0] from rfl, made_flat] at this
  exact this, fun i h => by omega, fun i h => by omega, fun i j h => by omega⟩
 clear hown hgrow
 go_loopw [4] (fun i wr => ∃ k rs, k ≤ cs.length ∧ i = .int .i64 k ∧ Hid (Laid wr w.heap.size k rs cs) ∧ Hid (Below w.heap.size w wr)) (fun i _ => cs.length - (intOf i).toNat)
 case atStart => exact ⟨0, _, Nat.zero_le _, rfl, HO, HB1⟩
 case round =>
  obtain ⟨k, rs, hk, rfl, HR, HB⟩ := hrel
  by_cases hlt : k < cs.length
  ·obtain ⟨b, o, rfl, hcs⟩ := HC.out (by omega)
   obtain ⟨q, qc, h0, h1, h2, h3⟩ := (hcs k hlt).below HB.out
   have hmk : (cs.getD k Cel.none).2.2.length ≤ 1048576 := by have := tl_at cs k hlt; omega
   obtain ⟨c0, e0⟩ : ∃ x, x = (cs.getD k Cel.none).1 := ⟨_, rfl⟩
   obtain ⟨c1, e1⟩ : ∃ x, x = (cs.getD k Cel.none).2.1 := ⟨_, rfl⟩
   obtain ⟨m, em⟩ : ∃ x, x = (cs.getD k Cel.none).2.2.length := ⟨_, rfl⟩
   rw [← e0] at h0; rw [← e1] at h1; rw [← em] at h2 hmk; have HE0 : Hid _ := e0; have HE1 : Hid _ := e1; have HS := toCell_any c0 c1 q m qc (cs.getD k Cel.none).2.2 wr em hmk h3; clear e0 e1 em hcs h3 HC; go_wp2_with fail; refine HS.mono ?_; rintro e w2 ⟨g, rfl, hown2, hb2⟩; have HB2 : Hid (Below w.heap.size w w2) := Below.on HB.out hb2; have HL2 : Hid (Laid w2 w.heap.size k rs cs) := HR.out.below hb2; have HO2 : Hid (OwnS w2 wr.heap.size (some ⟨g, 0, none⟩) m m (cs.getD k Cel.none).2.2) := hown2
   have hHw : w.heap.size < wr.heap.size := by
    rcases HR.out.2.1.2 with ⟨h', _⟩ | ⟨g', cap', cur, hv, hb', hg', _⟩
    ·simp at h'
    ·simp only [Value.slice.injEq, Option.some.injEq, Addr.mk.injEq, and_true, true_and] at hv
     rw [hv.1]; exact (Array.getElem?_eq_some_iff.1 hg').1
   have hge : wr.heap.size ≤ g := by
    rcases hown2.form with ⟨h, _⟩ | ⟨g', h', h1', _⟩
    ·cases h
    ·cases h'; exact h1'
   have HN : Hid (∀ i, i < k → (rs.getD i RC.zero).2.2.1 ≠ some ⟨g, 0, none⟩) := fun i hi e => by
    obtain ⟨g', e', _, h2'⟩ := HR.out.2.2.2.1 i hi; rw [e] at e'; simp only [Option.some.injEq, Addr.mk.injEq, and_true] at e'
    omega
   clear hown2 hb2; obtain ⟨a0, a1, a2⟩ := flat_at rs k (by have := HR.out.1; omega); have d0 := (HL2.out.2.1.cellAt (k * 3) (by omega)).trans a0; have d1 := (HL2.out.2.1.cellAt (k * 3 + 1) (by omega)).trans a1; have d2 := (HL2.out.2.1.cellAt (k * 3 + 2) (by omega)).trans a2; have ff := HL2.out.2.1.frozenAt; clear a0 a1 a2
   go_wp2
   go_roundw
   case rel => exact ⟨k + 1, _, by omega, by go_num, HL2.out.next hlt _ _ HE0.out HE1.out hHw HO2.out HN.out, ((HB2.out.setCell (p := ⟨_, _, none⟩) (Nat.le_refl _) _).setCell (p := ⟨_, _, none⟩) (Nat.le_refl _) _).setCell (p := ⟨_, _, none⟩) (Nat.le_refl _) _⟩
   case measure => simp [intOf]; omega
  ·obtain rfl : k = cs.length := by omega
   clear HC
   go_wp2
   go_ret; exact ⟨rfl, HR.out.own, HB.out⟩
theorem eqCell_any (k1 n1 k2 n2 : Int) (p q : Option Addr) (m1 m2 c1 c2 : Nat) (xs ys : List Int) (w : World) (hl1 : m1 = xs.length) (hl2 : m2 = ys.length) (hn : m1 ≤ 1000000000) (hm : m2 ≤ 1000000000) (hx : BIn w p xs) (hy : BIn w q ys) :
  Calls Tryz.prog 29 #[.agg #[.int .i64 k1, .int .i64 n1, .slice p m1 c1], .agg #[.int .i64 k2, .int .i64 n2, .slice q m2 c2]] w fun e w' => e = .returned (.bool (decide (((k1, n1, xs) : Cel) = (k2, n2, ys)))) ∧ Below w.heap.size w w' := by
 subst hl1 hl2
 have HSS : Hid (∀ W, Below w.heap.size w W → Calls Tryz.prog 114 #[.slice p xs.length c1, .slice q ys.length c2] W fun e w' => e = .returned (.bool (decide (xs = ys))) ∧ ∃ n, w' = W.drewN n) := fun W hW => eqByteS_any p q c1 c2 xs ys W hn hm (hx.below hW) (hy.below hW)
 have hb0 : Below w.heap.size w ((w.alloc (Obj.cells #[Value.int IntKind.i64 k1, Value.int IntKind.i64 n1, Value.slice p xs.length c1] 52)).alloc (Obj.cells #[Value.int IntKind.i64 k2, Value.int IntKind.i64 n2, Value.slice q ys.length c2] 52)) := ((Below.refl _ _).alloc (Nat.le_refl _) _).alloc (by simp) _; clear hx hy
 by_cases hk : k1 = k2
 ·subst hk
  by_cases hnn : n1 = n2
  ·subst hnn
   have HS := HSS.out _ hb0; have HB : Hid _ := hb0; clear hb0 HSS
   have hd : decide (((k1, n1, xs) : Cel) = (k1, n1, ys)) = decide (xs = ys) := by simp
   rw [hd]
   cases ht : decide (xs = ys)
   rotate_right
   case' _ =>
    rw [ht] at HS
   rotate_right
   case' _ =>
    rw [ht] at HS
   all_goals
    clear ht hd
    go_enter Tryz.func29, Tryz.ntmps29
    go_wp2_with (go_at_call 114; refine HS.mono ?_; rintro e w' ⟨rfl, m, rfl⟩); go_ret; exact ⟨rfl, below_drewN HB.out _⟩
  ·have hd : decide (((k1, n1, xs) : Cel) = (k1, n2, ys)) = false := by simp [hnn]
   rw [hd]; have HB : Hid _ := hb0; clear hd HSS hb0
   have hnn' : (n1 != n2) = true := by simpa using hnn
   go_enter Tryz.func29, Tryz.ntmps29
   go_wp2
   go_ret; exact ⟨rfl, HB.out⟩
 ·have hd : decide (((k1, n1, xs) : Cel) = (k2, n2, ys)) = false := by simp [hk]
  rw [hd]; have HB : Hid _ := hb0; clear hd HSS hb0
  have hk' : (k1 != k2) = true := by simpa using hk
  go_enter Tryz.func29, Tryz.ntmps29
  go_wp2
  go_ret; exact ⟨rfl, HB.out⟩
theorem eqCellS_any (p q : Option Addr) (c1 c2 : Nat) (xs ys : List Cel) (w : World) (hn : xs.length + tl xs ≤ 1000000000) (hm : ys.length + tl ys ≤ 1000000000) (hx : CIn w p xs) (hy : CIn w q ys) :
  Calls Tryz.prog 9 #[.slice p xs.length c1, .slice q ys.length c2] w fun e w' => e = .returned (.bool (decide (xs = ys))) ∧ Below w.heap.size w w' := by
 have HX : Hid (CIn w p xs) := hx; have HY : Hid (CIn w q ys) := hy; clear hx hy
 by_cases hl : xs.length = ys.length
 ·have HL : Hid (xs.length = ys.length) := hl
  obtain ⟨n, en⟩ : ∃ n, ys.length = n := ⟨_, rfl⟩
  rw [hl]; rw [hl] at hn; rw [en] at hn hm hl ⊢; have HE : Hid (ys.length = n) := en; clear hl en
  go_enter Tryz.func9, Tryz.ntmps9
  go_wp2
  go_loopw [5] (fun i wr => ∃ k : Nat, k ≤ n ∧ i = .int .i64 k ∧ Hid (Below w.heap.size w wr) ∧ Hid (∀ j, j < k → xs.getD j Cel.none = ys.getD j Cel.none)) (fun i _ => n - (intOf i).toNat)
  case atStart => exact ⟨0, Nat.zero_le _, rfl, Below.refl _ _, fun _ h => absurd h (Nat.not_lt_zero _)⟩
  case round =>
   obtain ⟨k, hk, rfl, HB, HN⟩ := hrel
   by_cases hlt : k < n
   ·have hkx : k < xs.length := by rw [HL.out, HE.out]; exact hlt
    have hky : k < ys.length := by rw [HE.out]; exact hlt
    obtain ⟨b, o, rfl, hcx⟩ := HX.out (by omega); obtain ⟨b', o', rfl, hcy⟩ := HY.out (by omega); obtain ⟨px, qx, x0, x1, x2, x3⟩ := (hcx k hkx).below HB.out; obtain ⟨py, qy, y0, y1, y2, y3⟩ := (hcy k hky).below HB.out; have bx := tl_at xs k hkx; have bY := tl_at ys k hky; have HEQ : Hid (decide (((xs.getD k Cel.none).1, (xs.getD k Cel.none).2.1, (xs.getD k Cel.none).2.2) = (((ys.getD k Cel.none).1, (ys.getD k Cel.none).2.1, (ys.getD k Cel.none).2.2) : Cel)) = decide (xs.getD k Cel.none = ys.getD k Cel.none)) := rfl
    obtain ⟨a0, ea0⟩ : ∃ x, x = (xs.getD k Cel.none).1 := ⟨_, rfl⟩
    obtain ⟨a1, ea1⟩ : ∃ x, x = (xs.getD k Cel.none).2.1 := ⟨_, rfl⟩
    obtain ⟨am, eam⟩ : ∃ x, x = (xs.getD k Cel.none).2.2.length := ⟨_, rfl⟩
    obtain ⟨e0, ee0⟩ : ∃ x, x = (ys.getD k Cel.none).1 := ⟨_, rfl⟩
    obtain ⟨e1, ee1⟩ : ∃ x, x = (ys.getD k Cel.none).2.1 := ⟨_, rfl⟩
    obtain ⟨em, eem⟩ : ∃ x, x = (ys.getD k Cel.none).2.2.length := ⟨_, rfl⟩
    have HS : Hid (∀ W, Below wr.heap.size wr W → Calls Tryz.prog 29 #[.agg #[.int .i64 a0, .int .i64 a1, .slice px am qx], .agg #[.int .i64 e0, .int .i64 e1, .slice py em qy]] W fun e w' => e = .returned (.bool (decide (xs.getD k Cel.none = ys.getD k Cel.none))) ∧ Below W.heap.size W w') := fun W hW => by
     have := eqCell_any a0 a1 e0 e1 px py am em qx qy _ _ W eam eem (by omega) (by omega) (x3.below hW) (y3.below hW)
     rwa [ea0, ea1, ee0, ee1, HEQ.out, ← ea0, ← ea1, ← ee0, ← ee1] at this
    rw [← ea0] at x0; rw [← ea1] at x1; rw [← eam] at x2; rw [← ee0] at y0; rw [← ee1] at y1; rw [← eem] at y2; clear ea0 ea1 eam ee0 ee1 eem HEQ x3 y3 hcx hcy HX HY bx bY hkx hky
    cases ht : decide (xs.getD k Cel.none = ys.getD k Cel.none)
    ·rw [ht] at HS
     have HT : Hid _ := ht; clear ht
     go_wp2
     go_region_with (go_at_call 29; refine (HS.out _ (Below.refl _ _).drew).mono ?_; rintro e w2 ⟨rfl, hb2⟩)
     all_goals go_wp2
     all_goals go_ret
     all_goals exact ⟨ret_bool (by
      symm; rw [decide_eq_false_iff_not]; intro e
      have := HT.out; rw [decide_eq_false_iff_not] at this
      exact this (by rw [e])), Below.on HB.out ((Below.refl _ _).drew.trans hb2)⟩
    ·rw [ht] at HS
     have HT : Hid _ := ht; clear ht
     go_wp2
     go_region_with (go_at_call 29; refine (HS.out _ (Below.refl _ _).drew).mono ?_; rintro e w2 ⟨rfl, hb2⟩)
     all_goals go_wp2
     all_goals go_roundw
     all_goals first
      | (simp [intOf]; omega)
      | exact ⟨k + 1, by omega, by go_num, Below.on HB.out ((Below.refl _ _).drew.trans hb2), fun j hj => by
         by_cases e : j = k
         ·subst e; exact of_decide_eq_true HT.out
         ·exact HN.out j (by omega)⟩
   ·obtain rfl : k = n := by omega
    go_wp2
    go_ret; exact ⟨ret_bool (by symm; rw [decide_eq_true_iff]; exact same_cells HL.out (by rw [HL.out, HE.out]; exact HN.out)), HB.out⟩
 ·have hne : ¬ ((xs.length : Int) = (ys.length : Int)) := by omega
  have e : decide (xs = ys) = false := by rw [decide_eq_false_iff_not]; intro e; exact hl (by rw [e])
  rw [e]; clear e
  go_enter Tryz.func9, Tryz.ntmps9
  go_wp2
  go_ret; exact ⟨rfl, Below.refl _ _⟩
def cellB (k n : Int) (m : Nat) : Bool := decide ((k = 0 ∧ 0 ≤ n ∧ n ≤ 1000000 ∧ m = 0) ∨ (k = 1 ∧ -1000000000000000 ≤ n ∧ n ≤ 1000000000000000 ∧ m = 0) ∨ (k = 2 ∧ m ≤ 100 ∧ n = 0) ∨ (k = 3 ∧ m ≤ 100 ∧ 1 ≤ n ∧ n ≤ 20))
theorem isCell_any (k n : Int) (p : Option Addr) (m c : Nat) (w : World) :
  Calls Tryz.prog 161 #[.agg #[.int .i64 k, .int .i64 n, .slice p m c]] w fun e w' => e = .returned (.bool (cellB k n m)) ∧ Below w.heap.size w w' := by
 have fin : ∀ {a : Bool} {o : Obj}, a = cellB k n m → (Ending.returned (.bool a) = .returned (.bool (cellB k n m)) ∧ Below w.heap.size w (w.alloc o)) := fun h => ⟨ret_bool h, (Below.refl _ _).alloc (Nat.le_refl _) _⟩
 have FIN : Hid _ := @fin; clear fin
 by_cases k0 : k = 0
 ·subst k0
  by_cases hm : m = 0
  ·subst hm
   by_cases a : 0 ≤ n
   ·go_enter Tryz.func161, Tryz.ntmps161
    go_wp2
    go_ret; exact FIN.out (by rw [Bool.eq_iff_iff]; simp [cellB]; omega)
   ·go_enter Tryz.func161, Tryz.ntmps161
    go_wp2
    go_ret; exact FIN.out (by rw [Bool.eq_iff_iff]; simp [cellB]; omega)
  ·have hm' : ((m : Int) == 0) = false := by simp; omega
   have HM : Hid (m ≠ 0) := hm; clear hm
   go_enter Tryz.func161, Tryz.ntmps161
   go_wp2
   go_ret; exact FIN.out (by have := HM.out; rw [Bool.eq_iff_iff]; simp [cellB]; omega)
 ·by_cases k1 : k = 1
  ·subst k1
   by_cases hm : m = 0
   ·subst hm
    by_cases a : -1000000000000000 ≤ n
    ·go_enter Tryz.func161, Tryz.ntmps161
     go_wp2
     go_ret; exact FIN.out (by rw [Bool.eq_iff_iff]; simp [cellB]; omega)
    ·go_enter Tryz.func161, Tryz.ntmps161
     go_wp2
     go_ret; exact FIN.out (by rw [Bool.eq_iff_iff]; simp [cellB]; omega)
   ·have hm' : ((m : Int) == 0) = false := by simp; omega
    have HM : Hid (m ≠ 0) := hm; clear hm k0
    go_enter Tryz.func161, Tryz.ntmps161
    go_wp2
    go_ret; exact FIN.out (by have := HM.out; rw [Bool.eq_iff_iff]; simp [cellB]; omega)
  ·have t0 : (k == 0) = false := by simpa using k0
   have t1 : (k == 1) = false := by simpa using k1
   by_cases k2 : k = 2
   ·subst k2
    clear t0 t1 k0 k1
    by_cases hm : (m : Int) ≤ 100
    ·go_enter Tryz.func161, Tryz.ntmps161
     go_wp2
     go_ret; exact FIN.out (by rw [Bool.eq_iff_iff]; simp [cellB]; omega)
    ·go_enter Tryz.func161, Tryz.ntmps161
     go_wp2
     go_ret; exact FIN.out (by rw [Bool.eq_iff_iff]; simp [cellB]; omega)
   ·by_cases k3 : k = 3
    ·subst k3
     clear t0 t1 k0 k1 k2
     by_cases hm : (m : Int) ≤ 100
     ·by_cases a : 1 ≤ n
      ·go_enter Tryz.func161, Tryz.ntmps161
       go_wp2
       go_ret; exact FIN.out (by rw [Bool.eq_iff_iff]; simp [cellB]; omega)
      ·go_enter Tryz.func161, Tryz.ntmps161
       go_wp2
       go_ret; exact FIN.out (by rw [Bool.eq_iff_iff]; simp [cellB]; omega)
     ·go_enter Tryz.func161, Tryz.ntmps161
      go_wp2
      go_ret; exact FIN.out (by rw [Bool.eq_iff_iff]; simp [cellB]; omega)
    ·have t2 : (k == 2) = false := by simpa using k2
     have t3 : (k == 3) = false := by simpa using k3
     have HK : Hid (k ≠ 0 ∧ k ≠ 1 ∧ k ≠ 2 ∧ k ≠ 3) := ⟨k0, k1, k2, k3⟩
     clear k0 k1 k2 k3
     go_enter Tryz.func161, Tryz.ntmps161
     go_wp2
     go_ret; exact FIN.out (by have := HK.out; rw [Bool.eq_iff_iff]; simp [cellB]; omega)
theorem l2cell_any (k n : Int) (p : Option Addr) (m c : Nat) (w : World) :
  Calls Tryz.prog 115 #[.agg #[.int .i64 k, .int .i64 n, .slice p m c]] w fun e w' => e = .returned (.bool (cellB k n m)) ∧ Below w.heap.size w w' := by
 have fin : ∀ {a : Bool} {o : Obj}, a = cellB k n m → (Ending.returned (.bool a) = .returned (.bool (cellB k n m)) ∧ Below w.heap.size w (w.alloc o)) := fun h => ⟨ret_bool h, (Below.refl _ _).alloc (Nat.le_refl _) _⟩
 have FIN : Hid _ := @fin; clear fin
 by_cases k0 : k = 0
 ·subst k0
  by_cases a : 0 ≤ n
  ·by_cases b : n ≤ 1000000
   ·go_enter Tryz.func115, Tryz.ntmps115
    go_wp2
    go_ret; exact FIN.out (by rw [Bool.eq_iff_iff]; simp [cellB]; omega)
   ·go_enter Tryz.func115, Tryz.ntmps115
    go_wp2
    go_ret; exact FIN.out (by rw [Bool.eq_iff_iff]; simp [cellB]; omega)
  ·go_enter Tryz.func115, Tryz.ntmps115
   go_wp2
   go_ret; exact FIN.out (by rw [Bool.eq_iff_iff]; simp [cellB]; omega)
 ·by_cases k1 : k = 1
  ·subst k1
   by_cases a : -1000000000000000 ≤ n
   ·by_cases b : n ≤ 1000000000000000
    ·go_enter Tryz.func115, Tryz.ntmps115
     go_wp2
     go_ret; exact FIN.out (by rw [Bool.eq_iff_iff]; simp [cellB]; omega)
    ·go_enter Tryz.func115, Tryz.ntmps115
     go_wp2
     go_ret; exact FIN.out (by rw [Bool.eq_iff_iff]; simp [cellB]; omega)
   ·go_enter Tryz.func115, Tryz.ntmps115
    go_wp2
    go_ret; exact FIN.out (by rw [Bool.eq_iff_iff]; simp [cellB]; omega)
  ·have t0 : (k == 0) = false := by simpa using k0
   have t1 : (k == 1) = false := by simpa using k1
   by_cases hm : 100 < m
   ·have hm' : (100 : Int) < m := by omega
    have HK : Hid (k ≠ 0 ∧ k ≠ 1) := ⟨k0, k1⟩
    clear k0 k1
    go_enter Tryz.func115, Tryz.ntmps115
    go_wp2
    go_ret; exact FIN.out (by have := HK.out; rw [Bool.eq_iff_iff]; simp [cellB]; omega)
   ·have hm' : ¬ (100 : Int) < m := by omega
    by_cases k2 : k = 2
    ·subst k2
     clear t0 t1 k0 k1
     go_enter Tryz.func115, Tryz.ntmps115
     go_wp2
     go_ret; exact FIN.out (by rw [Bool.eq_iff_iff]; simp [cellB]; omega)
    ·by_cases k3 : k = 3
     ·subst k3
      clear t0 t1 k0 k1 k2
      by_cases a : 1 ≤ n
      ·go_enter Tryz.func115, Tryz.ntmps115
       go_wp2
       go_ret; exact FIN.out (by rw [Bool.eq_iff_iff]; simp [cellB]; omega)
      ·go_enter Tryz.func115, Tryz.ntmps115
       go_wp2
       go_ret; exact FIN.out (by rw [Bool.eq_iff_iff]; simp [cellB]; omega)
     ·have t2 : (k == 2) = false := by simpa using k2
      have t3 : (k == 3) = false := by simpa using k3
      have HK : Hid (k ≠ 0 ∧ k ≠ 1 ∧ k ≠ 2 ∧ k ≠ 3) := ⟨k0, k1, k2, k3⟩
      clear k0 k1 k2 k3
      go_enter Tryz.func115, Tryz.ntmps115
      go_wp2
      go_ret; exact FIN.out (by have := HK.out; rw [Bool.eq_iff_iff]; simp [cellB]; omega)
def grows (k n : Int) : Int := if k = 3 then n else 0
def validFrom : Int → List Cel → Bool
 | m, [] => m == 0
 | m, c :: r => if m = 0 ∨ cellB c.1 c.2.1 c.2.2.length = false then false else validFrom (m - 1 + grows c.1 c.2.1) r
def validB (cs : List Cel) : Bool := decide (cs.length ≤ 2000) && validFrom 1 cs
theorem validFrom_at (m : Int) (cs : List Cel) (k : Nat) (h : k < cs.length) : validFrom m (cs.drop k) =
  if m = 0 ∨ cellB (cs.getD k Cel.none).1 (cs.getD k Cel.none).2.1 (cs.getD k Cel.none).2.2.length = false then false else validFrom (m - 1 + grows (cs.getD k Cel.none).1 (cs.getD k Cel.none).2.1) (cs.drop (k + 1)) := by
 rw [drop_at cs k h, validFrom]
theorem cellB_comp {n : Int} {m : Nat} (h : cellB 3 n m = true) : 1 ≤ n ∧ n ≤ 20 := by simp [cellB] at h; omega
theorem specValid_any (p : Option Addr) (c : Nat) (cs : List Cel) (w : World) (hn : cs.length ≤ 1000000000) (hc : CIn w p cs) :
  Calls Tryz.prog 36 #[.slice p cs.length c] w fun e w' => e = .returned (.bool (validB cs)) ∧ Below w.heap.size w w' := by
 have HC : Hid (CIn w p cs) := hc; clear hc
 by_cases hl : cs.length ≤ 2000
 ·have hl' : ¬ (2000 : Int) < cs.length := by omega
  have hv : validB cs = validFrom 1 cs := by simp [validB, hl]
  rw [hv]; clear hv
  go_enter Tryz.func36, Tryz.ntmps36
  go_wp2
  clear hl'
  go_loopw [3, 4] (fun s i wr => ∃ (k : Nat) (m : Int), k ≤ cs.length ∧ 0 ≤ m ∧ m ≤ 1 + 20 * k ∧ s = .int .i64 m ∧ i = .int .i64 k ∧ Hid (validFrom 1 cs = validFrom m (cs.drop k)) ∧ Hid (Below w.heap.size w wr)) (fun _ i _ => cs.length - (intOf i).toNat)
  case atStart => exact ⟨0, 1, Nat.zero_le _, by decide, by decide, rfl, rfl, rfl, Below.refl _ _⟩
  case round =>
   obtain ⟨k, m, hk, hm0, hm1, rfl, rfl, HV, HB⟩ := hrel
   by_cases hlt : k < cs.length
   ·obtain ⟨b, o, rfl, hcs⟩ := HC.out (by omega)
    obtain ⟨q, qc, h0, h1, h2, _⟩ := (hcs k hlt).below HB.out; have HA : Hid _ := validFrom_at m cs k hlt
    obtain ⟨c0, e0⟩ : ∃ x, x = (cs.getD k Cel.none).1 := ⟨_, rfl⟩
    obtain ⟨c1, e1⟩ : ∃ x, x = (cs.getD k Cel.none).2.1 := ⟨_, rfl⟩
    obtain ⟨t, et⟩ : ∃ x, x = (cs.getD k Cel.none).2.2.length := ⟨_, rfl⟩
    rw [← e0] at h0 HA; rw [← e1] at h1 HA; rw [← et] at h2 HA; clear e0 e1 et hcs HC
    by_cases hz : m = 0
    ·subst hz
     go_wp2
     go_ret; exact ⟨ret_bool (by rw [HV.out, HA.out, if_pos (by simp)]), HB.out⟩
    ·have hz' : (m == 0) = false := by simpa using hz
     have HZ : Hid (m ≠ 0) := hz
     have HS := fun W => l2cell_any c0 c1 q t qc W
     cases hb : cellB c0 c1 t
     ·rw [hb] at HS
      have HBB : Hid _ := hb; clear hb hz; go_wp2_with (go_at_call 115; refine (HS _).mono ?_; rintro e w2 ⟨rfl, hb2⟩); go_ret; exact ⟨ret_bool (by rw [HV.out, HA.out, if_pos (.inr HBB.out)]), Below.on HB.out hb2⟩
     ·rw [hb] at HS
      have HBB : Hid _ := hb; clear hb hz
      by_cases h3 : c0 = 3
      ·subst h3
       have hc1 := cellB_comp HBB.out; go_wp2_with fail; refine (HS _).mono ?_; rintro e w2 ⟨rfl, hb2⟩; have h0' := (hb2.cell (World.block_lt_of_cell? _ _ h0)).trans h0; have h1' := (hb2.cell (World.block_lt_of_cell? _ _ h1)).trans h1; have HB2 : Hid (Below w.heap.size w w2) := Below.on HB.out hb2; clear hb2 h0 h1 h2 HS
       go_wp2
       go_roundw
       case rel => exact ⟨k + 1, m - 1 + c1, by omega, by have := HZ.out; omega, by omega, by go_num, by go_num, by show _ = _; rw [HV.out, HA.out, if_neg (by rintro (h | h); exact HZ.out h; rw [HBB.out] at h; cases h)]; rfl, HB2.out⟩
       case measure => simp [intOf]; omega
      ·have h3' : (c0 == 3) = false := by simpa using h3
       have H3 : Hid (c0 ≠ 3) := h3; clear h3; go_wp2_with fail; refine (HS _).mono ?_; rintro e w2 ⟨rfl, hb2⟩; have h0' := (hb2.cell (World.block_lt_of_cell? _ _ h0)).trans h0; have HB2 : Hid (Below w.heap.size w w2) := Below.on HB.out hb2; clear hb2 h0 h1 h2 HS
       go_wp2
       go_roundw
       case rel => exact ⟨k + 1, m - 1, by omega, by have := HZ.out; omega, by omega, by go_num, by go_num, by show _ = _; rw [HV.out, HA.out, if_neg (by rintro (h | h); exact HZ.out h; rw [HBB.out] at h; cases h), grows, if_neg H3.out, Int.add_zero], HB2.out⟩
       case measure => simp [intOf]; omega
   ·obtain rfl : k = cs.length := by omega
    have HV' : Hid (validFrom 1 cs = (m == 0)) := by
     have := HV.out; rw [List.drop_length] at this; exact this
    clear HV HC
    go_wp2
    go_ret; exact ⟨ret_bool HV'.out.symm, HB.out⟩
 ·have hl' : (2000 : Int) < cs.length := by omega
  have hv : validB cs = false := by simp [validB]; omega
  rw [hv]; clear hv
  go_enter Tryz.func36, Tryz.ntmps36
  go_wp2
  go_ret; exact ⟨rfl, Below.refl _ _⟩
theorem implValid_any (p : Option Addr) (c : Nat) (cs : List Cel) (w : World) (hn : cs.length ≤ 1000000000) (hc : CIn w p cs) :
  Calls Tryz.prog 96 #[.slice p cs.length c] w fun e w' => e = .returned (.bool (validB cs)) ∧ Below w.heap.size w w' := by
 have HC : Hid (CIn w p cs) := hc; clear hc
 by_cases hl : cs.length ≤ 2000
 ·have hl' : ¬ (2000 : Int) < cs.length := by omega
  have hv : validB cs = validFrom 1 cs := by simp [validB, hl]
  rw [hv]; clear hv
  go_enter Tryz.func96, Tryz.ntmps96
  go_wp2
  clear hl'
  go_loopw [3, 11] (fun s i wr => ∃ (k : Nat) (m : Int), k ≤ cs.length ∧ 0 ≤ m ∧ m ≤ 1 + 20 * k ∧ s = .int .i64 m ∧ i = .int .i64 k ∧ Hid (validFrom 1 cs = validFrom m (cs.drop k)) ∧ Hid (Below w.heap.size w wr)) (fun _ i _ => cs.length - (intOf i).toNat)
  case atStart => exact ⟨0, 1, Nat.zero_le _, by decide, by decide, rfl, rfl, rfl, Below.refl _ _⟩
  case round =>
   obtain ⟨k, m, hk, hm0, hm1, rfl, rfl, HV, HB⟩ := hrel
   by_cases hlt : k < cs.length
   ·obtain ⟨b, o, rfl, hcs⟩ := HC.out (by omega)
    obtain ⟨q, qc, h0, h1, h2, _⟩ := (hcs k hlt).below HB.out; have HA : Hid _ := validFrom_at m cs k hlt
    obtain ⟨c0, e0⟩ : ∃ x, x = (cs.getD k Cel.none).1 := ⟨_, rfl⟩
    obtain ⟨c1, e1⟩ : ∃ x, x = (cs.getD k Cel.none).2.1 := ⟨_, rfl⟩
    obtain ⟨t, et⟩ : ∃ x, x = (cs.getD k Cel.none).2.2.length := ⟨_, rfl⟩
    rw [← e0] at h0 HA; rw [← e1] at h1 HA; rw [← et] at h2 HA; clear e0 e1 et hcs HC
    by_cases hz : m = 0
    ·subst hz
     go_wp2
     go_ret; exact ⟨ret_bool (by rw [HV.out, HA.out, if_pos (by simp)]), HB.out.alloc HB.out.size _⟩
    ·have hz' : (m == 0) = false := by simpa using hz
     have HZ : Hid (m ≠ 0) := hz
     have HS := fun W => isCell_any c0 c1 q t qc W
     have hb0 : Below w.heap.size w (wr.alloc (Obj.cells #[.int .i64 c0, .int .i64 c1, .slice q t qc] 52)) := HB.out.alloc HB.out.size _; have HB0 : Hid _ := hb0; clear hb0
     cases hb : cellB c0 c1 t
     ·rw [hb] at HS
      have HBB : Hid _ := hb; clear hb hz; go_wp2_with (go_at_call 161; refine (HS _).mono ?_; rintro e w2 ⟨rfl, hb2⟩); go_ret; exact ⟨ret_bool (by rw [HV.out, HA.out, if_pos (.inr HBB.out)]), Below.on HB0.out hb2⟩
     ·rw [hb] at HS
      have HBB : Hid _ := hb; clear hb hz
      by_cases h3 : c0 = 3
      ·subst h3
       have hc1 := cellB_comp HBB.out; go_wp2_with fail; refine (HS _).mono ?_; rintro e w2 ⟨rfl, hb2⟩; have bb : Box3 w2 wr.heap.size (.int .i64 3) (.int .i64 c1) (.slice q t qc) := Box3.of_block (t := 52) ((hb2.block _ (by simp)).trans (heap_alloc_new _ _)); obtain ⟨h0', h1', _, _⟩ := bb; have HB2 : Hid (Below w.heap.size w w2) := Below.on HB0.out hb2; clear hb2 h0 h1 h2 HS
       go_wp2
       go_roundw
       case rel => exact ⟨k + 1, m - 1 + c1, by omega, by have := HZ.out; omega, by omega, by go_num, by go_num, by show _ = _; rw [HV.out, HA.out, if_neg (by rintro (h | h); exact HZ.out h; rw [HBB.out] at h; cases h)]; rfl, HB2.out⟩
       case measure => simp [intOf]; omega
      ·have h3' : (c0 == 3) = false := by simpa using h3
       have H3 : Hid (c0 ≠ 3) := h3; clear h3; go_wp2_with fail; refine (HS _).mono ?_; rintro e w2 ⟨rfl, hb2⟩; have bb : Box3 w2 wr.heap.size (.int .i64 c0) (.int .i64 c1) (.slice q t qc) := Box3.of_block (t := 52) ((hb2.block _ (by simp)).trans (heap_alloc_new _ _)); obtain ⟨h0', _, _, _⟩ := bb; have HB2 : Hid (Below w.heap.size w w2) := Below.on HB0.out hb2; clear hb2 h0 h1 h2 HS
       go_wp2
       go_roundw
       case rel => exact ⟨k + 1, m - 1, by omega, by have := HZ.out; omega, by omega, by go_num, by go_num, by show _ = _; rw [HV.out, HA.out, if_neg (by rintro (h | h); exact HZ.out h; rw [HBB.out] at h; cases h), grows, if_neg H3.out, Int.add_zero], HB2.out⟩
       case measure => simp [intOf]; omega
   ·obtain rfl : k = cs.length := by omega
    have HV' : Hid (validFrom 1 cs = (m == 0)) := by
     have := HV.out; rw [List.drop_length] at this; exact this
    clear HV HC
    go_wp2
    go_ret; exact ⟨ret_bool HV'.out.symm, HB.out⟩
 ·have hl' : (2000 : Int) < cs.length := by omega
  have hv : validB cs = false := by simp [validB]; omega
  rw [hv]; clear hv
  go_enter Tryz.func96, Tryz.ntmps96
  go_wp2
  go_ret; exact ⟨rfl, Below.refl _ _⟩
inductive Fo where
 | nil : Fo
 | node : Cel → Fo → Fo → Fo
def Fo.cells : Fo → List Cel
 | .nil => []
 | .node c k r => c :: (k.cells ++ r.cells)
def Fo.count : Fo → Nat
 | .nil => 0
 | .node _ _ r => r.count + 1
def Fo.cat : Fo → Fo → Fo
 | .nil, s => s
 | .node c k r, s => .node c k (r.cat s)
def Fo.ok : Fo → Prop
 | .nil => True
 | .node c k r => cellB c.1 c.2.1 c.2.2.length = true ∧ Byte c.2.2 ∧ (c.1 = 3 → c.2.1 = k.count) ∧ (c.1 ≠ 3 → k = .nil) ∧ k.ok ∧ r.ok
theorem Fo.cells_cat : ∀ a b : Fo, (a.cat b).cells = a.cells ++ b.cells
 | .nil, b => rfl
 | .node c k r, b => by simp [Fo.cat, Fo.cells, Fo.cells_cat r b]
theorem Fo.count_cat : ∀ a b : Fo, (a.cat b).count = a.count + b.count
 | .nil, b => by simp [Fo.cat, Fo.count]
 | .node c k r, b => by simp only [Fo.cat, Fo.count, Fo.count_cat r b]; omega
theorem Fo.ok_cat : ∀ a b : Fo, (a.cat b).ok ↔ a.ok ∧ b.ok
 | .nil, b => by simp [Fo.cat, Fo.ok]
 | .node c k r, b => by
   have := Fo.ok_cat r b; simp only [Fo.cat, Fo.ok]
   constructor
   ·rintro ⟨h1, h2, h3, h4, h5, h6⟩
    exact ⟨⟨h1, h2, h3, h4, h5, (this.1 h6).1⟩, (this.1 h6).2⟩
   ·rintro ⟨⟨h1, h2, h3, h4, h5, h6⟩, h7⟩
    exact ⟨h1, h2, h3, h4, h5, this.2 ⟨h6, h7⟩⟩
theorem Fo.cat_nil : ∀ a : Fo, a.cat .nil = a
 | .nil => rfl
 | .node c k r => by rw [Fo.cat, Fo.cat_nil r]
theorem Fo.cat_assoc : ∀ a b c : Fo, (a.cat b).cat c = a.cat (b.cat c)
 | .nil, b, c => rfl
 | .node x k r, b, c => by simp only [Fo.cat, Fo.cat_assoc r b c]
theorem Fo.count_le : ∀ a : Fo, a.count ≤ a.cells.length
 | .nil => Nat.le_refl _
 | .node c k r => by have := Fo.count_le r; simp [Fo.count, Fo.cells]; omega
theorem Fo.parted : ∀ (n : Nat) (a : Fo), n ≤ a.count → ∃ x y : Fo, a = x.cat y ∧ x.count = n
 | 0, a, _ => ⟨.nil, a, rfl, rfl⟩
 | n + 1, .nil, h => by simp [Fo.count] at h
 | n + 1, .node c k r, h => by
   obtain ⟨x, y, e, hx⟩ := Fo.parted n r (by simpa [Fo.count] using h); exact ⟨.node c k x, y, by rw [Fo.cat, e], by rw [Fo.count, hx]⟩
theorem forest_of : ∀ (cs : List Cel) (m : Nat), (∀ i, i < cs.length → Byte (cs.getD i Cel.none).2.2) → validFrom m cs = true → ∃ F : Fo, F.count = m ∧ F.cells = cs ∧ F.ok
 | [], m, _, h => by
   have : m = 0 := by simpa [validFrom] using h
   exact ⟨.nil, by simp [Fo.count, this], rfl, trivial⟩
 | c :: r, m, hb, h => by
   rw [validFrom] at h
   split at h
   ·cases h
   rename_i hc
   rw [not_or] at hc; obtain ⟨hm, hc⟩ := hc
   have hc' : cellB c.1 c.2.1 c.2.2.length = true := by simpa using hc
   have hbr : ∀ i, i < r.length → Byte (r.getD i Cel.none).2.2 := fun i hi => by simpa using hb (i + 1) (by simpa using hi)
   have hb0 : Byte c.2.2 := by simpa using hb 0 (by simp)
   by_cases h3 : c.1 = 3
   ·have hc1 := cellB_comp (h3 ▸ hc')
    obtain ⟨n, hn⟩ : ∃ n : Nat, c.2.1 = n := ⟨c.2.1.toNat, by omega⟩
    obtain ⟨F, hF1, hF2, hF3⟩ := forest_of r (m - 1 + n) hbr (by
     have e : ((m - 1 + n : Nat) : Int) = m - 1 + grows c.1 c.2.1 := by rw [grows, if_pos h3, hn]; omega
     rw [e]; exact h)
    obtain ⟨x, y, rfl, hx⟩ := Fo.parted n F (by omega); rw [Fo.count_cat] at hF1; have hok := (Fo.ok_cat x y).1 hF3; exact ⟨.node c x y, by rw [Fo.count]; omega, by rw [Fo.cells, ← Fo.cells_cat, hF2], hc', hb0, fun _ => by rw [hx, hn], fun h => absurd h3 h, hok.1, hok.2⟩
   ·obtain ⟨F, hF1, hF2, hF3⟩ := forest_of r (m - 1) hbr (by
     have e : ((m - 1 : Nat) : Int) = m - 1 + grows c.1 c.2.1 := by rw [grows, if_neg h3]; omega
     rw [e]; exact h)
    exact ⟨.node c .nil F, by rw [Fo.count]; omega, by rw [Fo.cells, hF2]; rfl, hc', hb0, fun h => absurd h h3, fun _ => rfl, trivial, hF3⟩
def NodeIn (w : World) (B : Nat) (c : Cel) (K : List Value → Prop) (v : Value) : Prop :=
 (c.1 = 0 ∧ v = .iface 94 (.int .i64 c.2.1)) ∨ (c.1 = 1 ∧ v = .iface 149 (.int .i64 c.2.1)) ∨ (c.1 = 2 ∧ v = .iface 143 (.string (strOfNums c.2.2))) ∨
 (c.1 = 3 ∧ ∃ b g vs, v = .iface 156 (.pointer (some ⟨b, 0, none⟩)) ∧ B ≤ b ∧ B ≤ g ∧ w.cell? ⟨b, 0, none⟩ = some (.string (strOfNums c.2.2)) ∧
   w.cell? ⟨b, 1, none⟩ = some (.slice (some ⟨g, 0, none⟩) vs.length vs.length) ∧ g < w.heap.size ∧ (∀ i, i < vs.length → w.cell? ⟨g, i, none⟩ = some (vs.getD i .nilIface)) ∧ K vs)
def FoIn (w : World) (B : Nat) : Fo → List Value → Prop
 | .nil, vs => vs = []
 | .node c k r, vs => ∃ v vr, vs = v :: vr ∧ NodeIn w B c (fun kv => FoIn w B k kv) v ∧ FoIn w B r vr
theorem NodeIn.imp {w w' : World} {B B' : Nat} {c : Cel} {K K' : List Value → Prop} {v : Value} (h : NodeIn w B c K v) (hB : B' ≤ B) (hc : ∀ b o, B ≤ b → b < w.heap.size → w'.cell? ⟨b, o, none⟩ = w.cell? ⟨b, o, none⟩) (hs : w.heap.size ≤ w'.heap.size) (hK : ∀ vs, K vs → K' vs) : NodeIn w' B' c K' v := by
 rcases h with h | h | h | ⟨h, b, g, vs, hv, h1, h2, c0, c1, hg, cg, hk⟩
 ·exact .inl h
 ·exact .inr (.inl h)
 ·exact .inr (.inr (.inl h))
 ·have hb := World.block_lt_of_cell? _ _ c0
  exact .inr (.inr (.inr ⟨h, b, g, vs, hv, by omega, by omega, (hc _ _ h1 hb).trans c0, (hc _ _ h1 hb).trans c1, by omega, fun i hi => (hc _ _ h2 hg).trans (cg i hi), hK _ hk⟩))
theorem FoIn.imp {w w' : World} {B B' : Nat} (hB : B' ≤ B) (hc : ∀ b o, B ≤ b → b < w.heap.size → w'.cell? ⟨b, o, none⟩ = w.cell? ⟨b, o, none⟩) (hs : w.heap.size ≤ w'.heap.size) : ∀ (F : Fo) (vs : List Value), FoIn w B F vs → FoIn w' B' F vs
 | .nil, vs, h => h
 | .node c k r, vs, ⟨v, vr, e, hn, hr⟩ => ⟨v, vr, e, hn.imp hB hc hs (fun kv => FoIn.imp hB hc hs k kv), FoIn.imp hB hc hs r vr hr⟩
theorem FoIn.below {w w' : World} {B : Nat} {F : Fo} {vs : List Value} (h : FoIn w B F vs) (hb : Below w.heap.size w w') : FoIn w' B F vs :=
 FoIn.imp (Nat.le_refl _) (fun b o _ hlt => hb.cell (p := ⟨b, o, none⟩) hlt) hb.size F vs h
theorem FoIn.mono {w : World} {B B' : Nat} {F : Fo} {vs : List Value} (h : FoIn w B F vs) (hB : B' ≤ B) : FoIn w B' F vs := FoIn.imp hB (fun _ _ _ _ => rfl) (Nat.le_refl _) F vs h
theorem FoIn.setCell {w : World} {B : Nat} {F : Fo} {vs : List Value} (h : FoIn w B F vs) {a : Addr} (ha : a.block < B) (u : Value) : FoIn (w.setCell a u) B F vs :=
 FoIn.imp (Nat.le_refl _) (fun b o hb _ => World.cell?_setCell_other _ _ _ _ (fun e => by rw [e] at ha; simp at ha; omega)) (by simp) F vs h
theorem FoIn.count {w : World} {B : Nat} : ∀ (F : Fo) (vs : List Value), FoIn w B F vs → vs.length = F.count
 | .nil, vs, h => by rw [show vs = [] from h]; rfl
 | .node c k r, vs, ⟨v, vr, e, hn, hr⟩ => by rw [e, List.length_cons, FoIn.count r vr hr]; rfl
theorem FoIn.cat {w : World} {B : Nat} : ∀ (F G : Fo) (vs us : List Value), FoIn w B F vs → FoIn w B G us → FoIn w B (F.cat G) (vs ++ us)
 | .nil, G, vs, us, h, hg => by rw [show vs = [] from h]; exact hg
 | .node c k r, G, vs, us, ⟨v, vr, e, hn, hr⟩, hg => ⟨v, vr ++ us, by rw [e]; rfl, hn, FoIn.cat r G vr us hr hg⟩
theorem infoTerm : (Tryz.prog.info? 56).map (fun i => (i.zero, i.size, i.bytes)) = some (some .nilIface, 1, 16) := by kernel_rfl
theorem firstLeaf_any (c : Cel) (p : Option Addr) (cap : Nat) (tail : List Cel) (w0 w : World) (hw : Below w0.heap.size w0 w) (h3 : c.1 ≠ 3) (hcell : cellB c.1 c.2.1 c.2.2.length = true) (hcap : tail.length + 1 ≤ cap) (hn : cap ≤ 9223372036854775807) (hc : CIn w0 p (c :: tail)) :
  Calls Tryz.prog 162 #[.slice p (tail.length + 1) cap] w fun e w' => ∃ v q, e = .returned (.tuple #[v, .slice q tail.length (cap - 1)]) ∧ CIn w0 q tail ∧ FoIn w' w.heap.size (.node c .nil .nil) [v] ∧ Below w.heap.size w w' := by
 obtain ⟨b, o, rfl, hcs⟩ := hc (by simp); obtain ⟨p0, q0, h0, h1, h2, h4⟩ := (hcs 0 (by simp)).below hw; simp only [List.getD_cons_zero, Nat.zero_mul, Nat.add_zero] at h0 h1 h2 h4
 have HT : Hid (∀ A, (tail.length ≠ 0 → A = some ⟨b, o + 3, none⟩) → CIn w0 A tail) := fun A hA hl => ⟨b, o + 3, hA (by omega), fun i hi => by
  have := hcs (i + 1) (by simpa using hi); rw [show o + (i + 1) * 3 = o + 3 + i * 3 by omega] at this
  simpa using this⟩
 clear hcs hw; obtain ⟨k, n, xs⟩ := c; simp only at h3 hcell h0 h1 h2 h4
 have hk : k = 0 ∨ k = 1 ∨ k = 2 := by simp [cellB] at hcell; omega
 clear h3; have HC : Hid _ := hcell; clear hcell
 obtain ⟨t, et⟩ : ∃ t, t = tail.length := ⟨_, rfl⟩
 rw [← et] at hcap HT ⊢
 obtain ⟨m, hm⟩ : ∃ m, m = xs.length := ⟨_, rfl⟩
 rw [← hm] at h2
 have hle : (1 : Int) ≤ (t : Int) + 1 := by omega
 have hlt : (0 : Int) < (t : Int) + 1 := by omega
 have H4 : Hid (BIn w p0 xs) := h4; have HM : Hid (m = xs.length) := hm; clear hc et h4 hm
 rcases hk with rfl | rfl | rfl
 ·have a0 : ∀ x, (w.alloc x).cell? ⟨b, o, none⟩ = some (.int .i64 0) := fun x => Lib.cell?_alloc_marked x h0
  have a1 : ∀ x, (w.alloc x).cell? ⟨b, o + 1, none⟩ = some (.int .i64 n) := fun x => Lib.cell?_alloc_marked x h1
  have a2 : ∀ x, (w.alloc x).cell? ⟨b, o + 2, none⟩ = some (.slice p0 m q0) := fun x => Lib.cell?_alloc_marked x h2
  have HB : Hid (Below w.heap.size w (w.alloc (Obj.cells #[Value.int IntKind.i64 0, Value.int IntKind.i64 n, Value.slice p0 m q0] 52)).drew) := ((Below.refl _ _).alloc (Nat.le_refl _) _).drew
  go_enter Tryz.func162, Tryz.ntmps162
  go_wp2
  go_region
  all_goals go_wp2
  ·refine bodyPost_ret (v := .tuple #[.iface 94 (.int .i64 n), .slice (some ⟨b, o, none⟩) t 0]) (by simp [results, Tryz.results162, go_sem]) rfl ⟨_, _, rfl, HT.out _ (fun h => by omega), ⟨_, [], rfl, .inl ⟨rfl, rfl⟩, rfl⟩, HB.out⟩
  ·refine bodyPost_ret (v := .tuple #[.iface 94 (.int .i64 n), .slice (some ⟨b, o + 3, none⟩) t (cap - 1)]) (by simp [results, Tryz.results162, go_sem]) rfl ⟨_, _, rfl, HT.out _ (fun h => rfl), ⟨_, [], rfl, .inl ⟨rfl, rfl⟩, rfl⟩, HB.out⟩
 ·have a0 : ∀ x, (w.alloc x).cell? ⟨b, o, none⟩ = some (.int .i64 1) := fun x => Lib.cell?_alloc_marked x h0
  have a1 : ∀ x, (w.alloc x).cell? ⟨b, o + 1, none⟩ = some (.int .i64 n) := fun x => Lib.cell?_alloc_marked x h1
  have a2 : ∀ x, (w.alloc x).cell? ⟨b, o + 2, none⟩ = some (.slice p0 m q0) := fun x => Lib.cell?_alloc_marked x h2
  have HB : Hid (Below w.heap.size w (w.alloc (Obj.cells #[Value.int IntKind.i64 1, Value.int IntKind.i64 n, Value.slice p0 m q0] 52)).drew) := ((Below.refl _ _).alloc (Nat.le_refl _) _).drew
  go_enter Tryz.func162, Tryz.ntmps162
  go_wp2
  go_region
  all_goals go_wp2
  ·refine bodyPost_ret (v := .tuple #[.iface 149 (.int .i64 n), .slice (some ⟨b, o, none⟩) t 0]) (by simp [results, Tryz.results162, go_sem]) rfl ⟨_, _, rfl, HT.out _ (fun h => by omega), ⟨_, [], rfl, .inr (.inl ⟨rfl, rfl⟩), rfl⟩, HB.out⟩
  ·refine bodyPost_ret (v := .tuple #[.iface 149 (.int .i64 n), .slice (some ⟨b, o + 3, none⟩) t (cap - 1)]) (by simp [results, Tryz.results162, go_sem]) rfl ⟨_, _, rfl, HT.out _ (fun h => rfl), ⟨_, [], rfl, .inr (.inl ⟨rfl, rfl⟩), rfl⟩, HB.out⟩
 ·have a0 : ∀ x, (w.alloc x).cell? ⟨b, o, none⟩ = some (.int .i64 2) := fun x => Lib.cell?_alloc_marked x h0
  have a1 : ∀ x, (w.alloc x).cell? ⟨b, o + 1, none⟩ = some (.int .i64 n) := fun x => Lib.cell?_alloc_marked x h1
  have a2 : ∀ x, (w.alloc x).cell? ⟨b, o + 2, none⟩ = some (.slice p0 m q0) := fun x => Lib.cell?_alloc_marked x h2
  have HB : Hid (Below w.heap.size w (w.alloc (Obj.cells #[Value.int IntKind.i64 2, Value.int IntKind.i64 n, Value.slice p0 m q0] 52)).drew) := ((Below.refl _ _).alloc (Nat.le_refl _) _).drew
  have hcv := fun (W : World) (h : Below w.heap.size w W) => conv_str (H4.out.below h) m q0 HM.out 143 Tryz.underlying143
  have hcv' := hcv _ HB.out; have hcv2 : (convert 35 143 (.slice p0 m q0)).run Tryz.prog (w.alloc (Obj.cells #[Value.int IntKind.i64 2, Value.int IntKind.i64 n, Value.slice p0 m q0] 52)).drew = .ok (.string (strOfNums xs)) (w.alloc (Obj.cells #[Value.int IntKind.i64 2, Value.int IntKind.i64 n, Value.slice p0 m q0] 52)).drew := hcv'; clear hcv hcv'
  obtain ⟨str, es⟩ : ∃ str, str = strOfNums xs := ⟨_, rfl⟩
  rw [← es] at hcv2; have HS : Hid (str = strOfNums xs) := es; clear es
  go_enter Tryz.func162, Tryz.ntmps162
  go_wp2
  go_region
  all_goals go_wp2
  ·refine bodyPost_ret (v := .tuple #[.iface 143 (.string str), .slice (some ⟨b, o, none⟩) t 0]) (by simp [results, Tryz.results162, go_sem]) rfl ⟨_, _, rfl, HT.out _ (fun h => by omega), ⟨_, [], rfl, .inr (.inr (.inl ⟨rfl, by rw [HS.out]⟩)), rfl⟩, HB.out⟩
  ·refine bodyPost_ret (v := .tuple #[.iface 143 (.string str), .slice (some ⟨b, o + 3, none⟩) t (cap - 1)]) (by simp [results, Tryz.results162, go_sem]) rfl ⟨_, _, rfl, HT.out _ (fun h => rfl), ⟨_, [], rfl, .inr (.inr (.inl ⟨rfl, by rw [HS.out]⟩)), rfl⟩, HB.out⟩
theorem NodeIn.iface {w : World} {B : Nat} {c : Cel} {K : List Value → Prop} {v : Value} (h : NodeIn w B c K v) : ∃ t x, v = .iface t x := by
 rcases h with h | h | h | ⟨h, b, g, vs, hv, _⟩
 ·exact ⟨_, _, h.2⟩
 ·exact ⟨_, _, h.2⟩
 ·exact ⟨_, _, h.2⟩
 ·exact ⟨_, _, hv⟩
theorem FoIn.iface {w : World} {B : Nat} {c : Cel} {k r : Fo} {v : Value} {vs : List Value} (h : FoIn w B (.node c k r) (v :: vs)) : ∃ t x, v = .iface t x := by
 obtain ⟨v', vr, e, hn, _⟩ := h; obtain ⟨rfl, rfl⟩ := List.cons.inj e; exact hn.iface
def FirstOut (w0 w : World) (c : Cel) (k : Fo) (tail : List Cel) (cap : Nat) (e : Ending) (w' : World) : Prop :=
 ∃ v q l cp, e = .returned (.tuple #[v, .slice q l cp]) ∧ l = tail.length ∧ cp + 1 + k.cells.length = cap ∧ CIn w0 q tail ∧ FoIn w' w.heap.size (.node c k .nil) [v] ∧ Below w.heap.size w w'
theorem row_next {B g n : Nat} {w : World} {vs : List Value} {j : Nat} (h : w.ownsRow B 56 1 (.slice (some ⟨g, 0, none⟩) n n) n (vs ++ List.replicate (n - j) .nilIface)) (hj : vs.length = j) (hlt : j < n) (v : Value) :
  (w.setCell ⟨g, j, none⟩ v).ownsRow B 56 1 (.slice (some ⟨g, 0, none⟩) n n) n ((vs ++ [v]) ++ List.replicate (n - (j + 1)) .nilIface) := by
 have := (h.stored j v).1; rw [List.set_append_right _ _ (by omega), show j - vs.length = 0 by omega, show n - j = (n - (j + 1)) + 1 by omega, List.replicate_succ, List.set_cons_zero] at this; rw [List.append_assoc]; exact this
set_option maxHeartbeats 1000000 in
theorem firstTerm_any : ∀ (N : Nat) (c : Cel) (k : Fo) (p : Option Addr) (l cap : Nat) (tail : List Cel) (w0 w : World), Below w0.heap.size w0 w → k.cells.length ≤ N → (Fo.node c k .nil).ok → l = k.cells.length + tail.length + 1 → l ≤ cap → cap ≤ 9223372036854775807 → CIn w0 p (c :: (k.cells ++ tail)) →
  Calls Tryz.prog 162 #[.slice p l cap] w (FirstOut w0 w c k tail cap) := by
 intro N
 induction N with
 | zero =>
   intro c k p l cap tail w0 w hw hN hok hl hcap hn hc
   have hk : k = .nil := by cases k with | nil => rfl | node a b d => simp [Fo.cells] at hN
   subst hk
   have h3 : c.1 ≠ 3 := fun e => by
    have h1 := hok.2.2.1 e; have h2 := cellB_comp (e ▸ hok.1)
    simp [Fo.count] at h1; omega
   subst hl; have := firstLeaf_any c p cap tail w0 w hw h3 hok.1 (by simpa [Fo.cells] using hcap) hn hc; simp only [Fo.cells, List.length_nil, Nat.zero_add]
   refine this.mono fun e w' ⟨v, q, h1, h2, h3, h4⟩ => ⟨v, q, _, _, h1, rfl, by simp [Fo.cells]; simp [Fo.cells] at hcap; omega, h2, h3, h4⟩
 | succ N ih =>
   intro c k p l cap tail w0 w hw hN hok hl hcap hn hc
   by_cases h3 : c.1 = 3
   ·obtain ⟨b, o, rfl, hcs⟩ := hc (by simp)
    obtain ⟨p0, q0, h0, h1, h2, h4⟩ := (hcs 0 (by simp)).below hw; simp only [List.getD_cons_zero, Nat.zero_mul, Nat.add_zero] at h0 h1 h2 h4; have HW0 : Hid (Below w0.heap.size w0 w) := hw
    have HT : Hid (CIn w0 (some ⟨b, o + 3, none⟩) (k.cells ++ tail)) := fun hl => ⟨b, o + 3, rfl, fun i hi => by
     have := hcs (i + 1) (by simpa using hi); rw [show o + (i + 1) * 3 = o + 3 + i * 3 by omega] at this
     simpa using this⟩
    clear hcs hc hw; have hcnt := hok.2.2.1 h3; have hc1 := cellB_comp (h3 ▸ hok.1); have HOK : Hid k.ok := hok.2.2.2.2.1; obtain ⟨kd, n0, xs⟩ := c; simp only at h3 h0 h1 h2 h4 hcnt hc1; subst h3; have hcl := Fo.count_le k
    obtain ⟨n, en⟩ : ∃ n, n = k.count := ⟨_, rfl⟩
    have HE : Hid (n = k.count) := en; rw [← en] at hcnt hcl; subst hcnt
    have hcap1 : ¬ cap = 1 := by omega
    have hcap2 : (cap = 1) = False := by simpa using hcap1
    obtain ⟨m, hm⟩ : ∃ m, m = xs.length := ⟨_, rfl⟩
    rw [← hm] at h2; have HM : Hid (m = xs.length) := hm; have H4 : Hid (BIn w p0 xs) := h4; have HL : Hid (l = k.cells.length + tail.length + 1) := hl; have HN : Hid (k.cells.length ≤ N + 1) := hN; have HCL : Hid (n ≤ k.cells.length) := hcl
    obtain ⟨l', el⟩ : ∃ l', l = l' + 1 := ⟨l - 1, by omega⟩
    subst el; have HIH : Hid _ := ih; clear en h4 hm hl hN ih hok hcl
    have a0 : ∀ x, (w.alloc x).cell? ⟨b, o, none⟩ = some (.int .i64 3) := fun x => Lib.cell?_alloc_marked x h0
    have a1 : ∀ x, (w.alloc x).cell? ⟨b, o + 1, none⟩ = some (.int .i64 n) := fun x => Lib.cell?_alloc_marked x h1
    have a2 : ∀ x, (w.alloc x).cell? ⟨b, o + 2, none⟩ = some (.slice p0 m q0) := fun x => Lib.cell?_alloc_marked x h2
    have hle : (1 : Int) ≤ (l' : Int) + 1 := by omega
    have hlt : (0 : Int) < (l' : Int) + 1 := by omega
    obtain ⟨i0, hi, hz0, hz1, hz2⟩ := info_parts infoTerm
    have hmx : n ≤ maxLen := by unfold maxLen; omega
    go_enter Tryz.func162, Tryz.ntmps162
    go_wp2_with fail
    go_region
    all_goals go_wp2_with (at_make; refine wpList_make_full _ rfl _ _ 93 rfl (w.heap.size + 1) 56 i0 .nilIface 1 Tryz.underlying93 hi hz0 hz1 _ _ _ _ n rfl rfl rfl rfl (by rw [hz2]; omega) hmx (by simp) ?_; intro w1 hown hgrow)
    have HO1 : Hid (w1.ownsRow (w.heap.size + 1) 56 1 (.slice (some ⟨w.heap.size + 1, 0, none⟩) n n) n ([] ++ List.replicate (n - 0) .nilIface)) := by
     have := hown
     simp [Value.cells, toList_madeCells_one] at this
     exact this
    have HB1 : Hid (Below (w.heap.size + 1) (w.alloc (Obj.cells #[Value.int IntKind.i64 3, Value.int IntKind.i64 n, Value.slice p0 m q0] 52)).drew w1) := (Below.refl _ _).grown hgrow (by simp) (fun k h => by cases h); have HX1 : Hid (Box3 w1 w.heap.size (.int .i64 3) (.int .i64 n) (.slice p0 m q0)) := Box3.of_block (t := 52) ((HB1.out.block _ (by omega)).trans (heap_alloc_new _ _)); have HW1 : Hid (Below w.heap.size w w1) := ((Below.refl _ _).alloc (Nat.le_refl _) _).drew.trans (HB1.out.mono (by omega))
    have hs1 : w.heap.size + 2 ≤ w1.heap.size := by
     rcases HO1.out.2 with ⟨h', _⟩ | ⟨g', cap', cur, hv, hb', hg', _⟩
     ·simp at h'
     ·simp only [Value.slice.injEq, Option.some.injEq, Addr.mk.injEq, and_true, true_and] at hv
      have := (Array.getElem?_eq_some_iff.1 hg').1
      omega
    clear hown hgrow hi hz0 hz1 hz2 a0 a1 a2 h0 h1 h2 hle hlt HB1
    go_loopw [5, 39] (fun s i wr => ∃ (D R : Fo) (vs : List Value) (q : Option Addr) (j l2 c2 : Nat), j ≤ n ∧ l2 ≤ c2 ∧ c2 ≤ cap ∧ i = .int .i64 j ∧ s = .slice q l2 c2 ∧ Hid (k = D.cat R ∧ D.count = j ∧ vs.length = j ∧ l2 = R.cells.length + tail.length ∧ c2 + 1 + D.cells.length = cap) ∧
     Hid (CIn w0 q (R.cells ++ tail)) ∧ Hid (FoIn wr (w.heap.size + 2) D vs) ∧ Hid (wr.ownsRow (w.heap.size + 1) 56 1 (.slice (some ⟨w.heap.size + 1, 0, none⟩) n n) n (vs ++ List.replicate (n - j) .nilIface)) ∧
     Hid (Below w.heap.size w wr) ∧ Hid (Box3 wr w.heap.size (.int .i64 3) (.int .i64 n) (.slice p0 m q0)) ∧ w.heap.size + 2 ≤ wr.heap.size) (fun _ i _ => n - (intOf i).toNat)
    case atStart => exact ⟨.nil, k, [], _, 0, l', cap - 1, Nat.zero_le _, by omega, by omega, rfl, rfl, ⟨rfl, rfl, rfl, by have := HL.out; omega, by simp [Fo.cells]; omega⟩, HT.out, rfl, HO1, HW1, HX1, hs1⟩
    case round =>
     obtain ⟨D, R, vs, q, j, l2, c2, hj, hl2, hc2, rfl, rfl, HF, HC, HI, HR, HB, HX, hsz⟩ := hrel
     by_cases hlt : j < n
     ·obtain ⟨c', k', r', rfl⟩ : ∃ c' k' r', R = .node c' k' r' := by
       cases R with
       | nil =>
         have := HF.out; rw [Fo.cat_nil] at this; have e := HE.out; rw [this.1, this.2.1] at e
         omega
       | node c' k' r' => exact ⟨c', k', r', rfl⟩
      have hok2 := (Fo.ok_cat D (.node c' k' r')).1 (HF.out.1 ▸ HOK.out)
      have hlen : D.cells.length + (k'.cells.length + r'.cells.length + 1) = k.cells.length := by
       rw [HF.out.1, Fo.cells_cat]; simp [Fo.cells]
      have HS := HIH.out c' k' q l2 c2 (r'.cells ++ tail) w0 wr (Below.on HW0.out HB.out) (by have := HN.out; omega) ⟨hok2.2.1, hok2.2.2.1, hok2.2.2.2.1, hok2.2.2.2.2.1, hok2.2.2.2.2.2.1, trivial⟩ (by rw [HF.out.2.2.2.1]; simp [Fo.cells]; omega) hl2 (by omega)
       (by have := HC.out; simpa [Fo.cells, List.append_assoc] using this)
      have HOK2 : Hid r'.ok := hok2.2.2.2.2.2.2; have HLEN : Hid _ := hlen; clear hok2 hlen; go_wp2_with fail; refine HS.mono ?_; rintro e w2 ⟨v, q2, l3, c3, rfl, hl3, hc3, hin3, hfo3, hb3⟩; obtain ⟨vt, vx, rfl⟩ := hfo3.iface
      have d0 : w2.cell? ⟨w.heap.size + 1, j, none⟩ = some .nilIface := by
       rw [hb3.cell (p := ⟨w.heap.size + 1, j, none⟩) (show w.heap.size + 1 < _ by omega), HR.out.cellAt j (by omega), List.getElem?_append_right (by have := HF.out.2.2.1; omega), List.getElem?_replicate, if_pos (by have := HF.out.2.2.1; omega)]
      have d1 : w2.frozen? ⟨w.heap.size + 1, j, none⟩ = false := (hb3.frozen (p := ⟨w.heap.size + 1, j, none⟩) (show w.heap.size + 1 < _ by omega)).trans (HR.out.frozenAt j); have HB3 : Hid (Below wr.heap.size wr w2) := hb3; have HI3 : Hid (CIn w0 q2 (r'.cells ++ tail)) := hin3; have HF3 : Hid (FoIn w2 wr.heap.size (.node c' k' .nil) [.iface vt vx]) := hfo3
      have HL3 : Hid (l3 = (r'.cells ++ tail).length ∧ c3 + 1 + k'.cells.length = c2) := ⟨hl3, hc3⟩
      clear hb3 hin3 hfo3 hl3 hc3 HS
      go_wp2
      have HB2 : Hid (Below w.heap.size w w2) := Below.on HB.out HB3.out; have HR2 : Hid (w2.ownsRow (w.heap.size + 1) 56 1 (.slice (some ⟨w.heap.size + 1, 0, none⟩) n n) n (vs ++ List.replicate (n - j) .nilIface)) := row_below HR.out HB3.out; have HFI : Hid (FoIn w2 (w.heap.size + 2) (D.cat (.node c' k' .nil)) (vs ++ [.iface vt vx])) := FoIn.cat _ _ _ _ (HI.out.below HB3.out) (HF3.out.mono (by omega)); have HX2 : Hid (Box3 w2 w.heap.size (.int .i64 3) (.int .i64 n) (.slice p0 m q0)) := HX.out.below HB3.out (by omega); have hsz2 : w.heap.size + 2 ≤ w2.heap.size := Nat.le_trans hsz HB3.out.size; obtain ⟨e1, e2, e3, e4, e5⟩ := HF.out; have e6 := HLEN.out; have e7 := HL3.out; have G1 := HFI.out.setCell (a := ⟨w.heap.size + 1, j, none⟩) (show w.heap.size + 1 < w.heap.size + 2 by omega) (Value.iface vt vx); have G2 := row_next HR2.out e3 hlt (Value.iface vt vx); have G3 := HX2.out.setCell (a := ⟨w.heap.size + 1, j, none⟩) (show w.heap.size + 1 ≠ w.heap.size by omega) (Value.iface vt vx)
      have G4 := HB2.out.setCell (p := ⟨w.heap.size + 1, j, none⟩) (show w.heap.size ≤ w.heap.size + 1 by omega) (Value.iface vt vx); go_roundw
      case rel => exact ⟨D.cat (.node c' k' .nil), r', vs ++ [Value.iface vt vx], q2, j + 1, l3, c3, by omega, by rw [e7.1, List.length_append]; have := HL.out; omega, by omega, by go_num, rfl,
       ⟨by rw [Fo.cat_assoc]; exact e1, by rw [Fo.count_cat, e2]; rfl, by simp [e3], by rw [e7.1, List.length_append], by rw [Fo.cells_cat]; simp [Fo.cells]; omega⟩, HI3, G1, G2, G4, G3, by simpa using hsz2⟩
      case measure => simp [intOf]; omega
     ·obtain rfl : j = n := by omega
      obtain ⟨e1, e2, e3, e4, e5⟩ := HF.out
      obtain rfl : R = .nil := by
       have e := HE.out; rw [e1, Fo.count_cat] at e
       cases R with
       | nil => rfl
       | node a b d => simp [Fo.count] at e; omega
      rw [Fo.cat_nil] at e1; subst e1; have hcv := conv_str (H4.out.below HB.out) m q0 HM.out 9 Tryz.underlying9
      obtain ⟨str, es⟩ : ∃ str, str = strOfNums xs := ⟨_, rfl⟩
      rw [← es] at hcv; have HS : Hid (str = strOfNums xs) := es; obtain ⟨x0, x1, x2, _⟩ := HX.out
      have HF' : Hid (l2 = tail.length ∧ c2 + 1 + k.cells.length = cap ∧ vs.length = j) := ⟨by simpa [Fo.cells] using e4, e5, e3⟩
      clear es e2 e3 e4 e5 HF; have HA : Hid (Below w.heap.size w (wr.alloc (Obj.cells #[Value.string str, Value.slice (some ⟨w.heap.size + 1, 0, none⟩) j j] 158))) := HB.out.alloc HB.out.size _
      go_wp2
      refine bodyPost_ret (v := .tuple #[.iface 156 (.pointer (some ⟨wr.heap.size, 0, none⟩)), .slice q l2 c2]) (by simp [results, Tryz.results162, go_sem]) rfl ⟨_, q, l2, c2, rfl, HF'.out.1, HF'.out.2.1, HC.out, ?_, HA.out⟩; have hv := HF'.out.2.2; subst hv; have hnew := heap_alloc_new wr (Obj.cells #[Value.string str, Value.slice (some ⟨w.heap.size + 1, 0, none⟩) vs.length vs.length] 158); refine ⟨_, [], rfl, .inr (.inr (.inr ⟨rfl, wr.heap.size, w.heap.size + 1, vs, rfl, by omega, by omega, by rw [← HS.out]; exact (cell_of_row _ _ 0 _ _ _ hnew), cell_of_row _ _ 1 _ _ _ hnew, by simp; omega, fun i hi => ?_, ?_⟩)), rfl⟩
      ·refine Lib.cell?_alloc_marked _ ?_
       rw [HR.out.cellAt i (by omega), List.getElem?_append_left (by omega)]
       simp [List.getD, hi]
      ·exact (HI.out.below ((Below.refl _ _).alloc (Nat.le_refl _) _)).mono (by omega)
   ·have hk : k = .nil := hok.2.2.2.1 h3
    subst hk; subst hl; have := firstLeaf_any c p cap tail w0 w hw h3 hok.1 (by simpa [Fo.cells] using hcap) hn hc; simp only [Fo.cells, List.length_nil, Nat.zero_add]
    refine this.mono fun e w' ⟨v, q, h1, h2, h3, h4⟩ => ⟨v, q, _, _, h1, rfl, by simp [Fo.cells]; simp [Fo.cells] at hcap; omega, h2, h3, h4⟩
end Go.Proofs.YtickbkcpcgmlmaaGreatDoor
