/- Texts of EvS0, EvS2, EvS3, EvS4. Own work of the verifier. -/
import Derived.Test.YtpcmfdbcjegbcaaGreatDoorEvP
import Derived.Test.YtpcmfdbcjegbcaaGreatDoorCp1
import Derived.Test.YtpcmfdbcjegbcaaGreatDoorAppC
import Derived.Test.YtpcmfdbcjegbcaaGreatDoorNextG
import Derived.Test.YtpcmfdbcjegbcaaGreatDoorCellG
import Derived.Test.YtpcmfdbcjegbcaaGreatDoorLay3
import Derived.Test.YtpcmfdbcjegbcaaGreatDoorL1c
import Derived.Test.YtpcmfdbcjegbcaaGreatDoorEvS1
namespace Go.Proofs.YtpcmfdbcjegbcaaGreatDoor
open Go Go.RowKit
set_option linter.unusedVariables false

theorem own_one {w : World} {B g tn tc : Nat} {k n : Int} {tp : Option Addr} {s : List Int} (hg : w.heap[g]? = some (.cells #[.int .i64 k, .int .i64 n, .slice tp tn tc] 39)) (hB : B ≤ g) (ht : OwnT w B tp tn tc s) (hne : ∀ a, tp = some a → a.block ≠ g) : OwnC w B (some ⟨g, 0, none⟩) 1 1 [(k, n, s)] := by
  refine ⟨rfl, [(k, n, tp, tn, tc)], rfl, ⟨rfl, .inr ⟨g, 1, _, rfl, hB, hg, Nat.le_refl _, by decide, rfl, rfl⟩⟩, fun i hi => ?_, ?_⟩
  · obtain rfl : i = 0 := by simp at hi; omega
    exact ⟨rfl, rfl, ht⟩
  · refine ⟨fun i hi h => ?_, fun i j hi hj h => ?_⟩
    · obtain rfl : i = 0 := by simp at hi; omega
      exact fun e => hne _ e rfl
    · simp at hi hj
      omega
theorem l2num_any (n : Int) (w : World) : Calls Tryz.prog 14 #[.int .i64 n] w fun e w' => ∃ p, e = .returned (.slice p 1 1) ∧ CIn w' p [(1, n, [])] ∧ Below w.heap.size w w' := by
  go_enter Tryz.func14, Tryz.ntmps14
  go_wp2_with fail
  have hn := heap_alloc_new w (Obj.cells #[Value.int IntKind.i64 1, Value.int IntKind.i64 n, Value.slice none 0 0] 39)
  have HX : Hid (Box3 (w.alloc (Obj.cells #[Value.int IntKind.i64 1, Value.int IntKind.i64 n, Value.slice none 0 0] 39)) w.heap.size (.int .i64 1) (.int .i64 n) (.slice none 0 0)) := Box3.of_block (t := 39) hn
  clear hn
  go_ret
  refine ⟨_, rfl, fun _ => ⟨w.heap.size, 0, rfl, fun i hi => ?_⟩, (Below.refl _ _).alloc (Nat.le_refl _) _⟩
  have hi0 : i = 0 := by simp at hi; omega
  subst hi0
  exact ⟨none, 0, HX.out.1, HX.out.2.1, HX.out.2.2.1, fun h => by simp at h⟩
theorem l2atomS_any (s : List Int) (hs : Byte s) (w : World) : Calls Tryz.prog 46 #[.string (strOfNums s)] w fun e w' => ∃ p, e = .returned (.slice p 1 1) ∧ CIn w' p [(2, 0, s)] ∧ Below w.heap.size w w' := by
  obtain ⟨w1, cap1, hcv, hb1, ht⟩ := conv_bytes w s hs 9 Tryz.underlying9
  obtain ⟨l, el⟩ : ∃ l, l = s.length := ⟨_, rfl⟩
  rw [← el] at hcv ht
  have hb : Below w1.heap.size w1 (w1.alloc (Obj.cells #[Value.int IntKind.i64 2, Value.int IntKind.i64 0, Value.slice (some ⟨w.heap.size, 0, none⟩) l cap1] 39)) := (Below.refl _ _).alloc (Nat.le_refl _) _
  have HX : Hid (Box3 (w1.alloc (Obj.cells #[Value.int IntKind.i64 2, Value.int IntKind.i64 0, Value.slice (some ⟨w.heap.size, 0, none⟩) l cap1] 39)) w1.heap.size (.int .i64 2) (.int .i64 0) (.slice (some ⟨w.heap.size, 0, none⟩) l cap1)) := Box3.of_block (t := 39) (heap_alloc_new w1 _)
  have HT : Hid _ := (ht.below hb).bin
  have HL : Hid (l = s.length) := el
  have HB : Hid (Below w.heap.size w (w1.alloc (Obj.cells #[Value.int IntKind.i64 2, Value.int IntKind.i64 0, Value.slice (some ⟨w.heap.size, 0, none⟩) l cap1] 39))) := Below.on hb1 hb
  clear hb1 ht hb el
  go_enter Tryz.func46, Tryz.ntmps46
  go_wp2_with fail
  go_ret
  refine ⟨_, rfl, fun _ => ⟨w1.heap.size, 0, rfl, fun i hi => ?_⟩, HB.out⟩
  have hi0 : i = 0 := by simp at hi; omega
  subst hi0
  exact ⟨_, cap1, HX.out.1, HX.out.2.1, by show _ = some (Value.slice (some ⟨w.heap.size, 0, none⟩) s.length cap1); rw [← HL.out]; exact HX.out.2.2.1, HT.out⟩
/-- Terms that lie in slices of a row. -/
def RowsIn (w : World) (g : Nat) (dss : List (List Cel)) : Prop := ∀ j, j < dss.length → ∃ q c, w.cell? ⟨g, j, none⟩ = some (.slice q (dss.getD j []).length c) ∧ CIn w q (dss.getD j []) ∧ 0 < (dss.getD j []).length ∧ (dss.getD j []).length + tl (dss.getD j []) ≤ 100000
theorem RowsIn.below {w w' : World} {g : Nat} {dss : List (List Cel)} (h : RowsIn w g dss) (hb : Below w.heap.size w w') : RowsIn w' g dss := fun j hj => by
  obtain ⟨q, c, h1, h2, h3⟩ := h j hj
  exact ⟨q, c, (hb.cell (World.block_lt_of_cell? _ _ h1)).trans h1, h2.below hb, h3⟩
set_option maxRecDepth 100000 in
set_option maxHeartbeats 400000 in
theorem l2comp_any (s : List Int) (hs : Byte s) (g n c : Nat) (dss : List (List Cel)) (w : World) (hn : n = dss.length) (h20 : n ≤ 20) (hr : RowsIn w g dss) :
    Calls Tryz.prog 47 #[.string (strOfNums s), .slice (some ⟨g, 0, none⟩) n c] w fun e w' => ∃ q m c2, e = .returned (.slice q m c2) ∧ OwnC w' w.heap.size q m c2 ((3, (n : Int), s) :: dss.flatten) ∧ Below w.heap.size w w' := by
  obtain ⟨w1, cap1, hcv, hb1, ht⟩ := conv_bytes w s hs 9 Tryz.underlying9
  obtain ⟨l, el⟩ : ∃ l, l = s.length := ⟨_, rfl⟩
  rw [← el] at hcv ht
  have hlt1 : w.heap.size < w1.heap.size ∨ l = 0 := by
    rcases Nat.eq_zero_or_pos l with h | h
    · exact .inr h
    · obtain ⟨g', e, _, h3, _⟩ := ht.2 h
      cases e
      exact .inl h3
  have hbA : Below w1.heap.size w1 (w1.alloc (Obj.cells #[Value.int IntKind.i64 3, Value.int IntKind.i64 n, Value.slice (some ⟨w.heap.size, 0, none⟩) l cap1] 39)) := (Below.refl _ _).alloc (Nat.le_refl _) _
  have HBA : Hid (Below w.heap.size w (w1.alloc (Obj.cells #[Value.int IntKind.i64 3, Value.int IntKind.i64 n, Value.slice (some ⟨w.heap.size, 0, none⟩) l cap1] 39))) := Below.on hb1 hbA
  have HOA : Hid (OwnC (w1.alloc (Obj.cells #[Value.int IntKind.i64 3, Value.int IntKind.i64 n, Value.slice (some ⟨w.heap.size, 0, none⟩) l cap1] 39)) w.heap.size (some ⟨w1.heap.size, 0, none⟩) 1 1 [(3, (n : Int), s)]) := by
    refine ⟨rfl, [(3, (n : Int), some ⟨w.heap.size, 0, none⟩, l, cap1)], rfl, ⟨rfl, .inr ⟨w1.heap.size, 1, _, rfl, hb1.size, heap_alloc_new w1 _, Nat.le_refl _, by decide, rfl, rfl⟩⟩, fun i hi => ?_, fun i hi h => ?_, fun i j hi hj h => ?_⟩
    · obtain rfl : i = 0 := by simp at hi; omega
      exact ⟨rfl, rfl, ht.below hbA⟩
    · obtain rfl : i = 0 := by simp at hi; omega
      intro e
      have e2 : w.heap.size = w1.heap.size := congrArg Addr.block (Option.some.inj e)
      have h' : 0 < l := h
      omega
    · simp at hi hj
      omega
  have HR : Hid (RowsIn w g dss) := hr
  have HN : Hid (n = dss.length) := hn
  clear hb1 ht hbA hlt1 el hr hn
  go_enter Tryz.func47, Tryz.ntmps47
  go_wp2_with fail
  go_loopw [5, 6] (fun r i wr => ∃ (j : Nat) (q : Option Addr) (m cr : Nat), j ≤ n ∧ m ≤ 1 + j * 100000 ∧ i = .int .i64 j ∧ r = .slice q m cr ∧ Hid (OwnC wr w.heap.size q m cr ((3, (n : Int), s) :: (dss.take j).flatten)) ∧ Hid (Below w.heap.size w wr)) (fun _ i _ => n - (intOf i).toNat)
  case atStart => exact ⟨0, _, 1, 1, Nat.zero_le _, by omega, rfl, rfl, HOA, HBA⟩
  case round =>
    obtain ⟨j, q, m, cr, hj, hm, rfl, rfl, HO, HB⟩ := hrel
    by_cases hlt : j < n
    · have hjl : j < dss.length := by rw [← HN.out]; exact hlt
      obtain ⟨qi, ci, x0, x1, x2, x3⟩ := HR.out j hjl
      obtain ⟨li, eli⟩ : ∃ li, li = (dss.getD j []).length := ⟨_, rfl⟩
      rw [← eli] at x0 x2
      have y0 := (HB.out.cell (World.block_lt_of_cell? _ _ x0)).trans x0
      have HCP := l2copy_any qi li ci (dss.getD j []) wr eli (by omega) (x1.below HB.out)
      have HLI : Hid (li = (dss.getD j []).length) := eli
      have hli : li ≤ 100000 := by omega
      have HTK : Hid ((dss.take (j + 1)).flatten = (dss.take j).flatten ++ dss.getD j []) := by
        show _ = _
        rw [List.take_succ_eq_append_getElem hjl, List.flatten_append]
        simp [List.getD, hjl]
      have hBs : w.heap.size ≤ wr.heap.size := HB.out.size
      clear x0 x1 x3 eli
      go_wp2_with fail
      refine HCP.mono ?_
      rintro e w3 ⟨q3, m3, c3, rfl, ho3, hb3⟩
      have HO3 : Hid (OwnC w3 wr.heap.size q3 m3 c3 (dss.getD j [])) := ho3
      have HB3 : Hid (Below wr.heap.size wr w3) := hb3
      have HM3 : Hid (m3 = li) := by show _ = _; rw [ho3.1, HLI.out]
      have hm3 : 0 < m3 := by have := HM3.out; omega
      have hm3' : m3 ≤ 100000 := by have := HM3.out; omega
      clear ho3 hb3 HCP
      go_wp2_with (at_builtin; refine app_cells wr w3 rfl _ _ rfl w.heap.size q m cr _ rfl HO.out HB3.out hBs q3 m3 c3 _ rfl HO3.out hm3 (by omega) ?_; intro g4 n4 cap4 w4 hown4 hb4 hn4)
      have HO4 : Hid (OwnC w4 w.heap.size (some ⟨g4, 0, none⟩) n4 cap4 ((3, (n : Int), s) :: (dss.take (j + 1)).flatten)) := by rw [HTK.out]; exact hown4
      have HB4 : Hid (Below w.heap.size w w4) := (Below.on HB.out HB3.out).trans hb4
      have hn4' : n4 ≤ 1 + (j + 1) * 100000 := by have := hn4.out; omega
      clear hown4 hb4
      go_roundw
      case rel => exact ⟨j + 1, _, n4, cap4, by omega, hn4', by go_num, rfl, HO4, HB4⟩
      case measure => simp [intOf]; omega
    · obtain rfl : j = n := by omega
      have HOF : Hid (OwnC wr w.heap.size q m cr ((3, (j : Int), s) :: dss.flatten)) := by have := HO.out; rwa [List.take_of_length_le (by rw [← HN.out]; exact Nat.le_refl _)] at this
      go_wp2_with fail
      go_ret
      exact ⟨_, _, _, rfl, HOF.out, HB.out⟩

end Go.Proofs.YtpcmfdbcjegbcaaGreatDoor

namespace Go.Proofs.YtpcmfdbcjegbcaaGreatDoor
open Go Go.RowKit
set_option linter.unusedVariables false

/-- An error term made. -/
def MadeT (w : World) (t : Tr) (e : Ending) (w' : World) : Prop := ∃ q m c2, e = .returned (.slice q m c2) ∧ OwnC w' w.heap.size q m c2 (t.1 :: t.2.cells) ∧ Below w.heap.size w w'
theorem rows_one {w : World} {g c : Nat} {q : Option Addr} {ds : List Cel} (h : w.cell? ⟨g, 0, none⟩ = some (.slice q ds.length c)) (hc : CIn w q ds) (h0 : 0 < ds.length) (hl : ds.length + tl ds ≤ 100000) : RowsIn w g [ds] := fun j hj => by
  obtain rfl : j = 0 := by simp at hj; omega
  exact ⟨q, c, h, hc, h0, hl⟩
theorem rows_two {w : World} {g c c' : Nat} {q q' : Option Addr} {ds ds' : List Cel} (h : w.cell? ⟨g, 0, none⟩ = some (.slice q ds.length c)) (hc : CIn w q ds) (h0 : 0 < ds.length) (hl : ds.length + tl ds ≤ 100000)
    (h' : w.cell? ⟨g, 1, none⟩ = some (.slice q' ds'.length c')) (hc' : CIn w q' ds') (h0' : 0 < ds'.length) (hl' : ds'.length + tl ds' ≤ 100000) : RowsIn w g [ds, ds'] := fun j hj => by
  rcases (by simp at hj; omega : j = 0 ∨ j = 1) with rfl | rfl
  · exact ⟨q, c, h, hc, h0, hl⟩
  · exact ⟨q', c', h', hc', h0', hl'⟩
set_option maxRecDepth 100000 in
theorem l6err_any (s : List Int) (hs : Byte s) (g n c : Nat) (dss : List (List Cel)) (w : World) (hn : n = dss.length) (h1 : 1 ≤ n) (h20 : n ≤ 20) (hr : RowsIn w g dss) :
    Calls Tryz.prog 26 #[.string (strOfNums s), .slice (some ⟨g, 0, none⟩) n c] w fun e w' => ∃ q m c2, e = .returned (.slice q m c2) ∧ OwnC w' w.heap.size q m c2 ((3, (n : Int), s) :: dss.flatten) ∧ Below w.heap.size w w' := by
  have HC := l2comp_any s hs g n c dss w hn h20 hr
  have hn0 : ((n : Int) == 0) = false := by simp; omega
  clear hr hn
  go_enter Tryz.func26, Tryz.ntmps26
  go_wp2_with fail
  refine HC.mono ?_
  rintro e w1 ⟨q, m, c2, rfl, ho, hb⟩
  have HO : Hid _ := ho
  have HB : Hid _ := hb
  clear ho hb HC
  go_wp2_with fail
  go_ret
  exact ⟨_, _, _, rfl, HO.out, HB.out⟩
set_option maxRecDepth 100000 in
theorem l6inst_any (w : World) : Calls Tryz.prog 26 #[.string (strOfNums sInst), .slice none 0 0] w fun e w' => ∃ p, e = .returned (.slice p 1 1) ∧ CIn w' p [(2, 0, sInst)] ∧ Below w.heap.size w w' := by
  have HC := l2atomS_any sInst (by intro x hx; simp [sInst] at hx; omega) w
  go_enter Tryz.func26, Tryz.ntmps26
  go_wp2_with fail
  refine HC.mono ?_
  rintro e w1 ⟨p, rfl, ho, hb⟩
  have HO : Hid _ := ho
  have HB : Hid _ := hb
  clear ho hb HC
  go_wp2_with fail
  go_ret
  exact ⟨_, rfl, HO.out, HB.out⟩
set_option maxRecDepth 100000 in
theorem l6evaluation_any (s : List Int) (hs : Byte s) (hl : s.length ≤ 100) (w : World) : Calls Tryz.prog 33 #[.string (strOfNums s)] w (MadeT w (evalT s)) := by
  have HA := l2atomS_any s hs w
  go_enter Tryz.func33, Tryz.ntmps33
  go_wp2_with fail
  refine HA.mono ?_
  rintro e w1 ⟨p, rfl, hc, hb⟩
  have hal : Below w1.heap.size w1 (w1.alloc (.cells #[.slice p 1 1] 24)) := (Below.refl _ _).alloc (Nat.le_refl _) _
  have HR := l6err_any sEval (by intro x hx; simp [sEval] at hx; omega) w1.heap.size 1 1 [[(2, 0, s)]] (w1.alloc (.cells #[.slice p 1 1] 24)) rfl (by decide) (by decide) (rows_one (cell_of_row _ _ 0 _ _ _ (heap_alloc_new w1 _)) (hc.below hal) (by simp) (by simp [tl]; omega))
  have HB : Hid (Below w.heap.size w (w1.alloc (.cells #[.slice p 1 1] 24))) := Below.on hb hal
  clear hc hb HA hal
  go_wp2_with fail
  refine HR.mono ?_
  rintro e w2 ⟨q, m, c2, rfl, ho, hb2⟩
  have HO : Hid (OwnC w2 w.heap.size q m c2 ((evalT s).1 :: (evalT s).2.cells)) := ho.mono HB.out.size
  have HB2 : Hid (Below w.heap.size w w2) := Below.on HB.out hb2
  clear ho hb2 HR
  go_wp2_with fail
  go_ret
  exact ⟨_, _, _, rfl, HO.out, HB2.out⟩
set_option maxRecDepth 100000 in
theorem l6type_any (s : List Int) (hs : Byte s) (hl : s.length ≤ 100) (t : Tr) (p : Option Addr) (n c : Nat) (w : World) (hn : n = (t.1 :: t.2.cells).length) (hin : CIn w p (t.1 :: t.2.cells)) (htl : n + tl (t.1 :: t.2.cells) ≤ 100000) : Calls Tryz.prog 28 #[.string (strOfNums s), .slice p n c] w (MadeT w (typeT s t)) := by
  have HA := l2atomS_any s hs w
  have HI : Hid (CIn w p (t.1 :: t.2.cells)) := hin
  have HN : Hid (n = (t.1 :: t.2.cells).length ∧ n + tl (t.1 :: t.2.cells) ≤ 100000) := ⟨hn, htl⟩
  clear hin hn htl
  go_enter Tryz.func28, Tryz.ntmps28
  go_wp2_with fail
  refine HA.mono ?_
  rintro e w1 ⟨p1, rfl, hc, hb⟩
  have hal : Below w1.heap.size w1 (w1.alloc (.cells #[.slice p1 1 1, .slice p n c] 24)) := (Below.refl _ _).alloc (Nat.le_refl _) _
  have hnw := heap_alloc_new w1 (Obj.cells #[.slice p1 1 1, .slice p n c] 24)
  have HR := l6err_any sType (by intro x hx; simp [sType] at hx; omega) w1.heap.size 2 2 [[(2, 0, s)], t.1 :: t.2.cells] (w1.alloc (.cells #[.slice p1 1 1, .slice p n c] 24)) rfl (by decide) (by decide) (rows_two (cell_of_row _ _ 0 _ _ _ hnw) (hc.below hal) (by simp) (by simp [tl]; omega) (c' := c) (q' := p) (by rw [← HN.out.1]; exact cell_of_row _ _ 1 _ _ _ hnw) ((HI.out.below hb).below hal) (by simp) (by rw [← HN.out.1]; exact HN.out.2))
  have HB : Hid (Below w.heap.size w (w1.alloc (.cells #[.slice p1 1 1, .slice p n c] 24))) := Below.on hb hal
  clear hc hb HA hal hnw
  go_wp2_with fail
  refine HR.mono ?_
  rintro e w2 ⟨q, m, c2, rfl, ho, hb2⟩
  have HO : Hid (OwnC w2 w.heap.size q m c2 ((typeT s t).1 :: (typeT s t).2.cells)) := by
    have := ho.mono HB.out.size
    show OwnC _ _ _ _ _ _
    simpa [typeT, Fo.cells] using this
  have HB2 : Hid (Below w.heap.size w w2) := Below.on HB.out hb2
  clear ho hb2 HR
  go_wp2_with fail
  go_ret
  exact ⟨_, _, _, rfl, HO.out, HB2.out⟩

set_option maxRecDepth 100000 in
theorem l2pair_any (s : List Int) (hs : Byte s) (pa pb : Option Addr) (la lb ca cb : Nat) (da db : List Cel) (w : World) (hla : la = da.length) (hlb : lb = db.length) (ha : CIn w pa da) (hb : CIn w pb db) (ha0 : 0 < da.length) (hb0 : 0 < db.length) (hal : da.length + tl da ≤ 100000) (hbl : db.length + tl db ≤ 100000) :
    Calls Tryz.prog 48 #[.string (strOfNums s), .slice pa la ca, .slice pb lb cb] w fun e w' => ∃ q m c2, e = .returned (.slice q m c2) ∧ OwnC w' w.heap.size q m c2 ((3, 2, s) :: (da ++ db)) ∧ Below w.heap.size w w' := by
  have hAL : Below w.heap.size w (w.alloc (.cells #[.slice pa la ca, .slice pb lb cb] 24)) := (Below.refl _ _).alloc (Nat.le_refl _) _
  have hnw := heap_alloc_new w (Obj.cells #[.slice pa la ca, .slice pb lb cb] 24)
  have HR := l2comp_any s hs w.heap.size 2 2 [da, db] (w.alloc (.cells #[.slice pa la ca, .slice pb lb cb] 24)) rfl (by decide) (rows_two (q := pa) (c := ca) (q' := pb) (c' := cb) (by rw [← hla]; exact cell_of_row _ _ 0 _ _ _ hnw) (ha.below hAL) ha0 hal (by rw [← hlb]; exact cell_of_row _ _ 1 _ _ _ hnw) (hb.below hAL) hb0 hbl)
  have HB : Hid (Below w.heap.size w (w.alloc (.cells #[.slice pa la ca, .slice pb lb cb] 24))) := hAL
  clear ha hb hAL hnw hla hlb ha0 hb0 hal hbl
  go_enter Tryz.func48, Tryz.ntmps48
  go_wp2_with fail
  refine HR.mono ?_
  rintro e w2 ⟨q, m, c2, rfl, ho, hb2⟩
  have HO : Hid (OwnC w2 w.heap.size q m c2 ((3, 2, s) :: (da ++ db))) := by
    have := ho.mono HB.out.size
    show OwnC _ _ _ _ _ _
    simpa using this
  have HB2 : Hid (Below w.heap.size w w2) := Below.on HB.out hb2
  clear ho hb2 HR
  go_wp2_with fail
  go_ret
  exact ⟨_, _, _, rfl, HO.out, HB2.out⟩
set_option maxRecDepth 100000 in
theorem l6slash_any (s : List Int) (hl : s.length ≤ 100) (n : Int) (p : Option Addr) (l c : Nat) (w : World) (hll : l = s.length) (hin : BIn w p s) : Calls Tryz.prog 29 #[.slice p l c, .int .i64 n] w (MadeT w (indT s n)) := by
  have HC := l1copy_all p l c s w hll (by omega) hin
  clear hin hll
  go_enter Tryz.func29, Tryz.ntmps29
  go_wp2_with fail
  refine HC.mono ?_
  rintro e w1 ⟨p1, n1, c1, rfl, ho, hb⟩
  obtain ⟨w2, ew2⟩ : ∃ w2, w2 = w1.alloc (.cells #[.int .i64 2, .int .i64 0, .slice p1 n1 c1] 39) := ⟨_, rfl⟩
  have hal : Below w1.heap.size w1 w2 := by rw [ew2]; exact (Below.refl _ _).alloc (Nat.le_refl _) _
  have hX : Box3 w2 w1.heap.size (.int .i64 2) (.int .i64 0) (.slice p1 n1 c1) := by rw [ew2]; exact Box3.of_block (t := 39) (heap_alloc_new w1 _)
  have hcin : CIn w2 (some ⟨w1.heap.size, 0, none⟩) [(2, 0, s)] := fun _ => ⟨w1.heap.size, 0, rfl, fun i hi => by
    have hi0 : i = 0 := by simp at hi; omega
    subst hi0
    exact ⟨p1, c1, hX.1, hX.2.1, by have := ho.1; show _ = some (Value.slice p1 s.length c1); rw [← this]; exact hX.2.2.1, (ho.bin).below hal⟩⟩
  have HCI : Hid (CIn w2 (some ⟨w1.heap.size, 0, none⟩) [(2, 0, s)]) := hcin
  have HB2 : Hid (Below w.heap.size w w2) := Below.on hb hal
  have HNU := l2num_any n w2
  rw [ew2] at HNU
  clear hcin hX hal ho hb HC
  go_wp2_with fail
  refine HNU.mono ?_
  rw [← ew2]
  rintro e w3 ⟨p3, rfl, hc3, hb3⟩
  have HB3 : Hid (Below w.heap.size w w3) := Below.on HB2.out hb3
  have HP := l2pair_any [47] (by intro x hx; simp at hx; omega) (some ⟨w1.heap.size, 0, none⟩) p3 1 1 1 1 [(2, 0, s)] [(1, n, [])] w3 rfl rfl (HCI.out.below hb3) hc3 (by simp) (by simp) (by simp [tl]; omega) (by simp [tl])
  clear hc3 hb3 HNU
  go_wp2_with fail
  refine HP.mono ?_
  rintro e w4 ⟨q, m, c2, rfl, ho, hb4⟩
  have HO : Hid (OwnC w4 w.heap.size q m c2 ((indT s n).1 :: (indT s n).2.cells)) := ho.mono HB3.out.size
  have HB4 : Hid (Below w.heap.size w w4) := Below.on HB3.out hb4
  clear ho hb4 HP
  go_wp2_with fail
  go_ret
  exact ⟨_, _, _, rfl, HO.out, HB4.out⟩

end Go.Proofs.YtpcmfdbcjegbcaaGreatDoor

namespace Go.Proofs.YtpcmfdbcjegbcaaGreatDoor
open Go Go.RowKit
set_option linter.unusedVariables false
set_option linter.unusedSimpArgs false

def OneOut (w : World) (v : Int) (e : Ending) (w' : World) : Prop := e = .returned (.tuple #[.int .i64 v, .slice none 0 0]) ∧ w' = w
/-- What l6two leaves. -/
def TwoOut (w : World) (r : ER) (e : Ending) (w' : World) : Prop := (match r with
  | .ok v => ∃ u, e = .returned (.tuple #[.int .i64 u, .slice none 0 0]) ∧ Sat u v
  | .error t => ∃ q m c2, e = .returned (.tuple #[.int .i64 0, .slice q m c2]) ∧ OwnC w' w.heap.size q m c2 (t.1 :: t.2.cells)) ∧ Below w.heap.size w w'
theorem sat_in {u v : Int} (h : u = v) (hm : -4000000000000000 ≤ v ∧ v ≤ 4000000000000000) : Sat u v := by
  subst h
  by_cases hi : InB u
  · exact .inl ⟨hi, rfl⟩
  · exact .inr ⟨hi, hi, hm.1, hm.2⟩
theorem two_pos' (n : Nat) : (1 : Int) ≤ 2 ^ n := by
  have : (0 : Int) < 2 ^ n := Int.pow_pos (by decide)
  omega
theorem shl_sat {x u v : Int} {Y : Nat} (hx : InB x) (hs : Sat u (2 ^ Y)) (hv : Sat v (x * u)) : Sat v (x * 2 ^ Y) := by
  rcases hs with ⟨_, h2⟩ | ⟨h1, h2, _, _⟩
  · rw [h2] at hv; exact hv
  · by_cases h0 : x = 0
    · subst h0
      rw [Int.zero_mul] at hv ⊢
      exact hv
    · have hp := two_pos' Y
      have h3 : ¬ InB (x * 2 ^ Y) := mul_far h0 (by unfold InB at h1; omega)
      have h4 : ¬ InB (x * u) := by
        rw [inB_mul]
        rw [inB_abs] at h2
        have := Nat.mul_le_mul (show 1 ≤ x.natAbs by omega) (Nat.le_refl u.natAbs)
        omega
      rcases hv with ⟨g, _⟩ | ⟨_, g2, g3, g4⟩
      · exact absurd g h4
      · exact .inr ⟨h3, g2, g3, g4⟩
theorem two_ret {w w' : World} {u v : Int} (h : Sat u v) (hb : Below w.heap.size w w') : TwoOut w (.ok v) (.returned (.tuple #[.int .i64 u, .slice none 0 0])) w' := ⟨⟨u, rfl, h⟩, hb⟩
set_option maxRecDepth 100000 in
theorem one0 (x : Int) (w : World) (hx : InB x) : Calls Tryz.prog 31 #[.string ⟨#[45]⟩, .int .i64 x] w (OneOut w (op1 [45] x)) := by
  have w1 : wrap64 (-x) = -x := by unfold InB at hx; unfold wrap64; omega
  have w2 : wrap64 (-x - 1) = -x - 1 := by unfold InB at hx; unfold wrap64; omega
  go_enter Tryz.func31, Tryz.ntmps31
  go_wp2_with fail
  all_goals (go_ret2; refine ⟨?_, rfl⟩)
  all_goals (simp [op1]; try omega)
set_option maxRecDepth 100000 in
theorem one1 (x : Int) (w : World) (hx : InB x) : Calls Tryz.prog 31 #[.string ⟨#[43]⟩, .int .i64 x] w (OneOut w (op1 [43] x)) := by
  have w1 : wrap64 (-x) = -x := by unfold InB at hx; unfold wrap64; omega
  have w2 : wrap64 (-x - 1) = -x - 1 := by unfold InB at hx; unfold wrap64; omega
  go_enter Tryz.func31, Tryz.ntmps31
  go_wp2_with fail
  all_goals (go_ret2; refine ⟨?_, rfl⟩)
  all_goals (simp [op1]; try omega)
set_option maxRecDepth 100000 in
theorem one2 (x : Int) (w : World) (hx : InB x) : Calls Tryz.prog 31 #[.string ⟨#[97, 98, 115]⟩, .int .i64 x] w (OneOut w (op1 [97, 98, 115] x)) := by
  have w1 : wrap64 (-x) = -x := by unfold InB at hx; unfold wrap64; omega
  have w2 : wrap64 (-x - 1) = -x - 1 := by unfold InB at hx; unfold wrap64; omega
  go_enter Tryz.func31, Tryz.ntmps31
  go_wp2_with fail
  all_goals (go_ret2; refine ⟨?_, rfl⟩)
  all_goals (simp [op1]; try omega)
set_option maxRecDepth 100000 in
theorem one3 (x : Int) (w : World) (hx : InB x) : Calls Tryz.prog 31 #[.string ⟨#[115, 105, 103, 110]⟩, .int .i64 x] w (OneOut w (op1 [115, 105, 103, 110] x)) := by
  have w1 : wrap64 (-x) = -x := by unfold InB at hx; unfold wrap64; omega
  have w2 : wrap64 (-x - 1) = -x - 1 := by unfold InB at hx; unfold wrap64; omega
  go_enter Tryz.func31, Tryz.ntmps31
  go_wp2_with fail
  all_goals (go_ret2; refine ⟨?_, rfl⟩)
  all_goals (simp [op1]; try omega)
set_option maxRecDepth 100000 in
theorem one4 (x : Int) (w : World) (hx : InB x) : Calls Tryz.prog 31 #[.string ⟨#[92]⟩, .int .i64 x] w (OneOut w (op1 [92] x)) := by
  have w1 : wrap64 (-x) = -x := by unfold InB at hx; unfold wrap64; omega
  have w2 : wrap64 (-x - 1) = -x - 1 := by unfold InB at hx; unfold wrap64; omega
  go_enter Tryz.func31, Tryz.ntmps31
  go_wp2_with fail
  all_goals (go_ret2; refine ⟨?_, rfl⟩)
  all_goals (simp [op1]; try omega)
set_option maxRecDepth 100000 in
set_option maxHeartbeats 600000 in
theorem two0 (x y : Int) (w : World) (hx : InB x) (hy : InB y) : Calls Tryz.prog 32 #[.string ⟨#[43]⟩, .int .i64 x, .int .i64 y] w (TwoOut w (op2 [43] x y)) := by
  rw [show op2 [43] x y = .ok (x + y) by simp [op2]]
  have w1 : wrap64 (x + y) = x + y := by unfold InB at hx hy; unfold wrap64; omega
  go_enter Tryz.func32, Tryz.ntmps32
  go_wp2_with fail
  go_ret2
  exact two_ret (sat_in w1 (by unfold InB at hx hy; omega)) (Below.refl _ _)
set_option maxRecDepth 100000 in
set_option maxHeartbeats 600000 in
theorem two1 (x y : Int) (w : World) (hx : InB x) (hy : InB y) : Calls Tryz.prog 32 #[.string ⟨#[45]⟩, .int .i64 x, .int .i64 y] w (TwoOut w (op2 [45] x y)) := by
  rw [show op2 [45] x y = .ok (x - y) by simp [op2]]
  have w1 : wrap64 (x - y) = x - y := by unfold InB at hx hy; unfold wrap64; omega
  go_enter Tryz.func32, Tryz.ntmps32
  go_wp2_with fail
  go_ret2
  exact two_ret (sat_in w1 (by unfold InB at hx hy; omega)) (Below.refl _ _)
set_option maxRecDepth 100000 in
set_option maxHeartbeats 600000 in
theorem two2 (x y : Int) (w : World) (hx : InB x) (hy : InB y) : Calls Tryz.prog 32 #[.string ⟨#[42]⟩, .int .i64 x, .int .i64 y] w (TwoOut w (op2 [42] x y)) := by
  rw [show op2 [42] x y = .ok (x * y) by simp [op2]]
  have HT := l6times_any x y w hx.near hy.near
  go_enter Tryz.func32, Tryz.ntmps32
  go_wp2_with fail
  refine HT.mono ?_
  rintro e w1 ⟨u, rfl, hs, _, rfl⟩
  have HS : Hid (Sat u (x * y)) := hs
  clear hs HT
  go_wp2_with fail
  go_ret2
  exact two_ret HS.out (Below.refl _ _)
set_option maxRecDepth 100000 in
set_option maxHeartbeats 600000 in
theorem two3 (x y : Int) (w : World) (hx : InB x) (hy : InB y) : Calls Tryz.prog 32 #[.string ⟨#[109, 105, 110]⟩, .int .i64 x, .int .i64 y] w (TwoOut w (op2 [109, 105, 110] x y)) := by
  rw [show op2 [109, 105, 110] x y = .ok (if x < y then x else y) by simp [op2]]
  by_cases h : x < y
  · rw [if_pos h]
    have hd : decide (x < y) = true := by simpa using h
    go_enter Tryz.func32, Tryz.ntmps32
    go_wp2_with fail
    all_goals (go_ret2; exact two_ret (sat_in (by first | rfl | omega) (by unfold InB at hx hy; omega)) (Below.refl _ _))
  · rw [if_neg h]
    have hd : decide (x < y) = false := by simpa using h
    go_enter Tryz.func32, Tryz.ntmps32
    go_wp2_with fail
    all_goals (go_ret2; exact two_ret (sat_in (by first | rfl | omega) (by unfold InB at hx hy; omega)) (Below.refl _ _))
set_option maxRecDepth 100000 in
set_option maxHeartbeats 600000 in
theorem two4 (x y : Int) (w : World) (hx : InB x) (hy : InB y) : Calls Tryz.prog 32 #[.string ⟨#[109, 97, 120]⟩, .int .i64 x, .int .i64 y] w (TwoOut w (op2 [109, 97, 120] x y)) := by
  rw [show op2 [109, 97, 120] x y = .ok (if x < y then y else x) by simp [op2]]
  by_cases h : x < y
  · rw [if_pos h]
    have hd : decide (x < y) = true := by simpa using h
    go_enter Tryz.func32, Tryz.ntmps32
    go_wp2_with fail
    all_goals (go_ret2; exact two_ret (sat_in (by first | rfl | omega) (by unfold InB at hx hy; omega)) (Below.refl _ _))
  · rw [if_neg h]
    have hd : decide (x < y) = false := by simpa using h
    go_enter Tryz.func32, Tryz.ntmps32
    go_wp2_with fail
    all_goals (go_ret2; exact two_ret (sat_in (by first | rfl | omega) (by unfold InB at hx hy; omega)) (Below.refl _ _))
set_option maxRecDepth 100000 in
set_option maxHeartbeats 600000 in
theorem two5 (x y : Int) (w : World) (hx : InB x) (hy : InB y) : Calls Tryz.prog 32 #[.string ⟨#[47, 47]⟩, .int .i64 x, .int .i64 y] w (TwoOut w (op2 [47, 47] x y)) := by
  by_cases h0 : y = 0
  · subst h0
    rw [show op2 [47, 47] x 0 = .error zeroT by simp [op2]]
    have HE := l6evaluation_any sZero (by intro z hz; simp [sZero] at hz; omega) (by decide) w
    go_enter Tryz.func32, Tryz.ntmps32
    go_wp2_with fail
    refine HE.mono ?_
    rintro e w1 ⟨q, m, c2, rfl, ho, hb⟩
    have HO : Hid _ := ho
    have HB : Hid _ := hb
    clear ho hb HE
    go_wp2_with fail
    go_ret2
    exact ⟨⟨q, m, c2, rfl, HO.out⟩, HB.out⟩
  · rw [show op2 [47, 47] x y = .ok (x.tdiv y) by simp [op2, h0]]
    have hyb : (y == 0) = false := by simpa using h0
    have ha := tdivAbs (x := x) (y := y)
    have hb := tmodAbs (x := x) h0
    have w1 : wrap64 (x.tdiv y) = x.tdiv y := by unfold InB at hx; unfold wrap64; omega
    have HS : Hid (Sat (wrap64 (x.tdiv y)) (x.tdiv y)) := sat_in w1 (by unfold InB at hx hy; omega)
    clear hb
    go_enter Tryz.func32, Tryz.ntmps32
    go_wp2_with fail
    go_ret2
    exact two_ret HS.out (Below.refl _ _)
set_option maxRecDepth 100000 in
set_option maxHeartbeats 600000 in
theorem two6 (x y : Int) (w : World) (hx : InB x) (hy : InB y) : Calls Tryz.prog 32 #[.string ⟨#[114, 101, 109]⟩, .int .i64 x, .int .i64 y] w (TwoOut w (op2 [114, 101, 109] x y)) := by
  by_cases h0 : y = 0
  · subst h0
    rw [show op2 [114, 101, 109] x 0 = .error zeroT by simp [op2]]
    have HE := l6evaluation_any sZero (by intro z hz; simp [sZero] at hz; omega) (by decide) w
    go_enter Tryz.func32, Tryz.ntmps32
    go_wp2_with fail
    refine HE.mono ?_
    rintro e w1 ⟨q, m, c2, rfl, ho, hb⟩
    have HO : Hid _ := ho
    have HB : Hid _ := hb
    clear ho hb HE
    go_wp2_with fail
    go_ret2
    exact ⟨⟨q, m, c2, rfl, HO.out⟩, HB.out⟩
  · rw [show op2 [114, 101, 109] x y = .ok (x.tmod y) by simp [op2, h0]]
    have hyb : (y == 0) = false := by simpa using h0
    have ha := tdivAbs (x := x) (y := y)
    have hb := tmodAbs (x := x) h0
    have w1 : wrap64 (x.tdiv y) = x.tdiv y := by unfold InB at hx; unfold wrap64; omega
    have HS : Hid (Sat (x.tmod y) (x.tmod y)) := sat_in rfl (by unfold InB at hx hy; omega)
    clear hb
    go_enter Tryz.func32, Tryz.ntmps32
    go_wp2_with fail
    go_ret2
    exact two_ret HS.out (Below.refl _ _)
set_option maxRecDepth 100000 in
set_option maxHeartbeats 600000 in
theorem two7 (x y : Int) (w : World) (hx : InB x) (hy : InB y) : Calls Tryz.prog 32 #[.string ⟨#[109, 111, 100]⟩, .int .i64 x, .int .i64 y] w (TwoOut w (op2 [109, 111, 100] x y)) := by
  by_cases h0 : y = 0
  · subst h0
    rw [show op2 [109, 111, 100] x 0 = .error zeroT by simp [op2]]
    have HE := l6evaluation_any sZero (by intro z hz; simp [sZero] at hz; omega) (by decide) w
    go_enter Tryz.func32, Tryz.ntmps32
    go_wp2_with fail
    refine HE.mono ?_
    rintro e w1 ⟨q, m, c2, rfl, ho, hb⟩
    have HO : Hid _ := ho
    have HB : Hid _ := hb
    clear ho hb HE
    go_wp2_with fail
    go_ret2
    exact ⟨⟨q, m, c2, rfl, HO.out⟩, HB.out⟩
  · rw [show op2 [109, 111, 100] x y = .ok ((x.tmod y + y).tmod y) by simp [op2, h0]]
    have hyb : (y == 0) = false := by simpa using h0
    have ha := tdivAbs (x := x) (y := y)
    have hb := tmodAbs (x := x) h0
    have hc := tmodAbs (x := x.tmod y + y) h0
    have hmf := mod_flo (x := x) h0
    have HF := l6floor_any x y w hx.near hy.near h0
    obtain ⟨f, ef⟩ : ∃ f, f = flo x y := ⟨_, rfl⟩
    rw [← ef] at HF hmf
    have hfy : f * y = x - (x.tmod y + y).tmod y := by omega
    have w1 : wrap64 (f * y) = f * y := by rw [hfy]; unfold InB at hx hy; unfold wrap64; omega
    have w2 : wrap64 (x - f * y) = x - f * y := by rw [hmf]; unfold InB at hy; unfold wrap64; omega
    have HS : Hid (Sat (wrap64 (x - f * y)) ((x.tmod y + y).tmod y)) := sat_in (w2.trans hmf) (by unfold InB at hy; omega)
    clear hmf hfy hc ef ha hb
    go_enter Tryz.func32, Tryz.ntmps32
    go_wp2_with fail
    refine HF.mono ?_
    rintro e w3 ⟨rfl, rfl⟩
    go_wp2_with fail
    go_ret2
    exact two_ret HS.out (Below.refl _ _)
set_option maxRecDepth 100000 in
set_option maxHeartbeats 600000 in
theorem two8 (x y : Int) (w : World) (hx : InB x) (hy : InB y) : Calls Tryz.prog 32 #[.string ⟨#[62, 62]⟩, .int .i64 x, .int .i64 y] w (TwoOut w (op2 [62, 62] x y)) := by
  by_cases h0 : y < 0
  · rw [show op2 [62, 62] x y = .error undT by simp [op2, h0]]
    have HE := l6evaluation_any sUnd (by intro z hz; simp [sUnd] at hz; omega) (by decide) w
    go_enter Tryz.func32, Tryz.ntmps32
    go_wp2_with fail
    refine HE.mono ?_
    rintro e w1 ⟨q, m, c2, rfl, ho, hb⟩
    have HO : Hid _ := ho
    have HB : Hid _ := hb
    clear ho hb HE
    go_wp2_with fail
    go_ret2
    exact ⟨⟨q, m, c2, rfl, HO.out⟩, HB.out⟩
  · obtain ⟨Y, rfl⟩ : ∃ Y : Nat, y = Y := ⟨y.toNat, by omega⟩
    have hYm : (Y : Int) ≤ 1000000000000000 := hy.2
    rw [show op2 [62, 62] x Y = .ok (x / 2 ^ min Y 64) by simp [op2, h0]]
    have HX : Hid (InB x) := hx
    have hx1 := hx.1
    have hx2 := hx.2
    obtain ⟨x0, ex0⟩ : ∃ x0, x0 = x := ⟨_, rfl⟩
    have HX0 : Hid (x0 = x) := ex0
    clear hx hy ex0
    go_enter Tryz.func32, Tryz.ntmps32
    go_wp2_with fail
    go_loopw [1, 8] (fun r i wr => ∃ (j : Nat) (u : Int), j ≤ Y ∧ j ≤ 64 ∧ i = .int .i64 j ∧ r = .int .i64 u ∧ -1000000000000000 ≤ u ∧ u ≤ 1000000000000000 ∧ Hid (u = x0 / 2 ^ j) ∧ wr = w) (fun _ i _ => Y - (intOf i).toNat)
    case atStart => exact ⟨0, x, Nat.zero_le _, by decide, rfl, rfl, hx1, hx2, by show _ = _; rw [HX0.out]; simp, rfl⟩
    case round =>
      obtain ⟨j, u, hj, hj64, rfl, rfl, hu1, hu2, HU, rfl⟩ := hrel
      have hend : (j = min Y 64 ∨ u = 0 ∨ u = -1) → u = x0 / 2 ^ min Y 64 := fun h => by
        rcases h with h | h
        · rw [← h]; exact HU.out
        · have h1 := HU.out
          have h2 : (2 : Int) ^ min Y 64 = 2 ^ j * 2 ^ (min Y 64 - j) := by rw [← Int.pow_add]; congr 1; omega
          rw [h2, ← Int.ediv_ediv_of_nonneg (by have := two_pos' j; omega), ← h1]
          have h3 := two_pos' (min Y 64 - j)
          rcases h with h | h
          · rw [h, Int.zero_ediv]
          · rw [h]
            have h4 : (-1 : Int) / 2 ^ (min Y 64 - j) < 0 := Int.ediv_neg_of_neg_of_pos (by decide) (by omega)
            have h5 : -1 ≤ (-1 : Int) / 2 ^ (min Y 64 - j) := by
              rw [Int.le_ediv_iff_mul_le (by omega)]
              omega
            omega
      by_cases c1 : j < Y
      · have c1I : (j : Int) < (Y : Int) := by omega
        by_cases c2 : j < 64
        · have c2I : (j : Int) < 64 := by omega
          by_cases c3 : u = 0
          · have c3b : (u != 0) = false := by simpa using c3
            have HF : Hid (u = x0 / 2 ^ min Y 64) := hend (.inr (.inl c3))
            clear hend
            go_wp2_with fail
            go_ret2
            exact two_ret (sat_in (by first | exact HF.out.trans (by rw [HX0.out]) | (rw [HX0.out] at HF; exact HF.out)) (by rw [← HX0.out, ← HF.out]; omega)) (Below.refl _ _)
          · have c3b : (u != 0) = true := by simpa using c3
            by_cases c4 : u = -1
            · have c4b : (u != -1) = false := by simpa using c4
              have HF : Hid (u = x0 / 2 ^ min Y 64) := hend (.inr (.inr c4))
              clear hend
              go_wp2_with fail
              go_ret2
              exact two_ret (sat_in (HF.out.trans (by rw [HX0.out])) (by rw [← HX0.out, ← HF.out]; omega)) (Below.refl _ _)
            · have c4b : (u != -1) = true := by simpa using c4
              have HFL := l6floor_any u 2 wr (by unfold Near; omega) (by decide) (by decide)
              rw [flo_two] at HFL
              have HU2 : Hid (u / 2 = x0 / 2 ^ (j + 1)) := by
                show _ = _
                rw [Int.pow_succ, ← Int.ediv_ediv_of_nonneg (by have := two_pos' j; omega), ← HU.out]
              obtain ⟨v, ev⟩ : ∃ v, v = u / 2 := ⟨_, rfl⟩
              have hv1 : -1000000000000000 ≤ v := by omega
              have hv2 : v ≤ 1000000000000000 := by omega
              rw [← ev] at HFL HU2
              clear hend ev
              go_wp2_with fail
              refine HFL.mono ?_
              rintro e w2 ⟨rfl, rfl⟩
              go_wp2_with fail
              go_roundw
              case rel => exact ⟨j + 1, v, by omega, by omega, by go_num, rfl, hv1, hv2, HU2, trivial⟩
              case measure => simp [intOf]; omega
        · have c2I : ¬ (j : Int) < 64 := by omega
          have HF : Hid (u = x0 / 2 ^ min Y 64) := hend (.inl (by omega))
          clear hend
          go_wp2_with fail
          go_ret2
          exact two_ret (sat_in (HF.out.trans (by rw [HX0.out])) (by rw [← HX0.out, ← HF.out]; omega)) (Below.refl _ _)
      · have c1I : ¬ (j : Int) < (Y : Int) := by omega
        have HF : Hid (u = x0 / 2 ^ min Y 64) := hend (.inl (by omega))
        clear hend
        go_wp2_with fail
        go_ret2
        exact two_ret (sat_in (HF.out.trans (by rw [HX0.out])) (by rw [← HX0.out, ← HF.out]; omega)) (Below.refl _ _)
set_option maxRecDepth 100000 in
set_option maxHeartbeats 600000 in
theorem two10 (x y : Int) (w : World) (hx : InB x) (hy : InB y) : Calls Tryz.prog 32 #[.string ⟨#[47, 92]⟩, .int .i64 x, .int .i64 y] w (TwoOut w (op2 [47, 92] x y)) := by
  rw [show op2 [47, 92] x y = .ok (bits .and .i64 x y) by simp [op2]]
  have hn := bits_and_near hx hy
  have HS : Hid (Sat (bits .and .i64 x y) (bits .and .i64 x y)) := sat_in rfl (by unfold near at hn; omega)
  clear hn
  go_enter Tryz.func32, Tryz.ntmps32
  go_wp2_with fail
  go_ret2
  exact two_ret HS.out (Below.refl _ _)
set_option maxRecDepth 100000 in
set_option maxHeartbeats 600000 in
theorem two11 (x y : Int) (w : World) (hx : InB x) (hy : InB y) : Calls Tryz.prog 32 #[.string ⟨#[92, 47]⟩, .int .i64 x, .int .i64 y] w (TwoOut w (op2 [92, 47] x y)) := by
  rw [show op2 [92, 47] x y = .ok (bits .or .i64 x y) by simp [op2]]
  have hn := bits_or_near hx hy
  have HS : Hid (Sat (bits .or .i64 x y) (bits .or .i64 x y)) := sat_in rfl (by unfold near at hn; omega)
  clear hn
  go_enter Tryz.func32, Tryz.ntmps32
  go_wp2_with fail
  go_ret2
  exact two_ret HS.out (Below.refl _ _)
set_option maxRecDepth 100000 in
set_option maxHeartbeats 600000 in
theorem two12 (x y : Int) (w : World) (hx : InB x) (hy : InB y) : Calls Tryz.prog 32 #[.string ⟨#[120, 111, 114]⟩, .int .i64 x, .int .i64 y] w (TwoOut w (op2 [120, 111, 114] x y)) := by
  rw [show op2 [120, 111, 114] x y = .ok (bits .xor .i64 x y) by simp [op2]]
  have hn := bits_xor_near hx hy
  have HS : Hid (Sat (bits .xor .i64 x y) (bits .xor .i64 x y)) := sat_in rfl (by unfold near at hn; omega)
  clear hn
  go_enter Tryz.func32, Tryz.ntmps32
  go_wp2_with fail
  go_ret2
  exact two_ret HS.out (Below.refl _ _)

end Go.Proofs.YtpcmfdbcjegbcaaGreatDoor

namespace Go.Proofs.YtpcmfdbcjegbcaaGreatDoor
open Go Go.RowKit
set_option linter.unusedVariables false
set_option linter.unusedSimpArgs false

set_option maxRecDepth 100000 in
set_option maxHeartbeats 600000 in
theorem two9 (x y : Int) (w : World) (hx : InB x) (hy : InB y) : Calls Tryz.prog 32 #[.string ⟨#[60, 60]⟩, .int .i64 x, .int .i64 y] w (TwoOut w (op2 [60, 60] x y)) := by
  by_cases h0 : y < 0
  · rw [show op2 [60, 60] x y = .error undT by simp [op2, h0]]
    have HE := l6evaluation_any sUnd (by intro z hz; simp [sUnd] at hz; omega) (by decide) w
    go_enter Tryz.func32, Tryz.ntmps32
    go_wp2_with fail
    refine HE.mono ?_
    rintro e w1 ⟨q, m, c2, rfl, ho, hb⟩
    have HO : Hid _ := ho
    have HB : Hid _ := hb
    clear ho hb HE
    go_wp2_with fail
    go_ret2
    exact ⟨⟨q, m, c2, rfl, HO.out⟩, HB.out⟩
  · obtain ⟨Y, rfl⟩ : ∃ Y : Nat, y = Y := ⟨y.toNat, by omega⟩
    have hYm : (Y : Int) ≤ 1000000000000000 := hy.2
    rw [show op2 [60, 60] x Y = .ok (x * 2 ^ Y) by simp [op2, h0]]
    have HP := l6power_any 2 Y w (by decide) hYm
    have HX : Hid (InB x) := hx
    have HTM : Hid (∀ u, Near u → Calls Tryz.prog 51 #[.int .i64 x, .int .i64 u] w (TiOut w (x * u))) := fun u hu => l6times_any x u w hx.near hu
    clear hx hy
    by_cases hY0 : Y = 0
    · subst hY0
      go_enter Tryz.func32, Tryz.ntmps32
      go_wp2_with fail
      go_loopw [1, 8] (fun r i wr => i = .int .i64 0 ∧ r = .int .i64 x ∧ wr = w) (fun _ _ _ => 0)
      case atStart => exact ⟨rfl, rfl, rfl⟩
      case round =>
        obtain ⟨rfl, rfl, rfl⟩ := hrel
        go_wp2_with fail
        refine HP.mono ?_
        rintro e w1 ⟨u, rfl, hs, hnr, rfl⟩
        have HS : Hid (Sat u (2 ^ 0)) := hs
        have HT := HTM.out u hnr
        clear hs hnr
        go_wp2_with fail
        refine HT.mono ?_
        rintro e w2 ⟨v, rfl, hs2, _, rfl⟩
        have HV : Hid (Sat v (x * 2 ^ 0)) := shl_sat HX.out HS.out hs2
        clear hs2 HT
        go_wp2_with fail
        go_ret2
        exact two_ret HV.out (Below.refl _ _)
    · have hYI : (0 : Int) < (Y : Int) := by omega
      by_cases c3 : x = 0
      · subst c3
        go_enter Tryz.func32, Tryz.ntmps32
        go_wp2_with fail
        go_loopw [1, 8] (fun r i wr => i = .int .i64 0 ∧ r = .int .i64 0 ∧ wr = w) (fun _ _ _ => 0)
        case atStart => exact ⟨rfl, rfl, rfl⟩
        case round =>
          obtain ⟨rfl, rfl, rfl⟩ := hrel
          go_wp2_with fail
          refine HP.mono ?_
          rintro e w1 ⟨u, rfl, hs, hnr, rfl⟩
          have HS : Hid (Sat u (2 ^ Y)) := hs
          have HT := HTM.out u hnr
          clear hs hnr
          go_wp2_with fail
          refine HT.mono ?_
          rintro e w2 ⟨v, rfl, hs2, _, rfl⟩
          have HV : Hid (Sat v (0 * 2 ^ Y)) := shl_sat HX.out HS.out hs2
          clear hs2 HT
          go_wp2_with fail
          go_ret2
          exact two_ret HV.out (Below.refl _ _)
      · have c3b : (x != 0) = true := by simpa using c3
        by_cases c4 : x = -1
        · subst c4
          go_enter Tryz.func32, Tryz.ntmps32
          go_wp2_with fail
          go_loopw [1, 8] (fun r i wr => i = .int .i64 0 ∧ r = .int .i64 (-1) ∧ wr = w) (fun _ _ _ => 0)
          case atStart => exact ⟨rfl, rfl, rfl⟩
          case round =>
            obtain ⟨rfl, rfl, rfl⟩ := hrel
            go_wp2_with fail
            refine HP.mono ?_
            rintro e w1 ⟨u, rfl, hs, hnr, rfl⟩
            have HS : Hid (Sat u (2 ^ Y)) := hs
            have HT := HTM.out u hnr
            clear hs hnr
            go_wp2_with fail
            refine HT.mono ?_
            rintro e w2 ⟨v, rfl, hs2, _, rfl⟩
            have HV : Hid (Sat v ((-1) * 2 ^ Y)) := shl_sat HX.out HS.out hs2
            clear hs2 HT
            go_wp2_with fail
            go_ret2
            exact two_ret HV.out (Below.refl _ _)
        · have c4b : (x != -1) = true := by simpa using c4
          go_enter Tryz.func32, Tryz.ntmps32
          go_wp2_with fail
          go_loopw [1, 8] (fun r i wr => i = .int .i64 0 ∧ r = .int .i64 x ∧ wr = w) (fun _ _ _ => 0)
          case atStart => exact ⟨rfl, rfl, rfl⟩
          case round =>
            obtain ⟨rfl, rfl, rfl⟩ := hrel
            go_wp2_with fail
            refine HP.mono ?_
            rintro e w1 ⟨u, rfl, hs, hnr, rfl⟩
            have HS : Hid (Sat u (2 ^ Y)) := hs
            have HT := HTM.out u hnr
            clear hs hnr
            go_wp2_with fail
            refine HT.mono ?_
            rintro e w2 ⟨v, rfl, hs2, _, rfl⟩
            have HV : Hid (Sat v (x * 2 ^ Y)) := shl_sat HX.out HS.out hs2
            clear hs2 HT
            go_wp2_with fail
            go_ret2
            exact two_ret HV.out (Below.refl _ _)
set_option maxRecDepth 100000 in
set_option maxHeartbeats 600000 in
theorem two13 (x y : Int) (w : World) (hx : InB x) (hy : InB y) : Calls Tryz.prog 32 #[.string ⟨#[42, 42]⟩, .int .i64 x, .int .i64 y] w (TwoOut w (op2 [42, 42] x y)) := by
  by_cases h0 : 0 ≤ y
  · obtain ⟨Y, rfl⟩ : ∃ Y : Nat, y = Y := ⟨y.toNat, by omega⟩
    rw [show op2 [42, 42] x Y = .ok (x ^ Y) by simp [op2, powE]]
    have HP := l6power_any x Y w hx hy.2
    go_enter Tryz.func32, Tryz.ntmps32
    go_wp2_with fail
    refine HP.mono ?_
    rintro e w1 ⟨u, rfl, hs, _, rfl⟩
    have HS : Hid (Sat u (x ^ Y)) := hs
    clear hs HP
    go_wp2_with fail
    go_ret2
    exact two_ret HS.out (Below.refl _ _)
  · by_cases hx0 : x = 0
    · subst hx0
      rw [show op2 [42, 42] 0 y = .error zeroT by simp [op2, powE, h0]]
      have HE := l6evaluation_any sZero (by intro z hz; simp [sZero] at hz; omega) (by decide) w
      go_enter Tryz.func32, Tryz.ntmps32
      go_wp2_with fail
      refine HE.mono ?_
      rintro e w1 ⟨q, m, c2, rfl, ho, hb⟩
      have HO : Hid _ := ho
      have HB : Hid _ := hb
      clear ho hb HE
      go_wp2_with fail
      go_ret2
      exact ⟨⟨q, m, c2, rfl, HO.out⟩, HB.out⟩
    · have hxb : (x == 0) = false := by simpa using hx0
      by_cases hx1 : x.natAbs = 1
      · obtain ⟨Y, hY⟩ : ∃ Y : Nat, -y = Y := ⟨(-y).toNat, by omega⟩
        have HP := l6power_any x Y w hx (by unfold InB at hy; omega)
        have hw : wrap64 (-y) = (Y : Int) := by rw [hY]; unfold InB at hy; unfold wrap64; omega
        have hw2 : wrap64 (Y : Int) = (Y : Int) := by unfold InB at hy; unfold wrap64; omega
        have hpw : x ^ Y = if y % 2 = 0 then 1 else x := by
          rw [pow_one_abs hx1]
          have : Y % 2 = 0 ↔ y % 2 = 0 := by omega
          by_cases h3 : y % 2 = 0
          · rw [if_pos h3, if_pos (this.2 h3)]
          · rw [if_neg h3, if_neg (fun e => h3 (this.1 e))]
        rw [show op2 [42, 42] x y = .ok (x ^ Y) by rw [hpw]; simp [op2, powE, h0, hx0, hx1]]
        clear hY
        rcases (by omega : x = 1 ∨ x = -1) with rfl | rfl
        · clear hpw hx1 hx hy
          go_enter Tryz.func32, Tryz.ntmps32
          go_wp2_with fail
          refine HP.mono ?_
          rintro e w1 ⟨u, rfl, hs, _, rfl⟩
          have HS : Hid (Sat u (1 ^ Y)) := hs
          clear hs HP
          go_wp2_with fail
          go_ret2
          exact two_ret HS.out (Below.refl _ _)
        · clear hpw hx1 hx hy
          go_enter Tryz.func32, Tryz.ntmps32
          go_wp2_with fail
          refine HP.mono ?_
          rintro e w1 ⟨u, rfl, hs, _, rfl⟩
          have HS : Hid (Sat u ((-1) ^ Y)) := hs
          clear hs HP
          go_wp2_with fail
          go_ret2
          exact two_ret HS.out (Below.refl _ _)
      · rw [show op2 [42, 42] x y = .error (floatT x) by simp [op2, powE, h0, hx0, hx1]]
        have hb1 : (x == 1) = false := by simp; omega
        have hb2 : (x == -1) = false := by simp; omega
        have HN := l2num_any x w
        go_enter Tryz.func32, Tryz.ntmps32
        go_wp2_with fail
        refine HN.mono ?_
        rintro e w1 ⟨p1, rfl, hc, hb⟩
        have HT := l6type_any sFloat (by intro z hz; simp [sFloat] at hz; omega) (by decide) (numT x) p1 1 1 w1 rfl hc (by simp [numT, tl, Fo.cells])
        have HB1 : Hid (Below w.heap.size w w1) := hb
        clear hc hb HN
        go_wp2_with fail
        refine HT.mono ?_
        rintro e w2 ⟨q, m, c2, rfl, ho, hb2⟩
        have HO : Hid (OwnC w2 w.heap.size q m c2 ((floatT x).1 :: (floatT x).2.cells)) := ho.mono HB1.out.size
        have HB : Hid (Below w.heap.size w w2) := Below.on HB1.out hb2
        clear ho hb2 HT
        go_wp2_with fail
        go_ret2
        exact ⟨⟨q, m, c2, rfl, HO.out⟩, HB.out⟩
set_option maxRecDepth 100000 in
set_option maxHeartbeats 600000 in
theorem two14 (x y : Int) (w : World) (hx : InB x) (hy : InB y) : Calls Tryz.prog 32 #[.string ⟨#[94]⟩, .int .i64 x, .int .i64 y] w (TwoOut w (op2 [94] x y)) := by
  by_cases h0 : 0 ≤ y
  · obtain ⟨Y, rfl⟩ : ∃ Y : Nat, y = Y := ⟨y.toNat, by omega⟩
    rw [show op2 [94] x Y = .ok (x ^ Y) by simp [op2, powE]]
    have HP := l6power_any x Y w hx hy.2
    go_enter Tryz.func32, Tryz.ntmps32
    go_wp2_with fail
    refine HP.mono ?_
    rintro e w1 ⟨u, rfl, hs, _, rfl⟩
    have HS : Hid (Sat u (x ^ Y)) := hs
    clear hs HP
    go_wp2_with fail
    go_ret2
    exact two_ret HS.out (Below.refl _ _)
  · by_cases hx0 : x = 0
    · subst hx0
      rw [show op2 [94] 0 y = .error zeroT by simp [op2, powE, h0]]
      have HE := l6evaluation_any sZero (by intro z hz; simp [sZero] at hz; omega) (by decide) w
      go_enter Tryz.func32, Tryz.ntmps32
      go_wp2_with fail
      refine HE.mono ?_
      rintro e w1 ⟨q, m, c2, rfl, ho, hb⟩
      have HO : Hid _ := ho
      have HB : Hid _ := hb
      clear ho hb HE
      go_wp2_with fail
      go_ret2
      exact ⟨⟨q, m, c2, rfl, HO.out⟩, HB.out⟩
    · have hxb : (x == 0) = false := by simpa using hx0
      by_cases hx1 : x.natAbs = 1
      · obtain ⟨Y, hY⟩ : ∃ Y : Nat, -y = Y := ⟨(-y).toNat, by omega⟩
        have HP := l6power_any x Y w hx (by unfold InB at hy; omega)
        have hw : wrap64 (-y) = (Y : Int) := by rw [hY]; unfold InB at hy; unfold wrap64; omega
        have hw2 : wrap64 (Y : Int) = (Y : Int) := by unfold InB at hy; unfold wrap64; omega
        have hpw : x ^ Y = if y % 2 = 0 then 1 else x := by
          rw [pow_one_abs hx1]
          have : Y % 2 = 0 ↔ y % 2 = 0 := by omega
          by_cases h3 : y % 2 = 0
          · rw [if_pos h3, if_pos (this.2 h3)]
          · rw [if_neg h3, if_neg (fun e => h3 (this.1 e))]
        rw [show op2 [94] x y = .ok (x ^ Y) by rw [hpw]; simp [op2, powE, h0, hx0, hx1]]
        clear hY
        rcases (by omega : x = 1 ∨ x = -1) with rfl | rfl
        · clear hpw hx1 hx hy
          go_enter Tryz.func32, Tryz.ntmps32
          go_wp2_with fail
          refine HP.mono ?_
          rintro e w1 ⟨u, rfl, hs, _, rfl⟩
          have HS : Hid (Sat u (1 ^ Y)) := hs
          clear hs HP
          go_wp2_with fail
          go_ret2
          exact two_ret HS.out (Below.refl _ _)
        · clear hpw hx1 hx hy
          go_enter Tryz.func32, Tryz.ntmps32
          go_wp2_with fail
          refine HP.mono ?_
          rintro e w1 ⟨u, rfl, hs, _, rfl⟩
          have HS : Hid (Sat u ((-1) ^ Y)) := hs
          clear hs HP
          go_wp2_with fail
          go_ret2
          exact two_ret HS.out (Below.refl _ _)
      · rw [show op2 [94] x y = .error (floatT x) by simp [op2, powE, h0, hx0, hx1]]
        have hb1 : (x == 1) = false := by simp; omega
        have hb2 : (x == -1) = false := by simp; omega
        have HN := l2num_any x w
        go_enter Tryz.func32, Tryz.ntmps32
        go_wp2_with fail
        refine HN.mono ?_
        rintro e w1 ⟨p1, rfl, hc, hb⟩
        have HT := l6type_any sFloat (by intro z hz; simp [sFloat] at hz; omega) (by decide) (numT x) p1 1 1 w1 rfl hc (by simp [numT, tl, Fo.cells])
        have HB1 : Hid (Below w.heap.size w w1) := hb
        clear hc hb HN
        go_wp2_with fail
        refine HT.mono ?_
        rintro e w2 ⟨q, m, c2, rfl, ho, hb2⟩
        have HO : Hid (OwnC w2 w.heap.size q m c2 ((floatT x).1 :: (floatT x).2.cells)) := ho.mono HB1.out.size
        have HB : Hid (Below w.heap.size w w2) := Below.on HB1.out hb2
        clear ho hb2 HT
        go_wp2_with fail
        go_ret2
        exact ⟨⟨q, m, c2, rfl, HO.out⟩, HB.out⟩

end Go.Proofs.YtpcmfdbcjegbcaaGreatDoor

