/- Texts of CoS, Dt2, Dt4, Dt5. Own work of the verifier. -/
import Derived.Test.YtkklidpnkofipaaGreatDoorUqah
namespace Go.Proofs.YtkklidpnkofipaaGreatDoor
set_option maxRecDepth 100000
open Go Go.RowKit
set_option linter.unusedVariables false
theorem own_one {w : World} {B g tn tc : Nat} {k n : Int} {tp : Option Addr} {s : List Int} (hg : w.heap[g]? = some (.cells #[.int .i64 k, .int .i64 n, .slice tp tn tc] 63)) (hB : B ≤ g) (ht : OwnT w B tp tn tc s) (hne : ∀ a, tp = some a → a.block ≠ g) : OwnC w B (some ⟨g, 0, none⟩) 1 1 [(k, n, s)] := by
 refine ⟨rfl, [(k, n, tp, tn, tc)], rfl, ⟨rfl, .inr ⟨g, 1, _, rfl, hB, hg, Nat.le_refl _, by decide, rfl, rfl⟩⟩, fun i hi => ?_, ?_⟩
 ·obtain rfl : i = 0 := by simp at hi; omega
  exact ⟨rfl, rfl, ht⟩
 ·refine ⟨fun i hi h => ?_, fun i j hi hj h => ?_⟩
  ·obtain rfl : i = 0 := by simp at hi; omega
   exact fun e => hne _ e rfl
  ·simp at hi hj
   omega
theorem l2num_any (n : Int) (w : World) : Calls Tryz.prog 20 #[.int .i64 n] w fun e w' => ∃ p, e = .returned (.slice p 1 1) ∧ CIn w' p [(1, n, [])] ∧ Below w.heap.size w w' := by
 go_enter Tryz.func20, Tryz.ntmps20
 go_wp2_with fail; have hn := heap_alloc_new w (Obj.cells #[Value.int IntKind.i64 1, Value.int IntKind.i64 n, Value.slice none 0 0] 63); have HX : Hid (Box3 (w.alloc (Obj.cells #[Value.int IntKind.i64 1, Value.int IntKind.i64 n, Value.slice none 0 0] 63)) w.heap.size (.int .i64 1) (.int .i64 n) (.slice none 0 0)) := Box3.of_block (t := 63) hn; clear hn; go_ret; refine ⟨_, rfl, fun _ => ⟨w.heap.size, 0, rfl, fun i hi => ?_⟩, (Below.refl _ _).alloc (Nat.le_refl _) _⟩
 have hi0 : i = 0 := by simp at hi; omega
 subst hi0; exact ⟨none, 0, HX.out.1, HX.out.2.1, HX.out.2.2.1, fun h => by simp at h⟩
theorem l2atomS_any (s : List Int) (hs : Byte s) (w : World) : Calls Tryz.prog 116 #[.string (strOfNums s)] w fun e w' => ∃ p, e = .returned (.slice p 1 1) ∧ CIn w' p [(2, 0, s)] ∧ Below w.heap.size w w' := by
 obtain ⟨w1, cap1, hcv, hb1, ht⟩ := conv_bytes w s hs 9 Tryz.underlying9
 obtain ⟨l, el⟩ : ∃ l, l = s.length := ⟨_, rfl⟩
 rw [← el] at hcv ht; have hb : Below w1.heap.size w1 (w1.alloc (Obj.cells #[Value.int IntKind.i64 2, Value.int IntKind.i64 0, Value.slice (some ⟨w.heap.size, 0, none⟩) l cap1] 63)) := (Below.refl _ _).alloc (Nat.le_refl _) _; have HX : Hid (Box3 (w1.alloc (Obj.cells #[Value.int IntKind.i64 2, Value.int IntKind.i64 0, Value.slice (some ⟨w.heap.size, 0, none⟩) l cap1] 63)) w1.heap.size (.int .i64 2) (.int .i64 0) (.slice (some ⟨w.heap.size, 0, none⟩) l cap1)) := Box3.of_block (t := 63) (heap_alloc_new w1 _); have HT : Hid _ := (ht.below hb).bin; have HL : Hid (l = s.length) := el; have HB : Hid (Below w.heap.size w (w1.alloc (Obj.cells #[Value.int IntKind.i64 2, Value.int IntKind.i64 0, Value.slice (some ⟨w.heap.size, 0, none⟩) l cap1] 63))) := Below.on hb1 hb; clear hb1 ht hb el
 go_enter Tryz.func116, Tryz.ntmps116
 go_wp2_with fail; go_ret; refine ⟨_, rfl, fun _ => ⟨w1.heap.size, 0, rfl, fun i hi => ?_⟩, HB.out⟩
 have hi0 : i = 0 := by simp at hi; omega
 subst hi0; exact ⟨_, cap1, HX.out.1, HX.out.2.1, by show _ = some (Value.slice (some ⟨w.heap.size, 0, none⟩) s.length cap1); rw [← HL.out]; exact HX.out.2.2.1, HT.out⟩
def RowsIn (w : World) (g : Nat) (dss : List (List Cel)) : Prop := ∀ j, j < dss.length → ∃ q c, w.cell? ⟨g, j, none⟩ = some (.slice q (dss.getD j []).length c) ∧ CIn w q (dss.getD j []) ∧ 0 < (dss.getD j []).length ∧ (dss.getD j []).length + tl (dss.getD j []) ≤ 100000
theorem RowsIn.below {w w' : World} {g : Nat} {dss : List (List Cel)} (h : RowsIn w g dss) (hb : Below w.heap.size w w') : RowsIn w' g dss := fun j hj => by
 obtain ⟨q, c, h1, h2, h3⟩ := h j hj; exact ⟨q, c, (hb.cell (World.block_lt_of_cell? _ _ h1)).trans h1, h2.below hb, h3⟩
set_option maxHeartbeats 400000 in
theorem l2comp_any (s : List Int) (hs : Byte s) (g n c : Nat) (dss : List (List Cel)) (w : World) (hn : n = dss.length) (h20 : n ≤ 20) (hr : RowsIn w g dss) :
  Calls Tryz.prog 39 #[.string (strOfNums s), .slice (some ⟨g, 0, none⟩) n c] w fun e w' => ∃ q m c2, e = .returned (.slice q m c2) ∧ OwnC w' w.heap.size q m c2 ((3, (n : Int), s) :: dss.flatten) ∧ Below w.heap.size w w' := by
 obtain ⟨w1, cap1, hcv, hb1, ht⟩ := conv_bytes w s hs 9 Tryz.underlying9
 obtain ⟨l, el⟩ : ∃ l, l = s.length := ⟨_, rfl⟩
 rw [← el] at hcv ht
 have hlt1 : w.heap.size < w1.heap.size ∨ l = 0 := by
  rcases Nat.eq_zero_or_pos l with h | h
  ·exact .inr h
  ·obtain ⟨g', e, _, h3, _⟩ := ht.2 h
   cases e
   exact .inl h3
 have hbA : Below w1.heap.size w1 (w1.alloc (Obj.cells #[Value.int IntKind.i64 3, Value.int IntKind.i64 n, Value.slice (some ⟨w.heap.size, 0, none⟩) l cap1] 63)) := (Below.refl _ _).alloc (Nat.le_refl _) _; have HBA : Hid (Below w.heap.size w (w1.alloc (Obj.cells #[Value.int IntKind.i64 3, Value.int IntKind.i64 n, Value.slice (some ⟨w.heap.size, 0, none⟩) l cap1] 63))) := Below.on hb1 hbA
 have HOA : Hid (OwnC (w1.alloc (Obj.cells #[Value.int IntKind.i64 3, Value.int IntKind.i64 n, Value.slice (some ⟨w.heap.size, 0, none⟩) l cap1] 63)) w.heap.size (some ⟨w1.heap.size, 0, none⟩) 1 1 [(3, (n : Int), s)]) := by
  refine ⟨rfl, [(3, (n : Int), some ⟨w.heap.size, 0, none⟩, l, cap1)], rfl, ⟨rfl, .inr ⟨w1.heap.size, 1, _, rfl, hb1.size, heap_alloc_new w1 _, Nat.le_refl _, by decide, rfl, rfl⟩⟩, fun i hi => ?_, fun i hi h => ?_, fun i j hi hj h => ?_⟩
  ·obtain rfl : i = 0 := by simp at hi; omega
   exact ⟨rfl, rfl, ht.below hbA⟩
  ·obtain rfl : i = 0 := by simp at hi; omega
   intro e
   have e2 : w.heap.size = w1.heap.size := congrArg Addr.block (Option.some.inj e); have h' : 0 < l := h
   omega
  ·simp at hi hj
   omega
 have HR : Hid (RowsIn w g dss) := hr; have HN : Hid (n = dss.length) := hn; clear hb1 ht hbA hlt1 el hr hn
 go_enter Tryz.func39, Tryz.ntmps39
 go_wp2_with fail
 go_loopw [5, 6] (fun r i wr => ∃ (j : Nat) (q : Option Addr) (m cr : Nat), j ≤ n ∧ m ≤ 1 + j * 100000 ∧ i = .int .i64 j ∧ r = .slice q m cr ∧ Hid (OwnC wr w.heap.size q m cr ((3, (n : Int), s) :: (dss.take j).flatten)) ∧ Hid (Below w.heap.size w wr)) (fun _ i _ => n - (intOf i).toNat)
 case atStart => exact ⟨0, _, 1, 1, Nat.zero_le _, by omega, rfl, rfl, HOA, HBA⟩
 case round =>
  obtain ⟨j, q, m, cr, hj, hm, rfl, rfl, HO, HB⟩ := hrel
  by_cases hlt : j < n
  ·have hjl : j < dss.length := by rw [← HN.out]; exact hlt
   obtain ⟨qi, ci, x0, x1, x2, x3⟩ := HR.out j hjl
   obtain ⟨li, eli⟩ : ∃ li, li = (dss.getD j []).length := ⟨_, rfl⟩
   rw [← eli] at x0 x2; have y0 := (HB.out.cell (World.block_lt_of_cell? _ _ x0)).trans x0; have HCP := l2copy_any qi li ci (dss.getD j []) wr eli (by omega) (x1.below HB.out); have HLI : Hid (li = (dss.getD j []).length) := eli
   have hli : li ≤ 100000 := by omega
   have HTK : Hid ((dss.take (j + 1)).flatten = (dss.take j).flatten ++ dss.getD j []) := by
    show _ = _
    rw [List.take_succ_eq_append_getElem hjl, List.flatten_append]
    simp [List.getD, hjl]
   have hBs : w.heap.size ≤ wr.heap.size := HB.out.size; clear x0 x1 x3 eli; go_wp2_with fail; refine HCP.mono ?_; rintro e w3 ⟨q3, m3, c3, rfl, ho3, hb3⟩; have HO3 : Hid (OwnC w3 wr.heap.size q3 m3 c3 (dss.getD j [])) := ho3; have HB3 : Hid (Below wr.heap.size wr w3) := hb3
   have HM3 : Hid (m3 = li) := by show _ = _; rw [ho3.1, HLI.out]
   have hm3 : 0 < m3 := by have := HM3.out; omega
   have hm3' : m3 ≤ 100000 := by have := HM3.out; omega
   clear ho3 hb3 HCP; go_wp2_with (at_builtin; refine app_cells wr w3 rfl _ _ rfl w.heap.size q m cr _ rfl HO.out HB3.out hBs q3 m3 c3 _ rfl HO3.out hm3 (by omega) ?_; intro g4 n4 cap4 w4 hown4 hb4 hn4)
   have HO4 : Hid (OwnC w4 w.heap.size (some ⟨g4, 0, none⟩) n4 cap4 ((3, (n : Int), s) :: (dss.take (j + 1)).flatten)) := by rw [HTK.out]; exact hown4
   have HB4 : Hid (Below w.heap.size w w4) := (Below.on HB.out HB3.out).trans hb4
   have hn4' : n4 ≤ 1 + (j + 1) * 100000 := by have := hn4.out; omega
   clear hown4 hb4; go_roundw
   case rel => exact ⟨j + 1, _, n4, cap4, by omega, hn4', by go_num, rfl, HO4, HB4⟩
   case measure => simp [intOf]; omega
  ·obtain rfl : j = n := by omega
   have HOF : Hid (OwnC wr w.heap.size q m cr ((3, (j : Int), s) :: dss.flatten)) := by have := HO.out; rwa [List.take_of_length_le (by rw [← HN.out]; exact Nat.le_refl _)] at this
   go_wp2_with fail; go_ret; exact ⟨_, _, _, rfl, HOF.out, HB.out⟩
theorem rows_one {w : World} {g c : Nat} {q : Option Addr} {ds : List Cel} (h : w.cell? ⟨g, 0, none⟩ = some (.slice q ds.length c)) (hc : CIn w q ds) (h0 : 0 < ds.length) (hl : ds.length + tl ds ≤ 100000) : RowsIn w g [ds] := fun j hj => by
 obtain rfl : j = 0 := by simp at hj; omega
 exact ⟨q, c, h, hc, h0, hl⟩
theorem rows_two {w : World} {g c c' : Nat} {q q' : Option Addr} {ds ds' : List Cel} (h : w.cell? ⟨g, 0, none⟩ = some (.slice q ds.length c)) (hc : CIn w q ds) (h0 : 0 < ds.length) (hl : ds.length + tl ds ≤ 100000)
  (h' : w.cell? ⟨g, 1, none⟩ = some (.slice q' ds'.length c')) (hc' : CIn w q' ds') (h0' : 0 < ds'.length) (hl' : ds'.length + tl ds' ≤ 100000) : RowsIn w g [ds, ds'] := fun j hj => by
 rcases (by simp at hj; omega : j = 0 ∨ j = 1) with rfl | rfl
 ·exact ⟨q, c, h, hc, h0, hl⟩
 ·exact ⟨q', c', h', hc', h0', hl'⟩
theorem l2pair_any (s : List Int) (hs : Byte s) (pa pb : Option Addr) (la lb ca cb : Nat) (da db : List Cel) (w : World) (hla : la = da.length) (hlb : lb = db.length) (ha : CIn w pa da) (hb : CIn w pb db) (ha0 : 0 < da.length) (hb0 : 0 < db.length) (hal : da.length + tl da ≤ 100000) (hbl : db.length + tl db ≤ 100000) :
  Calls Tryz.prog 40 #[.string (strOfNums s), .slice pa la ca, .slice pb lb cb] w fun e w' => ∃ q m c2, e = .returned (.slice q m c2) ∧ OwnC w' w.heap.size q m c2 ((3, 2, s) :: (da ++ db)) ∧ Below w.heap.size w w' := by
 have hAL : Below w.heap.size w (w.alloc (.cells #[.slice pa la ca, .slice pb lb cb] 23)) := (Below.refl _ _).alloc (Nat.le_refl _) _; have hnw := heap_alloc_new w (Obj.cells #[.slice pa la ca, .slice pb lb cb] 23); have HR := l2comp_any s hs w.heap.size 2 2 [da, db] (w.alloc (.cells #[.slice pa la ca, .slice pb lb cb] 23)) rfl (by decide) (rows_two (q := pa) (c := ca) (q' := pb) (c' := cb) (by rw [← hla]; exact cell_of_row _ _ 0 _ _ _ hnw) (ha.below hAL) ha0 hal (by rw [← hlb]; exact cell_of_row _ _ 1 _ _ _ hnw) (hb.below hAL) hb0 hbl); have HB : Hid (Below w.heap.size w (w.alloc (.cells #[.slice pa la ca, .slice pb lb cb] 23))) := hAL; clear ha hb hAL hnw hla hlb ha0 hb0 hal hbl
 go_enter Tryz.func40, Tryz.ntmps40
 go_wp2_with fail; refine HR.mono ?_; rintro e w2 ⟨q, m, c2, rfl, ho, hb2⟩
 have HO : Hid (OwnC w2 w.heap.size q m c2 ((3, 2, s) :: (da ++ db))) := by
  have := ho.mono HB.out.size
  show OwnC _ _ _ _ _ _
  simpa using this
 have HB2 : Hid (Below w.heap.size w w2) := Below.on HB.out hb2; clear ho hb2 HR; go_wp2_with fail; go_ret; exact ⟨_, _, _, rfl, HO.out, HB2.out⟩
theorem RdIn.grow {w w' : World} {R : Nat} {p : Option Addr} {c : Nat} {xs : List Int} {i : Nat} (h : RdIn w R p c xs i) (k : Below w.heap.size w w') : RdIn w' R p c xs i := h.below k h.lt
theorem left_any (R c i : Nat) (p : Option Addr) (xs : List Int) (w : World) (h : RdIn w R p c xs i) :
  Calls Tryz.prog 37 #[.pointer (some ⟨R, 0, none⟩)] w fun e w' => e = .returned (.int .i64 ((xs.length - i : Nat) : Int)) ∧ Below w.heap.size w w' := by
 have h0 := h.at0; have h1 := h.at1; have hs := h.small; have hi := h.le
 obtain ⟨n, en⟩ : ∃ n, n = xs.length := ⟨_, rfl⟩
 rw [← en] at h0 hs hi ⊢; have HE : Hid (n = xs.length) := en
 have hsub : ((n - i : Nat) : Int) = (n : Int) - i := by omega
 rw [hsub]; have hd : Below w.heap.size w w.drew := below_drewN (Below.refl _ _) 1; clear h en hsub
 go_enter Tryz.func37, Tryz.ntmps37
 go_wp2
 go_region
 all_goals go_wp2
 all_goals go_ret
 all_goals exact ⟨rfl, hd⟩
def oddV : List Value := oddI.map (fun n => .int .i64 n)
theorem intD_rng (x : Nat) : -1000000000000000 ≤ intD x ∧ intD x ≤ 1000000000000000 := by
 unfold intD
 split
 ·have h : ∀ j, j < 8 → -1000000000000000 ≤ oddI.getD j 0 ∧ oddI.getD j 0 ≤ 1000000000000000 := by decide
  exact h _ (by omega)
 ·omega
theorem odd_at : ∀ (j : Nat) (h : j < 8), (#[.int .i64 0, .int .i64 1, .int .i64 (-1), .int .i64 42, .int .i64 1000000000000000, .int .i64 (-1000000000000000), .int .i64 255, .int .i64 1000000] : Array Value)[j]'h = .int .i64 (oddI.getD j 0)
 | 0, _ => rfl
 | 1, _ => rfl
 | 2, _ => rfl
 | 3, _ => rfl
 | 4, _ => rfl
 | 5, _ => rfl
 | 6, _ => rfl
 | 7, _ => rfl
set_option maxHeartbeats 1000000 in
theorem l4int_any (R c i : Nat) (p : Option Addr) (xs : List Int) (w : World) (h : RdIn w R p c xs i) :
  Calls Tryz.prog 38 #[.pointer (some ⟨R, 0, none⟩)] w fun e w' => e = .returned (.int .i64 (intD (rdI xs i).toNat)) ∧ Keep R (R + 1) w w' ∧ RdIn w' R p c xs (rdN xs i) := by
 have HH : Hid (RdIn w R p c xs i) := h; have hr := rdI_rng h.bytes i; clear h
 go_enter Tryz.func38, Tryz.ntmps38
 go_wp2_with fail; refine (next_any R c i p xs w HH.out).mono ?_; rintro e w2 ⟨rfl, hk2, hs2, hR2⟩; have HR2 : Hid (RdIn w2 R p c xs (rdN xs i)) := hR2
 obtain ⟨x, ex⟩ : ∃ x : Nat, rdI xs i = x := ⟨(rdI xs i).toNat, by omega⟩
 rw [ex] at hr ⊢
 obtain ⟨wA, eA⟩ : ∃ wA, wA = w2.alloc (.cells oddV.toArray 3) := ⟨_, rfl⟩
 have hBA : Below w2.heap.size w2 wA := by rw [eA]; exact (Below.refl _ _).alloc (Nat.le_refl _) _
 have FIN : Hid (Keep R (R + 1) w wA ∧ RdIn wA R p c xs (rdN xs i)) := ⟨hk2.trans (Keep.of_below hBA), hR2.grow hBA⟩
 have HX : Hid ((rdI xs i).toNat = x) := by show _ = _; rw [ex]; exact Int.toNat_natCast x
 have eA' : wA = w2.alloc (Obj.cells #[.int .i64 0, .int .i64 1, .int .i64 (-1), .int .i64 42, .int .i64 1000000000000000, .int .i64 (-1000000000000000), .int .i64 255, .int .i64 1000000] 3) := by rw [eA]; rfl
 by_cases hlt : x < 40
 ·obtain ⟨j, ej⟩ : ∃ j, j = x % 8 := ⟨_, rfl⟩
  have hj : j < 8 := by omega
  have HV : Hid (intD x = oddI.getD j 0) := by show _ = _; rw [ej, intD, if_pos hlt]
  have hmod : (x : Int).tmod 8 = (j : Int) := by rw [ej, Int.tmod_eq_emod_of_nonneg (by omega)]; rfl
  clear ej hBA hk2 hR2 ex hs2; go_wp2_with fail; rw [← eA'] at *; clear eA eA'; go_wp2_with fail; go_ret; refine ⟨?_, FIN.out⟩; rw [HX.out, HV.out]; exact congrArg Ending.returned (odd_at j hj)
 ·have hmod : (x : Int).tmod 12 = ((x % 12 : Nat) : Int) := by rw [Int.tmod_eq_emod_of_nonneg (by omega)]; rfl
  obtain ⟨j, ej⟩ : ∃ j, j = x % 12 := ⟨_, rfl⟩
  have hj : j < 12 := by omega
  have HV : Hid (intD x = (j : Int) - 2) := by show _ = _; rw [ej, intD, if_neg hlt]
  rw [← ej] at hmod; clear ej hBA hk2 hR2 ex hs2; go_wp2_with fail; rw [← eA'] at *; clear eA eA'; go_wp2_with fail; go_ret; refine ⟨?_, FIN.out⟩; rw [HX.out, HV.out]
  rfl
theorem own_leaf (w : World) (k n : Int) : OwnC (w.alloc (Obj.cells #[Value.int IntKind.i64 k, Value.int IntKind.i64 n, Value.slice none 0 0] 63)) w.heap.size (some ⟨w.heap.size, 0, none⟩) 1 1 [(k, n, [])] :=
 own_one (heap_alloc_new w _) (Nat.le_refl _) ⟨rfl, fun h => absurd h (by decide)⟩ (fun a h => by cases h)
theorem l2numO_any (n : Int) (w : World) : Calls Tryz.prog 20 #[.int .i64 n] w fun e w' => e = .returned (.slice (some ⟨w.heap.size, 0, none⟩) 1 1) ∧ OwnC w' w.heap.size (some ⟨w.heap.size, 0, none⟩) 1 1 [(1, n, [])] ∧ Below w.heap.size w w' := by
 have HX : Hid _ := own_leaf w 1 n
 go_enter Tryz.func20, Tryz.ntmps20
 go_wp2_with fail; go_ret; exact ⟨rfl, HX.out, (Below.refl _ _).alloc (Nat.le_refl _) _⟩
theorem l2varO_any (n : Int) (w : World) : Calls Tryz.prog 114 #[.int .i64 n] w fun e w' => e = .returned (.slice (some ⟨w.heap.size, 0, none⟩) 1 1) ∧ OwnC w' w.heap.size (some ⟨w.heap.size, 0, none⟩) 1 1 [(0, n, [])] ∧ Below w.heap.size w w' := by
 have HX : Hid _ := own_leaf w 0 n
 go_enter Tryz.func114, Tryz.ntmps114
 go_wp2_with fail; go_ret; exact ⟨rfl, HX.out, (Below.refl _ _).alloc (Nat.le_refl _) _⟩
def TermOut (w : World) (R : Nat) (p : Option Addr) (c : Nat) (xs : List Int) (res : List Cel × Nat) (e : Ending) (w' : World) : Prop :=
 ∃ q n cap, e = .returned (.slice q n cap) ∧ OwnC w' w.heap.size q n cap res.1 ∧ Keep R (R + 1) w w' ∧ RdIn w' R p c xs res.2
theorem TermOut.of {w W W' : World} {R : Nat} {p : Option Addr} {c : Nat} {xs : List Int} {cs : List Cel} {i : Nat} {q : Option Addr} {n cap : Nat} (hk : Keep R (R + 1) w W) (hr : RdIn W R p c xs i) (ho : OwnC W' W.heap.size q n cap cs) (hb : Below W.heap.size W W') : TermOut w R p c xs (cs, i) (.returned (.slice q n cap)) W' :=
 ⟨q, n, cap, rfl, ho.mono hk.size, hk.trans (Keep.of_below hb), hr.grow hb⟩
theorem own_oneN {w : World} {B g tn tc : Nat} {k n : Int} {tp : Option Addr} {s : List Int} (hg : w.heap[g]? = some (.cells #[.int .i64 k, .int .i64 n, .slice tp tn tc] 63)) (hB : B ≤ g) (ht : OwnT w B tp tn tc s) (hne : 0 < tn → ∀ a, tp = some a → a.block ≠ g) : OwnC w B (some ⟨g, 0, none⟩) 1 1 [(k, n, s)] := by
 refine ⟨rfl, [(k, n, tp, tn, tc)], rfl, ⟨rfl, .inr ⟨g, 1, _, rfl, hB, hg, Nat.le_refl _, by decide, rfl, rfl⟩⟩, fun i hi => ?_, ?_⟩
 ·obtain rfl : i = 0 := by simp at hi; omega
  exact ⟨rfl, rfl, ht⟩
 ·refine ⟨fun i hi h => ?_, fun i j hi hj h => ?_⟩
  ·obtain rfl : i = 0 := by simp at hi; omega
   exact fun e => hne h _ e rfl
  ·simp at hi hj
   omega
set_option maxHeartbeats 2000000 in
theorem term_low (R c i : Nat) (p : Option Addr) (xs : List Int) (D : Int) (w : World) (h : RdIn w R p c xs i) (hD : -10 ≤ D ∧ D ≤ 10) (hc : D ≤ 0) :
  Calls Tryz.prog 35 #[.pointer (some ⟨R, 0, none⟩), .int .i64 D] w (TermOut w R p c xs (leafT xs (rdI xs i).toNat (rdN xs i))) := by
 have HH : Hid (RdIn w R p c xs i) := h; have hr := rdI_rng h.bytes i; have hle := rdN_le h.le; have hsm := h.small; have hr1 := rdI_rng h.bytes (rdN xs i)
 obtain ⟨n, en⟩ : ∃ n, n = xs.length := ⟨_, rfl⟩
 rw [← en] at hle hsm; have HEN : Hid (n = xs.length) := en
 obtain ⟨i1, ei⟩ : ∃ i1, i1 = rdN xs i := ⟨_, rfl⟩
 rw [← ei] at hle hr1 ⊢; have HEI : Hid (i1 = rdN xs i) := ei; have hd : decide (D ≤ 0) = true := decide_eq_true hc; clear h en ei
 go_enter Tryz.func35, Tryz.ntmps35
 go_wp2_with fail; refine (next_any R c i p xs w HH.out).mono ?_; rintro e w2 ⟨rfl, hk2, hs2, hR2⟩; have HK2 : Hid (Keep R (R + 1) w w2) := hk2
 have HR2 : Hid (RdIn w2 R p c xs i1) := by rw [HEI.out]; exact hR2
 obtain ⟨x, ex⟩ : ∃ x : Nat, rdI xs i = x := ⟨(rdI xs i).toNat, by omega⟩
 rw [ex] at hr ⊢
 have HX : Hid ((rdI xs i).toNat = x) := by show _ = _; rw [ex]; exact Int.toNat_natCast x
 obtain ⟨j, ej⟩ : ∃ j, j = x % 5 := ⟨_, rfl⟩
 have hj : j < 5 := by omega
 have hm : (x : Int).tmod 5 = (j : Int) := by rw [ej, Int.tmod_eq_emod_of_nonneg (by omega)]; rfl
 have HJ : Hid (j = x % 5) := ej; have hxt : ((x : Nat) : Int).toNat = x := Int.toNat_natCast x; have HX2 : Hid ((rdI xs i).toNat = x) := HX.out; clear hk2 hs2 hR2 ex ej
 rcases (by omega : j = 0 ∨ j = 1 ∨ j = 2 ∨ 3 ≤ j) with hj0 | hj0 | hj0 | hj0
 ·have hb1 : ((j : Int) == 0) = true := by rw [hj0]; rfl
  have HF : Hid (leafT xs x i1 = ([(1, intD (rdI xs i1).toNat, [])], rdN xs i1)) := by show _ = _; rw [leafT, if_pos (by rw [← HJ.out]; exact hj0)]
  clear hj0; go_wp2_with fail; refine (l4int_any R c i1 p xs w2 HR2.out).mono ?_; rintro e w3 ⟨rfl, hk3, hR3⟩; have HK3 : Hid (Keep R (R + 1) w w3) := HK2.out.trans hk3; have HR3 : Hid (RdIn w3 R p c xs (rdN xs i1)) := hR3; clear hk3 hR3; go_wp2_with fail; refine (l2numO_any _ w3).mono ?_; rintro e w4 ⟨rfl, ho4, hb4⟩; have FIN : Hid _ := TermOut.of HK3.out HR3.out ho4 hb4; clear ho4 hb4; go_wp2_with fail; go_ret; rw [HX2.out, HF.out]; exact FIN.out
 ·have hb1 : ((j : Int) == 0) = false := by rw [hj0]; rfl
  have hb2 : decide ((j : Int) < 3) = true := by rw [hj0]; rfl
  have HF : Hid (leafT xs x i1 = ([(0, (((rdI xs i1).toNat % 5 : Nat) : Int), [])], rdN xs i1)) := by show _ = _; rw [leafT, if_neg (by rw [← HJ.out, hj0]; decide), if_pos (by rw [← HJ.out, hj0]; decide)]
  clear hj0; go_wp2_with fail; refine (next_any R c i1 p xs w2 HR2.out).mono ?_; rintro e w3 ⟨rfl, hk3, hs3, hR3⟩; have HK3 : Hid (Keep R (R + 1) w w3) := HK2.out.trans hk3; have HR3 : Hid (RdIn w3 R p c xs (rdN xs i1)) := hR3
  obtain ⟨y, ey⟩ : ∃ y : Nat, rdI xs i1 = y := ⟨(rdI xs i1).toNat, by omega⟩
  rw [ey] at hr1 ⊢
  obtain ⟨z, ez⟩ : ∃ z, z = y % 5 := ⟨_, rfl⟩
  have hz : z < 5 := by omega
  have hmz : (y : Int).tmod 5 = (z : Int) := by rw [ez, Int.tmod_eq_emod_of_nonneg (by omega)]; rfl
  have HZ : Hid (([(0, (((rdI xs i1).toNat % 5 : Nat) : Int), [])] : List Cel) = [(0, (z : Int), [])]) := by show _ = _; rw [ey, Int.toNat_natCast, ez]
  clear hk3 hs3 hR3 ey ez; go_wp2_with fail; refine (l2varO_any _ w3).mono ?_; rintro e w4 ⟨rfl, ho4, hb4⟩; have FIN : Hid _ := TermOut.of HK3.out HR3.out ho4 hb4; clear ho4 hb4; go_wp2_with fail; go_ret; rw [HX2.out, HF.out, HZ.out]; exact FIN.out
 ·have hb1 : ((j : Int) == 0) = false := by rw [hj0]; rfl
  have hb2 : decide ((j : Int) < 3) = true := by rw [hj0]; rfl
  have HF : Hid (leafT xs x i1 = ([(0, (((rdI xs i1).toNat % 5 : Nat) : Int), [])], rdN xs i1)) := by show _ = _; rw [leafT, if_neg (by rw [← HJ.out, hj0]; decide), if_pos (by rw [← HJ.out, hj0]; decide)]
  clear hj0; go_wp2_with fail; refine (next_any R c i1 p xs w2 HR2.out).mono ?_; rintro e w3 ⟨rfl, hk3, hs3, hR3⟩; have HK3 : Hid (Keep R (R + 1) w w3) := HK2.out.trans hk3; have HR3 : Hid (RdIn w3 R p c xs (rdN xs i1)) := hR3
  obtain ⟨y, ey⟩ : ∃ y : Nat, rdI xs i1 = y := ⟨(rdI xs i1).toNat, by omega⟩
  rw [ey] at hr1 ⊢
  obtain ⟨z, ez⟩ : ∃ z, z = y % 5 := ⟨_, rfl⟩
  have hz : z < 5 := by omega
  have hmz : (y : Int).tmod 5 = (z : Int) := by rw [ez, Int.tmod_eq_emod_of_nonneg (by omega)]; rfl
  have HZ : Hid (([(0, (((rdI xs i1).toNat % 5 : Nat) : Int), [])] : List Cel) = [(0, (z : Int), [])]) := by show _ = _; rw [ey, Int.toNat_natCast, ez]
  clear hk3 hs3 hR3 ey ez; go_wp2_with fail; refine (l2varO_any _ w3).mono ?_; rintro e w4 ⟨rfl, ho4, hb4⟩; have FIN : Hid _ := TermOut.of HK3.out HR3.out ho4 hb4; clear ho4 hb4; go_wp2_with fail; go_ret; rw [HX2.out, HF.out, HZ.out]; exact FIN.out
 ·have hb1 : ((j : Int) == 0) = false := by simp; omega
  have hb2 : decide ((j : Int) < 3) = false := by simp; omega
  have HF : Hid (leafT xs x i1 = ([(2, 0, numsU (nameAt (rdI xs i1).toNat))], rdN xs i1)) := by show _ = _; rw [leafT, if_neg (by rw [← HJ.out]; omega), if_neg (by rw [← HJ.out]; omega)]
  clear hj0; go_wp2_with fail; refine (l4name_any R c i1 p xs w2 HR2.out).mono ?_; rintro e w3 ⟨g, n3, cap, rfl, hn3, hk3, hR3, hg, ht⟩; have HK3 : Hid (Keep R (R + 1) w w3) := HK2.out.trans hk3; have HR3 : Hid (RdIn w3 R p c xs (rdN xs i1)) := hR3; have HT3 : Hid (OwnT w3 w2.heap.size (some ⟨g, 0, none⟩) n3 cap (numsU (nameAt (rdI xs i1).toNat))) := ht; have HBW : Hid (w.heap.size ≤ w2.heap.size) := HK2.out.size; have hbA : Below w3.heap.size w3 (w3.alloc (Obj.cells #[Value.int IntKind.i64 2, Value.int IntKind.i64 0, Value.slice (some ⟨g, 0, none⟩) n3 cap] 63)) := (Below.refl _ _).alloc (Nat.le_refl _) _
  have HO3 : Hid (OwnC (w3.alloc (Obj.cells #[Value.int IntKind.i64 2, Value.int IntKind.i64 0, Value.slice (some ⟨g, 0, none⟩) n3 cap] 63)) w.heap.size (some ⟨w3.heap.size, 0, none⟩) 1 1 [(2, 0, numsU (nameAt (rdI xs i1).toNat))]) := by
   refine own_oneN (heap_alloc_new w3 _) (Nat.le_trans HBW.out hk3.size) ((ht.mono HBW.out).below hbA) (fun h0 a ea => ?_); obtain ⟨g', eg, hB', hl', hc'⟩ := ht.2 h0
   cases eg
   cases ea
   exact Nat.ne_of_lt hl'
  have HBA : Hid _ := hbA; clear hk3 hR3 ht hbA hg hn3; go_wp2_with fail; go_ret; rw [HX2.out, HF.out]; exact ⟨_, _, _, rfl, HO3.out, HK3.out.trans (Keep.of_below HBA.out), HR3.out.grow HBA.out⟩
set_option maxHeartbeats 2000000 in
theorem term_end (R c i : Nat) (p : Option Addr) (xs : List Int) (D : Int) (w : World) (h : RdIn w R p c xs i) (hD : -10 ≤ D ∧ D ≤ 10) (hc : 0 < D) (h0 : rdN xs i = xs.length) :
  Calls Tryz.prog 35 #[.pointer (some ⟨R, 0, none⟩), .int .i64 D] w (TermOut w R p c xs (leafT xs (rdI xs i).toNat (rdN xs i))) := by
 have HH : Hid (RdIn w R p c xs i) := h; have hr := rdI_rng h.bytes i; have hle := rdN_le h.le; have hsm := h.small; have hr1 := rdI_rng h.bytes (rdN xs i)
 obtain ⟨n, en⟩ : ∃ n, n = xs.length := ⟨_, rfl⟩
 rw [← en] at hle hsm; have HEN : Hid (n = xs.length) := en
 obtain ⟨i1, ei⟩ : ∃ i1, i1 = rdN xs i := ⟨_, rfl⟩
 rw [← ei] at hle hr1 ⊢; have HEI : Hid (i1 = rdN xs i) := ei; have hd : decide (D ≤ 0) = false := decide_eq_false (by omega); rw [← ei, ← en] at h0; have H0 : Hid (i1 = n) := h0; clear h0; clear h en ei
 go_enter Tryz.func35, Tryz.ntmps35
 go_wp2_with fail; refine (next_any R c i p xs w HH.out).mono ?_; rintro e w2 ⟨rfl, hk2, hs2, hR2⟩; have HK2 : Hid (Keep R (R + 1) w w2) := hk2
 have HR2 : Hid (RdIn w2 R p c xs i1) := by rw [HEI.out]; exact hR2
 obtain ⟨x, ex⟩ : ∃ x : Nat, rdI xs i = x := ⟨(rdI xs i).toNat, by omega⟩
 rw [ex] at hr ⊢
 have HX : Hid ((rdI xs i).toNat = x) := by show _ = _; rw [ex]; exact Int.toNat_natCast x
 obtain ⟨j, ej⟩ : ∃ j, j = x % 5 := ⟨_, rfl⟩
 have hj : j < 5 := by omega
 have hm : (x : Int).tmod 5 = (j : Int) := by rw [ej, Int.tmod_eq_emod_of_nonneg (by omega)]; rfl
 have HJ : Hid (j = x % 5) := ej; have hxt : ((x : Nat) : Int).toNat = x := Int.toNat_natCast x; have HX2 : Hid ((rdI xs i).toNat = x) := HX.out; clear hk2 hs2 hR2 ex ej; go_wp2_with fail; refine (left_any R c i1 p xs w2 HR2.out).mono ?_; rintro e wL ⟨rfl, hbL⟩; have HRL : Hid (RdIn wL R p c xs i1) := HR2.out.grow hbL; have HKL : Hid (Keep R (R + 1) w wL) := HK2.out.trans (Keep.of_below hbL); rw [← HEN.out]
 obtain ⟨lf, el⟩ : ∃ lf, lf = n - i1 := ⟨_, rfl⟩
 rw [← el]
 have hlf : lf ≤ 500 := by omega
 clear hbL
 have hz0 : ((lf : Int) == 0) = true := by rw [el, H0.out, Nat.sub_self]; rfl
 clear el
 rcases (by omega : j = 0 ∨ j = 1 ∨ j = 2 ∨ 3 ≤ j) with hj0 | hj0 | hj0 | hj0
 ·have hb1 : ((j : Int) == 0) = true := by rw [hj0]; rfl
  have HF : Hid (leafT xs x i1 = ([(1, intD (rdI xs i1).toNat, [])], rdN xs i1)) := by show _ = _; rw [leafT, if_pos (by rw [← HJ.out]; exact hj0)]
  clear hj0; go_wp2_with fail; refine (l4int_any R c i1 p xs wL HRL.out).mono ?_; rintro e w3 ⟨rfl, hk3, hR3⟩; have HK3 : Hid (Keep R (R + 1) w w3) := HKL.out.trans hk3; have HR3 : Hid (RdIn w3 R p c xs (rdN xs i1)) := hR3; clear hk3 hR3; go_wp2_with fail; refine (l2numO_any _ w3).mono ?_; rintro e w4 ⟨rfl, ho4, hb4⟩; have FIN : Hid _ := TermOut.of HK3.out HR3.out ho4 hb4; clear ho4 hb4; go_wp2_with fail; go_ret; rw [HX2.out, HF.out]; exact FIN.out
 ·have hb1 : ((j : Int) == 0) = false := by rw [hj0]; rfl
  have hb2 : decide ((j : Int) < 3) = true := by rw [hj0]; rfl
  have HF : Hid (leafT xs x i1 = ([(0, (((rdI xs i1).toNat % 5 : Nat) : Int), [])], rdN xs i1)) := by show _ = _; rw [leafT, if_neg (by rw [← HJ.out, hj0]; decide), if_pos (by rw [← HJ.out, hj0]; decide)]
  clear hj0; go_wp2_with fail; refine (next_any R c i1 p xs wL HRL.out).mono ?_; rintro e w3 ⟨rfl, hk3, hs3, hR3⟩; have HK3 : Hid (Keep R (R + 1) w w3) := HKL.out.trans hk3; have HR3 : Hid (RdIn w3 R p c xs (rdN xs i1)) := hR3
  obtain ⟨y, ey⟩ : ∃ y : Nat, rdI xs i1 = y := ⟨(rdI xs i1).toNat, by omega⟩
  rw [ey] at hr1 ⊢
  obtain ⟨z, ez⟩ : ∃ z, z = y % 5 := ⟨_, rfl⟩
  have hz : z < 5 := by omega
  have hmz : (y : Int).tmod 5 = (z : Int) := by rw [ez, Int.tmod_eq_emod_of_nonneg (by omega)]; rfl
  have HZ : Hid (([(0, (((rdI xs i1).toNat % 5 : Nat) : Int), [])] : List Cel) = [(0, (z : Int), [])]) := by show _ = _; rw [ey, Int.toNat_natCast, ez]
  clear hk3 hs3 hR3 ey ez; go_wp2_with fail; refine (l2varO_any _ w3).mono ?_; rintro e w4 ⟨rfl, ho4, hb4⟩; have FIN : Hid _ := TermOut.of HK3.out HR3.out ho4 hb4; clear ho4 hb4; go_wp2_with fail; go_ret; rw [HX2.out, HF.out, HZ.out]; exact FIN.out
 ·have hb1 : ((j : Int) == 0) = false := by rw [hj0]; rfl
  have hb2 : decide ((j : Int) < 3) = true := by rw [hj0]; rfl
  have HF : Hid (leafT xs x i1 = ([(0, (((rdI xs i1).toNat % 5 : Nat) : Int), [])], rdN xs i1)) := by show _ = _; rw [leafT, if_neg (by rw [← HJ.out, hj0]; decide), if_pos (by rw [← HJ.out, hj0]; decide)]
  clear hj0; go_wp2_with fail; refine (next_any R c i1 p xs wL HRL.out).mono ?_; rintro e w3 ⟨rfl, hk3, hs3, hR3⟩; have HK3 : Hid (Keep R (R + 1) w w3) := HKL.out.trans hk3; have HR3 : Hid (RdIn w3 R p c xs (rdN xs i1)) := hR3
  obtain ⟨y, ey⟩ : ∃ y : Nat, rdI xs i1 = y := ⟨(rdI xs i1).toNat, by omega⟩
  rw [ey] at hr1 ⊢
  obtain ⟨z, ez⟩ : ∃ z, z = y % 5 := ⟨_, rfl⟩
  have hz : z < 5 := by omega
  have hmz : (y : Int).tmod 5 = (z : Int) := by rw [ez, Int.tmod_eq_emod_of_nonneg (by omega)]; rfl
  have HZ : Hid (([(0, (((rdI xs i1).toNat % 5 : Nat) : Int), [])] : List Cel) = [(0, (z : Int), [])]) := by show _ = _; rw [ey, Int.toNat_natCast, ez]
  clear hk3 hs3 hR3 ey ez; go_wp2_with fail; refine (l2varO_any _ w3).mono ?_; rintro e w4 ⟨rfl, ho4, hb4⟩; have FIN : Hid _ := TermOut.of HK3.out HR3.out ho4 hb4; clear ho4 hb4; go_wp2_with fail; go_ret; rw [HX2.out, HF.out, HZ.out]; exact FIN.out
 ·have hb1 : ((j : Int) == 0) = false := by simp; omega
  have hb2 : decide ((j : Int) < 3) = false := by simp; omega
  have HF : Hid (leafT xs x i1 = ([(2, 0, numsU (nameAt (rdI xs i1).toNat))], rdN xs i1)) := by show _ = _; rw [leafT, if_neg (by rw [← HJ.out]; omega), if_neg (by rw [← HJ.out]; omega)]
  clear hj0; go_wp2_with fail; refine (l4name_any R c i1 p xs wL HRL.out).mono ?_; rintro e w3 ⟨g, n3, cap, rfl, hn3, hk3, hR3, hg, ht⟩; have HK3 : Hid (Keep R (R + 1) w w3) := HKL.out.trans hk3; have HR3 : Hid (RdIn w3 R p c xs (rdN xs i1)) := hR3; have HT3 : Hid (OwnT w3 wL.heap.size (some ⟨g, 0, none⟩) n3 cap (numsU (nameAt (rdI xs i1).toNat))) := ht; have HBW : Hid (w.heap.size ≤ wL.heap.size) := HKL.out.size; have hbA : Below w3.heap.size w3 (w3.alloc (Obj.cells #[Value.int IntKind.i64 2, Value.int IntKind.i64 0, Value.slice (some ⟨g, 0, none⟩) n3 cap] 63)) := (Below.refl _ _).alloc (Nat.le_refl _) _
  have HO3 : Hid (OwnC (w3.alloc (Obj.cells #[Value.int IntKind.i64 2, Value.int IntKind.i64 0, Value.slice (some ⟨g, 0, none⟩) n3 cap] 63)) w.heap.size (some ⟨w3.heap.size, 0, none⟩) 1 1 [(2, 0, numsU (nameAt (rdI xs i1).toNat))]) := by
   refine own_oneN (heap_alloc_new w3 _) (Nat.le_trans HBW.out hk3.size) ((ht.mono HBW.out).below hbA) (fun h0 a ea => ?_); obtain ⟨g', eg, hB', hl', hc'⟩ := ht.2 h0
   cases eg
   cases ea
   exact Nat.ne_of_lt hl'
  have HBA : Hid _ := hbA; clear hk3 hR3 ht hbA hg hn3; go_wp2_with fail; go_ret; rw [HX2.out, HF.out]; exact ⟨_, _, _, rfl, HO3.out, HK3.out.trans (Keep.of_below HBA.out), HR3.out.grow HBA.out⟩
set_option maxHeartbeats 2000000 in
theorem term_few (R c i : Nat) (p : Option Addr) (xs : List Int) (D : Int) (w : World) (h : RdIn w R p c xs i) (hD : -10 ≤ D ∧ D ≤ 10) (hc : 0 < D) (h0 : ¬ rdN xs i = xs.length) (h50 : (rdI xs i).toNat < 50) :
  Calls Tryz.prog 35 #[.pointer (some ⟨R, 0, none⟩), .int .i64 D] w (TermOut w R p c xs (leafT xs (rdI xs i).toNat (rdN xs i))) := by
 have HH : Hid (RdIn w R p c xs i) := h; have hr := rdI_rng h.bytes i; have hle := rdN_le h.le; have hsm := h.small; have hr1 := rdI_rng h.bytes (rdN xs i)
 obtain ⟨n, en⟩ : ∃ n, n = xs.length := ⟨_, rfl⟩
 rw [← en] at hle hsm; have HEN : Hid (n = xs.length) := en
 obtain ⟨i1, ei⟩ : ∃ i1, i1 = rdN xs i := ⟨_, rfl⟩
 rw [← ei] at hle hr1 ⊢; have HEI : Hid (i1 = rdN xs i) := ei; have hd : decide (D ≤ 0) = false := decide_eq_false (by omega); rw [← ei, ← en] at h0; clear h en ei
 go_enter Tryz.func35, Tryz.ntmps35
 go_wp2_with fail; refine (next_any R c i p xs w HH.out).mono ?_; rintro e w2 ⟨rfl, hk2, hs2, hR2⟩; have HK2 : Hid (Keep R (R + 1) w w2) := hk2
 have HR2 : Hid (RdIn w2 R p c xs i1) := by rw [HEI.out]; exact hR2
 obtain ⟨x, ex⟩ : ∃ x : Nat, rdI xs i = x := ⟨(rdI xs i).toNat, by omega⟩
 rw [ex] at hr ⊢
 have HX : Hid ((rdI xs i).toNat = x) := by show _ = _; rw [ex]; exact Int.toNat_natCast x
 obtain ⟨j, ej⟩ : ∃ j, j = x % 5 := ⟨_, rfl⟩
 have hj : j < 5 := by omega
 have hm : (x : Int).tmod 5 = (j : Int) := by rw [ej, Int.tmod_eq_emod_of_nonneg (by omega)]; rfl
 have HJ : Hid (j = x % 5) := ej; have hxt : ((x : Nat) : Int).toNat = x := Int.toNat_natCast x; have HX2 : Hid ((rdI xs i).toNat = x) := HX.out
 have hx50 : decide ((x : Int) < 50) = true := by rw [HX.out] at h50; exact decide_eq_true (by omega)
 clear hk2 hs2 hR2 ex ej; go_wp2_with fail; refine (left_any R c i1 p xs w2 HR2.out).mono ?_; rintro e wL ⟨rfl, hbL⟩; have HRL : Hid (RdIn wL R p c xs i1) := HR2.out.grow hbL; have HKL : Hid (Keep R (R + 1) w wL) := HK2.out.trans (Keep.of_below hbL); rw [← HEN.out]
 obtain ⟨lf, el⟩ : ∃ lf, lf = n - i1 := ⟨_, rfl⟩
 rw [← el]
 have hlf : lf ≤ 500 := by omega
 clear hbL
 have hz0 : ((lf : Int) == 0) = false := by simp; omega
 clear el
 rcases (by omega : j = 0 ∨ j = 1 ∨ j = 2 ∨ 3 ≤ j) with hj0 | hj0 | hj0 | hj0
 ·have hb1 : ((j : Int) == 0) = true := by rw [hj0]; rfl
  have HF : Hid (leafT xs x i1 = ([(1, intD (rdI xs i1).toNat, [])], rdN xs i1)) := by show _ = _; rw [leafT, if_pos (by rw [← HJ.out]; exact hj0)]
  clear hj0; go_wp2_with fail; refine (l4int_any R c i1 p xs wL HRL.out).mono ?_; rintro e w3 ⟨rfl, hk3, hR3⟩; have HK3 : Hid (Keep R (R + 1) w w3) := HKL.out.trans hk3; have HR3 : Hid (RdIn w3 R p c xs (rdN xs i1)) := hR3; clear hk3 hR3; go_wp2_with fail; refine (l2numO_any _ w3).mono ?_; rintro e w4 ⟨rfl, ho4, hb4⟩; have FIN : Hid _ := TermOut.of HK3.out HR3.out ho4 hb4; clear ho4 hb4; go_wp2_with fail; go_ret; rw [HX2.out, HF.out]; exact FIN.out
 ·have hb1 : ((j : Int) == 0) = false := by rw [hj0]; rfl
  have hb2 : decide ((j : Int) < 3) = true := by rw [hj0]; rfl
  have HF : Hid (leafT xs x i1 = ([(0, (((rdI xs i1).toNat % 5 : Nat) : Int), [])], rdN xs i1)) := by show _ = _; rw [leafT, if_neg (by rw [← HJ.out, hj0]; decide), if_pos (by rw [← HJ.out, hj0]; decide)]
  clear hj0; go_wp2_with fail; refine (next_any R c i1 p xs wL HRL.out).mono ?_; rintro e w3 ⟨rfl, hk3, hs3, hR3⟩; have HK3 : Hid (Keep R (R + 1) w w3) := HKL.out.trans hk3; have HR3 : Hid (RdIn w3 R p c xs (rdN xs i1)) := hR3
  obtain ⟨y, ey⟩ : ∃ y : Nat, rdI xs i1 = y := ⟨(rdI xs i1).toNat, by omega⟩
  rw [ey] at hr1 ⊢
  obtain ⟨z, ez⟩ : ∃ z, z = y % 5 := ⟨_, rfl⟩
  have hz : z < 5 := by omega
  have hmz : (y : Int).tmod 5 = (z : Int) := by rw [ez, Int.tmod_eq_emod_of_nonneg (by omega)]; rfl
  have HZ : Hid (([(0, (((rdI xs i1).toNat % 5 : Nat) : Int), [])] : List Cel) = [(0, (z : Int), [])]) := by show _ = _; rw [ey, Int.toNat_natCast, ez]
  clear hk3 hs3 hR3 ey ez; go_wp2_with fail; refine (l2varO_any _ w3).mono ?_; rintro e w4 ⟨rfl, ho4, hb4⟩; have FIN : Hid _ := TermOut.of HK3.out HR3.out ho4 hb4; clear ho4 hb4; go_wp2_with fail; go_ret; rw [HX2.out, HF.out, HZ.out]; exact FIN.out
 ·have hb1 : ((j : Int) == 0) = false := by rw [hj0]; rfl
  have hb2 : decide ((j : Int) < 3) = true := by rw [hj0]; rfl
  have HF : Hid (leafT xs x i1 = ([(0, (((rdI xs i1).toNat % 5 : Nat) : Int), [])], rdN xs i1)) := by show _ = _; rw [leafT, if_neg (by rw [← HJ.out, hj0]; decide), if_pos (by rw [← HJ.out, hj0]; decide)]
  clear hj0; go_wp2_with fail; refine (next_any R c i1 p xs wL HRL.out).mono ?_; rintro e w3 ⟨rfl, hk3, hs3, hR3⟩; have HK3 : Hid (Keep R (R + 1) w w3) := HKL.out.trans hk3; have HR3 : Hid (RdIn w3 R p c xs (rdN xs i1)) := hR3
  obtain ⟨y, ey⟩ : ∃ y : Nat, rdI xs i1 = y := ⟨(rdI xs i1).toNat, by omega⟩
  rw [ey] at hr1 ⊢
  obtain ⟨z, ez⟩ : ∃ z, z = y % 5 := ⟨_, rfl⟩
  have hz : z < 5 := by omega
  have hmz : (y : Int).tmod 5 = (z : Int) := by rw [ez, Int.tmod_eq_emod_of_nonneg (by omega)]; rfl
  have HZ : Hid (([(0, (((rdI xs i1).toNat % 5 : Nat) : Int), [])] : List Cel) = [(0, (z : Int), [])]) := by show _ = _; rw [ey, Int.toNat_natCast, ez]
  clear hk3 hs3 hR3 ey ez; go_wp2_with fail; refine (l2varO_any _ w3).mono ?_; rintro e w4 ⟨rfl, ho4, hb4⟩; have FIN : Hid _ := TermOut.of HK3.out HR3.out ho4 hb4; clear ho4 hb4; go_wp2_with fail; go_ret; rw [HX2.out, HF.out, HZ.out]; exact FIN.out
 ·have hb1 : ((j : Int) == 0) = false := by simp; omega
  have hb2 : decide ((j : Int) < 3) = false := by simp; omega
  have HF : Hid (leafT xs x i1 = ([(2, 0, numsU (nameAt (rdI xs i1).toNat))], rdN xs i1)) := by show _ = _; rw [leafT, if_neg (by rw [← HJ.out]; omega), if_neg (by rw [← HJ.out]; omega)]
  clear hj0; go_wp2_with fail; refine (l4name_any R c i1 p xs wL HRL.out).mono ?_; rintro e w3 ⟨g, n3, cap, rfl, hn3, hk3, hR3, hg, ht⟩; have HK3 : Hid (Keep R (R + 1) w w3) := HKL.out.trans hk3; have HR3 : Hid (RdIn w3 R p c xs (rdN xs i1)) := hR3; have HT3 : Hid (OwnT w3 wL.heap.size (some ⟨g, 0, none⟩) n3 cap (numsU (nameAt (rdI xs i1).toNat))) := ht; have HBW : Hid (w.heap.size ≤ wL.heap.size) := HKL.out.size; have hbA : Below w3.heap.size w3 (w3.alloc (Obj.cells #[Value.int IntKind.i64 2, Value.int IntKind.i64 0, Value.slice (some ⟨g, 0, none⟩) n3 cap] 63)) := (Below.refl _ _).alloc (Nat.le_refl _) _
  have HO3 : Hid (OwnC (w3.alloc (Obj.cells #[Value.int IntKind.i64 2, Value.int IntKind.i64 0, Value.slice (some ⟨g, 0, none⟩) n3 cap] 63)) w.heap.size (some ⟨w3.heap.size, 0, none⟩) 1 1 [(2, 0, numsU (nameAt (rdI xs i1).toNat))]) := by
   refine own_oneN (heap_alloc_new w3 _) (Nat.le_trans HBW.out hk3.size) ((ht.mono HBW.out).below hbA) (fun h0 a ea => ?_); obtain ⟨g', eg, hB', hl', hc'⟩ := ht.2 h0
   cases eg
   cases ea
   exact Nat.ne_of_lt hl'
  have HBA : Hid _ := hbA; clear hk3 hR3 ht hbA hg hn3; go_wp2_with fail; go_ret; rw [HX2.out, HF.out]; exact ⟨_, _, _, rfl, HO3.out, HK3.out.trans (Keep.of_below HBA.out), HR3.out.grow HBA.out⟩
theorem Keep.on_below {R U : Nat} {w W W' : World} (h : Keep R U w W) (k : Below w.heap.size W W') : Keep R U w W' :=
 ⟨k.os.trans h.os, k.tape.trans h.tape, k.output.trans h.output, Nat.le_trans h.size k.size, fun j hj hp => (k.block j hj).trans (h.block j hj hp)⟩
def TermK (R c : Nat) (p : Option Addr) (xs : List Int) (D : Int) (f : Nat → List Cel × Nat) : Prop :=
 ∀ i w, RdIn w R p c xs i → Calls Tryz.prog 35 #[.pointer (some ⟨R, 0, none⟩), .int .i64 D] w (TermOut w R p c xs (f i))
theorem tll_flat : ∀ css : List (List Cel), tll css = css.flatten.length + tl css.flatten
 | [] => rfl
 | c :: r => by
   rw [tll, tll_flat r, List.flatten_cons, tl_app, List.length_append]; omega
theorem lsL_mk (css : List (List Cel)) (en : List Cel) : lsL css en = mkL css ++ en := rfl
theorem OwnCC.rows {w : World} {B U : Nat} {p : Option Addr} {n c : Nat} {css : List (List Cel)} (h : OwnCC w B U p n c css) (hn : 0 < css.length) (hs : ∀ j, j < css.length → 0 < (css.getD j []).length ∧ (css.getD j []).length + tl (css.getD j []) ≤ 100000) : ∃ g, p = some ⟨g, 0, none⟩ ∧ RowsIn w g css := by
 obtain ⟨ds, h⟩ := h; have hl := h.len; obtain ⟨g, cap, hv, hb, hg⟩ := h.row.form (by omega); simp only [Value.slice.injEq, true_and] at hv; obtain ⟨rfl, rfl⟩ := hv; refine ⟨g, rfl, fun j hj => ⟨(ds.getD j It.zero).1, (ds.getD j It.zero).2.1, ?_, (h.item j hj).toC.cin, hs j hj⟩⟩; rw [h.row.cellAt j (by omega)]; exact vals_at ds css j hj
theorem Sml.few {m : Nat} {cs : List Cel} (h : Sml m cs) (hm : m ≤ 600) : 0 < cs.length ∧ cs.length + tl cs ≤ 100000 := ⟨h.pos, by have := h.len; have := h.txt; omega⟩
theorem nilStr : (⟨#[91, 93]⟩ : ByteArray) = strOfNums [91, 93] := rfl
theorem list_small (f : Nat → List Cel × Nat) (n i m : Nat) (en : List Cel) (q q' : Option Addr) (c le cq : Nat) (w : World) (hn : n ≤ 10) (hm : m ≤ 600) (hf : ∀ i, Sml m (f i).1) (hle : le = en.length) (h0 : 0 < le) (hlb : le + tl en ≤ 1000000) (hin : CCIn w q (iterT f n i).1) (hend : CIn w q' en) :
  Calls Tryz.prog 117 #[.slice q n c, .slice q' le cq] w fun e w' => ∃ r m cr, e = .returned (.slice r m cr) ∧ OwnC w' w.heap.size r m cr (lsL (iterT f n i).1 en) ∧ Below w.heap.size w w' := by
 obtain ⟨a1, a2⟩ := iterT_sml f hf n i; obtain ⟨b1, b2⟩ := lsL_len (iterT f n i).1 []; have hl := iterT_len f n i; have hnm : n * m ≤ 10 * 600 := Nat.mul_le_mul hn hm; refine l2listE_any (iterT f n i).1 en q q' n c le cq w hle h0 hlb hl.symm (by omega) (fun j hj => (iterT_at f (P := fun cs => 0 < cs.length) (fun i => (hf i).pos) n i j (by omega))) (by rw [tll_flat]; omega) ?_ hin hend; rw [lsL_mk, List.append_nil, List.length_nil] at b1
 omega
set_option maxHeartbeats 4000000 in
theorem term_list (R c i m0 : Nat) (p : Option Addr) (xs : List Int) (D : Int) (f g : Nat → List Cel × Nat) (w : World) (h : RdIn w R p c xs i) (hD : -10 ≤ D ∧ D ≤ 10) (hc : 0 < D) (hF : TermK R c p xs (D - 1) f) (hG : TermK R c p xs (D - 2) g) (hm0 : m0 ≤ 600) (hf : ∀ i, Sml m0 (f i).1) (hg : ∀ i, Sml m0 (g i).1) (h0 : ¬ rdN xs i = xs.length) (h50 : ¬ (rdI xs i).toNat < 50) (h90 : (rdI xs i).toNat < 90) :
  Calls Tryz.prog 35 #[.pointer (some ⟨R, 0, none⟩), .int .i64 D] w (TermOut w R p c xs (nodeT xs f g i)) := by
 have HH : Hid (RdIn w R p c xs i) := h; have HF : Hid (TermK R c p xs (D - 1) f) := hF; have HG : Hid (TermK R c p xs (D - 2) g) := hG; have HSF : Hid (∀ i, Sml m0 (f i).1) := hf; have HSG : Hid (∀ i, Sml m0 (g i).1) := hg; have HM0 : Hid (m0 ≤ 600) := hm0; have hr := rdI_rng h.bytes i; have hle := rdN_le h.le; have hsm := h.small; have hRw : R < w.heap.size := h.lt; have hr1 := rdI_rng h.bytes (rdN xs i)
 have HNT : Hid (nodeT xs f g i = (if (rdI xs i).toNat % 4 = 0 then (lsL (iterT f (1 + (rdI xs i).toNat % 3) (rdN xs i)).1 (g (iterT f (1 + (rdI xs i).toNat % 3) (rdN xs i)).2).1, (g (iterT f (1 + (rdI xs i).toNat % 3) (rdN xs i)).2).2) else (lsL (iterT f (1 + (rdI xs i).toNat % 3) (rdN xs i)).1 [nilC], (iterT f (1 + (rdI xs i).toNat % 3) (rdN xs i)).2))) := by
  show _ = _
  unfold nodeT
  simp only; rw [if_neg (by intro hh; rcases hh with hh | hh; exact h0 hh; exact h50 hh), if_pos h90]
 obtain ⟨n, en⟩ : ∃ n, n = xs.length := ⟨_, rfl⟩
 rw [← en] at hle hsm h0; have HEN : Hid (n = xs.length) := en
 obtain ⟨i1, ei⟩ : ∃ i1, i1 = rdN xs i := ⟨_, rfl⟩
 rw [← ei] at hle hr1 h0; rw [← ei] at HNT; have HEI : Hid (i1 = rdN xs i) := ei; have hd : decide (D ≤ 0) = false := decide_eq_false (by omega)
 obtain ⟨res, er⟩ : ∃ res, res = nodeT xs f g i := ⟨_, rfl⟩
 rw [← er]; have HER : Hid (res = nodeT xs f g i) := er; clear h en ei hF hG hf hg hm0 er
 go_enter Tryz.func35, Tryz.ntmps35
 go_wp2_with fail; refine (next_any R c i p xs w HH.out).mono ?_; rintro e w2 ⟨rfl, hk2, hs2, hR2⟩; have HK2 : Hid (Keep R (R + 1) w w2) := hk2
 have HR2 : Hid (RdIn w2 R p c xs i1) := by rw [HEI.out]; exact hR2
 obtain ⟨x, ex⟩ : ∃ x : Nat, rdI xs i = x := ⟨(rdI xs i).toNat, by omega⟩
 have hxt : (rdI xs i).toNat = x := by rw [ex]; exact Int.toNat_natCast x
 rw [hxt] at h50 h90; rw [ex] at hr ⊢; rw [hxt] at HNT; have hx50 : decide ((x : Int) < 50) = false := decide_eq_false (by omega); clear hk2 hs2 hR2 ex hxt; go_wp2_with fail; refine (left_any R c i1 p xs w2 HR2.out).mono ?_; rintro e wL ⟨rfl, hbL⟩; have HRL : Hid (RdIn wL R p c xs i1) := HR2.out.grow hbL; have HKL : Hid (Keep R (R + 1) w wL) := HK2.out.trans (Keep.of_below hbL); rw [← HEN.out]
 obtain ⟨lf, el⟩ : ∃ lf, lf = n - i1 := ⟨_, rfl⟩
 rw [← el]
 have hlf : lf ≤ 500 := by omega
 have hz0 : ((lf : Int) == 0) = false := by simp; omega
 clear hbL el; have hx90 : decide ((x : Int) < 90) = true := decide_eq_true (by omega)
 obtain ⟨z3, e3⟩ : ∃ z, z = x % 3 := ⟨_, rfl⟩
 have hz3 : z3 < 3 := by omega
 have hm3 : (x : Int).tmod 3 = (z3 : Int) := by rw [e3, Int.tmod_eq_emod_of_nonneg (by omega)]; rfl
 obtain ⟨z4, e4⟩ : ∃ z, z = x % 4 := ⟨_, rfl⟩
 have hz4 : z4 < 4 := by omega
 have hm4 : (x : Int).tmod 4 = (z4 : Int) := by rw [e4, Int.tmod_eq_emod_of_nonneg (by omega)]; rfl
 have HZ4 : Hid (z4 = x % 4) := e4
 obtain ⟨nn, enn⟩ : ∃ nn, nn = 1 + z3 := ⟨_, rfl⟩
 have hnn : nn ≤ 3 := by omega
 have hnn0 : 1 ≤ nn := by omega
 have hadd : (1 : Int) + (z3 : Int) = (nn : Int) := by omega
 have HV : Hid (res = if z4 = 0 then (lsL (iterT f nn i1).1 (g (iterT f nn i1).2).1, (g (iterT f nn i1).2).2) else (lsL (iterT f nn i1).1 [nilC], (iterT f nn i1).2)) := by
  show _ = _
  rw [HER.out, HNT.out, ← e3, ← e4, ← enn]
 clear e3 e4 enn h90 h50 HNT HER; go_wp2_with fail
 go_loopw [6, 8] (fun it iv wr => ∃ (j mq cq : Nat) (q : Option Addr), j ≤ nn ∧ mq = j ∧ iv = .int .i64 j ∧ it = .slice q mq cq ∧ Hid (OwnCC wr w.heap.size wr.heap.size q mq cq (iterT f j i1).1) ∧ Hid (Keep R (R + 1) w wr) ∧ Hid (RdIn wr R p c xs (iterT f j i1).2)) (fun _ iv _ => nn - (intOf iv).toNat)
 case atStart => exact ⟨0, 0, 0, none, Nat.zero_le _, rfl, rfl, rfl, OwnCC.nil _ _ _, HKL, HRL⟩
 case round =>
  obtain ⟨j, mq, cq, q, hj, rfl, rfl, rfl, HO, HK, HR⟩ := hrel; have hBs : w.heap.size ≤ wr.heap.size := HK.out.size
  by_cases hlt : mq < nn
  ·have HC := HF.out (iterT f mq i1).2 wr HR.out
   go_wp2_with fail; refine HC.mono ?_; rintro e w3 ⟨q3, n3, c3, rfl, ho3, hk3, hR3⟩; have HO3 : Hid (OwnC w3 wr.heap.size q3 n3 c3 (f (iterT f mq i1).2).1) := ho3; have HR3 : Hid (RdIn w3 R p c xs (f (iterT f mq i1).2).2) := hR3; have HK3 : Hid (Keep R (R + 1) w w3) := HK.out.trans hk3; have HOW : Hid (OwnCC w3 w.heap.size wr.heap.size q mq cq (iterT f mq i1).1) := HO.out.keep hk3 (.inr (by omega)); have hU3 : wr.heap.size ≤ w3.heap.size := hk3.size; clear ho3 hR3 hk3 HC; go_wp2_with (at_builtin; refine app_itemU wr.heap.size w3 rfl _ _ rfl w.heap.size q mq cq _ rfl HOW.out hU3 hBs q3 n3 c3 _ HO3.out rfl (by omega) ?_; intro g4 n4 cap4 w4 hown4 hb4 hn4); have HO4 : Hid (OwnCC w4 w.heap.size w4.heap.size (some ⟨g4, 0, none⟩) n4 cap4 (iterT f (mq + 1) i1).1) := hown4; have hbA : Below w.heap.size w3 w4 := ((Below.refl _ _).alloc (Nat.le_trans hBs hU3) _).trans hb4; have HK4 : Hid (Keep R (R + 1) w w4) := HK3.out.on_below hbA
   have HR4 : Hid (RdIn w4 R p c xs (iterT f (mq + 1) i1).2) := HR3.out.below hbA hRw; have hn4' : n4 = mq + 1 := hn4.out; clear hown4 hb4 hbA hn4; subst hn4'; go_roundw
   case rel => exact ⟨mq + 1, mq + 1, cap4, _, by omega, rfl, by go_num, rfl, HO4, HK4, HR4⟩
   case measure => simp [intOf]; omega
  ·obtain rfl : mq = nn := by omega
   go_wp2_with fail; rw [nilStr]; refine (l2atomS_any [91, 93] (fun x hx => by simp at hx; omega) wr).mono ?_; rintro e w5 ⟨p5, rfl, hc5, hb5⟩; have HC5 : Hid (CIn w5 p5 [nilC]) := hc5; have HK5 : Hid (Keep R (R + 1) w w5) := HK.out.trans (Keep.of_below hb5); have HR5 : Hid (RdIn w5 R p c xs (iterT f mq i1).2) := HR.out.grow hb5; have HO5 : Hid (OwnCC w5 w.heap.size wr.heap.size q mq cq (iterT f mq i1).1) := HO.out.below hb5; have hs5 : w.heap.size ≤ w5.heap.size := HK5.out.size; clear hc5 hb5
   by_cases h4 : z4 = 0
   ·have hb4 : ((z4 : Int) == 0) = true := by rw [h4]; rfl
    have HC := HG.out (iterT f mq i1).2 w5 HR5.out; have HW : Hid (res = (lsL (iterT f mq i1).1 (g (iterT f mq i1).2).1, (g (iterT f mq i1).2).2)) := HV.out.trans (if_pos h4); clear h4; go_wp2_with fail; refine HC.mono ?_; rintro e w6 ⟨q6, n6, c6, rfl, ho6, hk6, hR6⟩; have hsg := HSG.out (iterT f mq i1).2; have HL := list_small f mq i1 m0 (g (iterT f mq i1).2).1 q q6 cq n6 c6 w6 (by omega) HM0.out HSF.out ho6.1 (by have := ho6.1; have := hsg.pos; omega) (by have := ho6.1; have := hsg.len; have := hsg.txt; have := HM0.out; omega) (HO5.out.keep hk6 (.inr (by omega))).ccin ho6.cin; have HK6 : Hid (Keep R (R + 1) w w6) := HK5.out.trans hk6; have HR6 : Hid (RdIn w6 R p c xs (g (iterT f mq i1).2).2) := hR6; clear ho6 hk6 hR6 hsg HC; go_wp2_with fail; refine HL.mono ?_; rintro e w7 ⟨q7, n7, c7, rfl, ho7, hb7⟩; have FIN : Hid _ := TermOut.of HK6.out HR6.out ho7 hb7; clear ho7 hb7 HL; go_wp2_with fail
    go_ret; rw [HW.out]; exact FIN.out
   ·have hb4 : ((z4 : Int) == 0) = false := by simp; omega
    have HL := list_small f mq i1 m0 [nilC] q p5 cq 1 1 w5 (by omega) HM0.out HSF.out rfl (by decide) (by decide) HO5.out.ccin HC5.out; have HW : Hid (res = (lsL (iterT f mq i1).1 [nilC], (iterT f mq i1).2)) := HV.out.trans (if_neg h4); clear h4; go_wp2_with fail; refine HL.mono ?_; rintro e w7 ⟨q7, n7, c7, rfl, ho7, hb7⟩; have FIN : Hid _ := TermOut.of HK5.out HR5.out ho7 hb7; clear ho7 hb7 HL; go_wp2_with fail; go_ret; rw [HW.out]; exact FIN.out
set_option maxHeartbeats 4000000 in
theorem term_many (R c i m0 : Nat) (p : Option Addr) (xs : List Int) (D : Int) (f g : Nat → List Cel × Nat) (w : World) (h : RdIn w R p c xs i) (hD : -10 ≤ D ∧ D ≤ 10) (hc : 0 < D) (hF : TermK R c p xs (D - 1) f) (hG : TermK R c p xs (D - 2) g) (hm0 : m0 ≤ 600) (hf : ∀ i, Sml m0 (f i).1) (hg : ∀ i, Sml m0 (g i).1) (h0 : ¬ rdN xs i = xs.length) (h50 : ¬ (rdI xs i).toNat < 50) (h230 : ¬ (rdI xs i).toNat < 230) :
  Calls Tryz.prog 35 #[.pointer (some ⟨R, 0, none⟩), .int .i64 D] w (TermOut w R p c xs (nodeT xs f g i)) := by
 have HH : Hid (RdIn w R p c xs i) := h; have HF : Hid (TermK R c p xs (D - 1) f) := hF; have HG : Hid (TermK R c p xs (D - 2) g) := hG; have HSF : Hid (∀ i, Sml m0 (f i).1) := hf; have HSG : Hid (∀ i, Sml m0 (g i).1) := hg; have HM0 : Hid (m0 ≤ 600) := hm0; have hr := rdI_rng h.bytes i; have hle := rdN_le h.le; have hsm := h.small; have hRw : R < w.heap.size := h.lt; have hr1 := rdI_rng h.bytes (rdN xs i)
 have HNT : Hid (nodeT xs f g i = ((3, ((1 + (rdI xs i).toNat % 4 : Nat) : Int), numsU (nameAt (rdI xs (iterT f (1 + (rdI xs i).toNat % 4) (rdN xs i)).2).toNat)) :: (iterT f (1 + (rdI xs i).toNat % 4) (rdN xs i)).1.flatten, rdN xs (iterT f (1 + (rdI xs i).toNat % 4) (rdN xs i)).2)) := by
  show _ = _
  unfold nodeT
  simp only; rw [if_neg (by intro hh; rcases hh with hh | hh; exact h0 hh; exact h50 hh), if_neg (by omega), if_neg (by omega), if_neg h230]
 obtain ⟨n, en⟩ : ∃ n, n = xs.length := ⟨_, rfl⟩
 rw [← en] at hle hsm h0; have HEN : Hid (n = xs.length) := en
 obtain ⟨i1, ei⟩ : ∃ i1, i1 = rdN xs i := ⟨_, rfl⟩
 rw [← ei] at hle hr1 h0; rw [← ei] at HNT; have HEI : Hid (i1 = rdN xs i) := ei; have hd : decide (D ≤ 0) = false := decide_eq_false (by omega)
 obtain ⟨res, er⟩ : ∃ res, res = nodeT xs f g i := ⟨_, rfl⟩
 rw [← er]; have HER : Hid (res = nodeT xs f g i) := er; clear h en ei hF hG hf hg hm0 er
 go_enter Tryz.func35, Tryz.ntmps35
 go_wp2_with fail; refine (next_any R c i p xs w HH.out).mono ?_; rintro e w2 ⟨rfl, hk2, hs2, hR2⟩; have HK2 : Hid (Keep R (R + 1) w w2) := hk2
 have HR2 : Hid (RdIn w2 R p c xs i1) := by rw [HEI.out]; exact hR2
 obtain ⟨x, ex⟩ : ∃ x : Nat, rdI xs i = x := ⟨(rdI xs i).toNat, by omega⟩
 have hxt : (rdI xs i).toNat = x := by rw [ex]; exact Int.toNat_natCast x
 rw [hxt] at h50 h230; rw [ex] at hr ⊢; rw [hxt] at HNT; have hx50 : decide ((x : Int) < 50) = false := decide_eq_false (by omega); clear hk2 hs2 hR2 ex hxt; go_wp2_with fail; refine (left_any R c i1 p xs w2 HR2.out).mono ?_; rintro e wL ⟨rfl, hbL⟩; have HRL : Hid (RdIn wL R p c xs i1) := HR2.out.grow hbL; have HKL : Hid (Keep R (R + 1) w wL) := HK2.out.trans (Keep.of_below hbL); rw [← HEN.out]
 obtain ⟨lf, el⟩ : ∃ lf, lf = n - i1 := ⟨_, rfl⟩
 rw [← el]
 have hlf : lf ≤ 500 := by omega
 have hz0 : ((lf : Int) == 0) = false := by simp; omega
 clear hbL el; have hx90 : decide ((x : Int) < 90) = false := decide_eq_false (by omega); have hx180 : decide ((x : Int) < 180) = false := decide_eq_false (by omega); have hx230 : decide ((x : Int) < 230) = false := decide_eq_false (by omega)
 obtain ⟨z4, e4⟩ : ∃ z, z = x % 4 := ⟨_, rfl⟩
 have hz4 : z4 < 4 := by omega
 have hm4 : (x : Int).tmod 4 = (z4 : Int) := by rw [e4, Int.tmod_eq_emod_of_nonneg (by omega)]; rfl
 obtain ⟨nn, enn⟩ : ∃ nn, nn = 1 + z4 := ⟨_, rfl⟩
 have hnn : nn ≤ 4 := by omega
 have hnn0 : 1 ≤ nn := by omega
 have hadd : (1 : Int) + (z4 : Int) = (nn : Int) := by omega
 have HV : Hid (res = ((3, (nn : Int), numsU (nameAt (rdI xs (iterT f nn i1).2).toNat)) :: (iterT f nn i1).1.flatten, rdN xs (iterT f nn i1).2)) := by
  show _ = _
  rw [HER.out, HNT.out, ← e4, ← enn]
 obtain ⟨wA, eA⟩ : ∃ wA, wA = (wL.alloc (.cells (binU.map strV).toArray 9)).alloc (.cells (unaU.map strV).toArray 9) := ⟨_, rfl⟩
 have hbA : Below wL.heap.size wL wA := by rw [eA]; exact ((Below.refl _ _).alloc (Nat.le_refl _) _).alloc (by simp) _
 have HKA : Hid (Keep R (R + 1) w wA) := HKL.out.trans (Keep.of_below hbA); have HRA : Hid (RdIn wA R p c xs i1) := HRL.out.grow hbA; clear e4 enn h230 h50 hbA HNT HER; go_wp2_with fail
 have eA' : wA = (wL.alloc (Obj.cells #[.string ⟨#[45]⟩, .string ⟨#[43]⟩, .string ⟨#[61]⟩, .string ⟨#[44]⟩, .string ⟨#[58, 45]⟩, .string ⟨#[59]⟩, .string ⟨#[45, 62]⟩, .string ⟨#[105, 115]⟩, .string ⟨#[94]⟩, .string ⟨#[42, 42]⟩, .string ⟨#[42]⟩, .string ⟨#[64, 64]⟩, .string ⟨#[109, 111, 100]⟩, .string ⟨#[102]⟩, .string ⟨#[45, 45, 62]⟩, .string ⟨#[114]⟩, .string ⟨#[113]⟩] 9)).alloc (Obj.cells #[.string ⟨#[45]⟩, .string ⟨#[92, 43]⟩, .string ⟨#[58, 45]⟩, .string ⟨#[43]⟩, .string ⟨#[123, 125]⟩, .string ⟨#[100, 121, 110, 97, 109, 105, 99]⟩, .string ⟨#[103]⟩, .string ⟨#[92]⟩, .string ⟨#[112]⟩, .string ⟨#[64, 64]⟩, .string ⟨#[91, 93]⟩, .string ⟨#[33]⟩] 9) := by rw [eA]; rfl
 rw [← eA']; clear eA eA'
 go_loopw [12, 14] (fun it iv wr => ∃ (j mq cq : Nat) (q : Option Addr), j ≤ nn ∧ mq = j ∧ iv = .int .i64 j ∧ it = .slice q mq cq ∧ Hid (OwnCC wr w.heap.size wr.heap.size q mq cq (iterT f j i1).1) ∧ Hid (Keep R (R + 1) w wr) ∧ Hid (RdIn wr R p c xs (iterT f j i1).2)) (fun _ iv _ => nn - (intOf iv).toNat)
 case atStart => exact ⟨0, 0, 0, none, Nat.zero_le _, rfl, rfl, rfl, OwnCC.nil _ _ _, HKA, HRA⟩
 case round =>
  obtain ⟨j, mq, cq, q, hj, rfl, rfl, rfl, HO, HK, HR⟩ := hrel; have hBs : w.heap.size ≤ wr.heap.size := HK.out.size
  by_cases hlt : mq < nn
  ·have HC := HF.out (iterT f mq i1).2 wr HR.out
   go_wp2_with fail; refine HC.mono ?_; rintro e w3 ⟨q3, n3, c3, rfl, ho3, hk3, hR3⟩; have HO3 : Hid (OwnC w3 wr.heap.size q3 n3 c3 (f (iterT f mq i1).2).1) := ho3; have HR3 : Hid (RdIn w3 R p c xs (f (iterT f mq i1).2).2) := hR3; have HK3 : Hid (Keep R (R + 1) w w3) := HK.out.trans hk3; have HOW : Hid (OwnCC w3 w.heap.size wr.heap.size q mq cq (iterT f mq i1).1) := HO.out.keep hk3 (.inr (by omega)); have hU3 : wr.heap.size ≤ w3.heap.size := hk3.size; clear ho3 hR3 hk3 HC; go_wp2_with (at_builtin; refine app_itemU wr.heap.size w3 rfl _ _ rfl w.heap.size q mq cq _ rfl HOW.out hU3 hBs q3 n3 c3 _ HO3.out rfl (by omega) ?_; intro g4 n4 cap4 w4 hown4 hb4 hn4); have HO4 : Hid (OwnCC w4 w.heap.size w4.heap.size (some ⟨g4, 0, none⟩) n4 cap4 (iterT f (mq + 1) i1).1) := hown4; have hbA : Below w.heap.size w3 w4 := ((Below.refl _ _).alloc (Nat.le_trans hBs hU3) _).trans hb4; have HK4 : Hid (Keep R (R + 1) w w4) := HK3.out.on_below hbA
   have HR4 : Hid (RdIn w4 R p c xs (iterT f (mq + 1) i1).2) := HR3.out.below hbA hRw; have hn4' : n4 = mq + 1 := hn4.out; clear hown4 hb4 hbA hn4; subst hn4'; go_roundw
   case rel => exact ⟨mq + 1, mq + 1, cap4, _, by omega, rfl, by go_num, rfl, HO4, HK4, HR4⟩
   case measure => simp [intOf]; omega
  ·obtain rfl : mq = nn := by omega
   go_wp2_with fail; refine (l4name_any R c (iterT f mq i1).2 p xs wr HR.out).mono ?_; rintro e w5 ⟨g5, n5, c5, rfl, hn5, hk5, hR5, hg5, ht5⟩
   obtain ⟨s, es⟩ : ∃ s, s = numsU (nameAt (rdI xs (iterT f mq i1).2).toNat) := ⟨_, rfl⟩
   rw [← es] at hn5 ht5
   have HW : Hid (res = ((3, (mq : Int), s) :: (iterT f mq i1).1.flatten, rdN xs (iterT f mq i1).2)) := by rw [es]; exact HV.out
   have hcv : (convert 22 9 (.slice (some ⟨g5, 0, none⟩) n5 c5)).run Tryz.prog w5 = .ok (.string (strOfNums s)) w5 := conv_str ht5.bin n5 c5 ht5.1 9 Tryz.underlying9
   have hbs : Byte s := by rw [es]; exact byte_numsU _
   obtain ⟨gr, eg, hrows⟩ := (HO.out.keep hk5 (.inr (by omega))).rows (by rw [iterT_len]; omega) (fun j hj => (iterT_at f (P := fun cs => 0 < cs.length ∧ cs.length + tl cs ≤ 100000) (fun i => (HSF.out i).few HM0.out) mq i1 j (by rw [iterT_len] at hj; exact hj))); subst eg; have HL := l2comp_any s hbs gr mq cq (iterT f mq i1).1 w5 (iterT_len f mq i1).symm (by omega) hrows; have HK5 : Hid (Keep R (R + 1) w w5) := HK.out.trans hk5; have HR5 : Hid (RdIn w5 R p c xs (rdN xs (iterT f mq i1).2)) := hR5; clear hk5 hR5 hg5 ht5 hrows hbs es hn5; go_wp2_with fail; refine HL.mono ?_; rintro e w7 ⟨q7, n7, c7, rfl, ho7, hb7⟩; have FIN : Hid _ := TermOut.of HK5.out HR5.out ho7 hb7; clear ho7 hb7 HL; go_wp2_with fail; go_ret; rw [HW.out]; exact FIN.out
end Go.Proofs.YtkklidpnkofipaaGreatDoor
