/- Texts of NbQ, NbS0, IsG. Own work of the verifier. -/
import Derived.Test.YtemohfhblpejmaaDoorUqaj
import Derived.Test.YtemohfhblpejmaaDoorUqal
import Derived.Test.YtemohfhblpejmaaDoorUqah
import Derived.Test.YtemohfhblpejmaaDoorUqad
namespace Go.Proofs.YtemohfhblpejmaaDoor
open Go Go.RowKit
set_option linter.unusedVariables false

theorem str_is {s : List Int} (hb : Byte s) (u : List UInt8) (t : List Int) (ht : u.map (fun x => (x.toNat : Int)) = t) : ((strOfNums s).toList == u) = (s == t) := by
  rw [Bool.eq_iff_iff, beq_iff_eq, beq_iff_eq, str_eq hb u, ht]
theorem cut_str {xs : List Int} (n : Nat) : (strOfNums xs).extract 0 n = strOfNums (xs.take n) := by
  apply ByteArray.ext
  simp [strOfNums, List.map_take]
theorem size_str (xs : List Int) : (strOfNums xs).size = xs.length := by simp [strOfNums, ByteArray.size]
theorem dol_str {s : List Int} (hb : Byte s) : dolB (strOfNums s) = dolL s := by
  unfold dolB
  rw [size_str, cut_str, str_is (fun x hx => hb x (List.mem_of_mem_take hx)) [36] [36] rfl]
  cases s with
  | nil => rfl
  | cons x r =>
    simp [dolL]
theorem con_str {s : List Int} (hb : Byte s) (n : Int) (hn : 1 ≤ n) : conB (strOfNums s) n = conC (3, n, s) := by
  unfold conB
  rw [str_is hb [44] [44] rfl, str_is hb [59] [59] rfl, str_is hb [45, 62] [45, 62] rfl, str_is hb [102, 111, 114, 97, 108, 108] nAll rfl, str_is hb [92, 43] [92, 43] rfl, str_is hb [111, 110, 99, 101] nOnce rfl, str_is hb [33] [33] rfl]
  unfold conC
  have h0 : (n == 0) = false := by simp; omega
  by_cases e1 : s = [44]
  · subst e1; simp
  by_cases e2 : s = [59]
  · subst e2; simp
  by_cases e3 : s = [45, 62]
  · subst e3; simp
  by_cases e4 : s = nAll
  · subst e4; simp
  by_cases e5 : s = [92, 43]
  · subst e5; simp
  by_cases e6 : s = nOnce
  · subst e6; simp
  simp [e1, e2, e3, e4, e5, e6, h0]
theorem con_str0 {s : List Int} (hb : Byte s) : conB (strOfNums s) 0 = (s == [33]) := by
  unfold conB
  rw [str_is hb [44] [44] rfl, str_is hb [59] [59] rfl, str_is hb [45, 62] [45, 62] rfl, str_is hb [102, 111, 114, 97, 108, 108] nAll rfl, str_is hb [92, 43] [92, 43] rfl, str_is hb [111, 110, 99, 101] nOnce rfl, str_is hb [33] [33] rfl]
  by_cases e1 : s = [44]
  · subst e1; simp
  by_cases e2 : s = [59]
  · subst e2; simp
  by_cases e3 : s = [45, 62]
  · subst e3; simp
  by_cases e4 : s = nAll
  · subst e4; simp
  by_cases e5 : s = [92, 43]
  · subst e5; simp
  by_cases e6 : s = nOnce
  · subst e6; simp
  simp [e1, e2, e3, e4, e5, e6]
  rw [Bool.eq_iff_iff]
  simp
theorem FoA.below {A : Nat → Prop} {W W' : World} {F : Fo} {vs : List Value} (h : FoA A W F vs) (hb : Below W.heap.size W W') : FoA A W' F vs :=
  h.move (fun p v hA hp => ⟨hA, (hb.cell (World.block_lt_of_cell? _ _ hp)).trans hp⟩) hb.size
theorem FoA.less {A A' : Nat → Prop} {W : World} {F : Fo} {vs : List Value} (h : FoA A W F vs) (hA : ∀ b, b < W.heap.size → A' b → A b) : FoA A' W F vs :=
  h.move (fun p v ha hp => ⟨fun h' => ha (hA _ (World.block_lt_of_cell? _ _ hp) h'), hp⟩) (Nat.le_refl _)
/-- A new compound over a row that is there. -/
theorem comp_new {A : Nat → Prop} {W : World} {n : Int} {nm : List Int} {k : Fo} {g : Nat} {vs : List Value} (hA : ¬ A W.heap.size) (hG : ¬ A g) (hg : g < W.heap.size) (hc : ∀ i, i < vs.length → W.cell? ⟨g, i, none⟩ = some (vs.getD i .nilIface)) (hk : FoA A W k vs) :
    FoA A (W.alloc (.cells #[.string (strOfNums nm), .slice (some ⟨g, 0, none⟩) vs.length vs.length] 87)) (.node (3, n, nm) k .nil) [.iface 84 (.pointer (some ⟨W.heap.size, 0, none⟩))] := by
  have hal : Below W.heap.size W (W.alloc (.cells #[.string (strOfNums nm), .slice (some ⟨g, 0, none⟩) vs.length vs.length] 87)) := (Below.refl _ _).alloc (Nat.le_refl _) _
  have hnew := heap_alloc_new W (.cells #[.string (strOfNums nm), .slice (some ⟨g, 0, none⟩) vs.length vs.length] 87)
  exact foA_comp hA hG (cell_of_row _ _ 0 _ _ _ hnew) (cell_of_row _ _ 1 _ _ _ hnew) (by simp; omega) (fun i hi => Lib.cell?_alloc_marked _ (hc i hi)) (hk.below hal)
/-- A new compound over a new row. -/
theorem comp_row {A : Nat → Prop} {W : World} {n : Int} {nm : List Int} {k : Fo} {vs : List Value} (hA : ∀ b, W.heap.size ≤ b → ¬ A b) (hk : FoA A W k vs) :
    FoA A ((W.alloc (.cells vs.toArray 40)).alloc (.cells #[.string (strOfNums nm), .slice (some ⟨W.heap.size, 0, none⟩) vs.length vs.length] 87)) (.node (3, n, nm) k .nil) [.iface 84 (.pointer (some ⟨W.heap.size + 1, 0, none⟩))] := by
  have h1 := heap_alloc_new W (.cells vs.toArray 40)
  have h := comp_new (A := A) (W := W.alloc (.cells vs.toArray 40)) (n := n) (nm := nm) (k := k) (g := W.heap.size) (vs := vs) (hA _ (by simp)) (hA _ (Nat.le_refl _)) (by simp) (fun i hi => (cell_of_row _ _ i _ _ _ h1).trans (by simp [List.getD, hi])) (hk.below ((Below.refl _ _).alloc (Nat.le_refl _) _))
  simpa using h

end Go.Proofs.YtemohfhblpejmaaDoor

namespace Go.Proofs.YtemohfhblpejmaaDoor
open Go Go.RowKit
set_option linter.unusedVariables false

theorem l2atomO_any (s : List Int) (hs : Byte s) (w : World) : Calls Tryd.prog 42 #[.string (strOfNums s)] w fun e w' => ∃ p, e = .returned (.slice p 1 1) ∧ CIn w' p [(2, 0, s)] ∧ Below w.heap.size w w' := by
  obtain ⟨w1, cap1, hcv, hb1, ht⟩ := conv_bytes w s hs 9 Tryd.underlying9
  obtain ⟨l, el⟩ : ∃ l, l = s.length := ⟨_, rfl⟩
  rw [← el] at hcv ht
  have hb : Below w1.heap.size w1 (w1.alloc (Obj.cells #[Value.int IntKind.i64 2, Value.int IntKind.i64 0, Value.slice (some ⟨w.heap.size, 0, none⟩) l cap1] 36)) := (Below.refl _ _).alloc (Nat.le_refl _) _
  have HX : Hid (Box3 (w1.alloc (Obj.cells #[Value.int IntKind.i64 2, Value.int IntKind.i64 0, Value.slice (some ⟨w.heap.size, 0, none⟩) l cap1] 36)) w1.heap.size (.int .i64 2) (.int .i64 0) (.slice (some ⟨w.heap.size, 0, none⟩) l cap1)) := Box3.of_block (t := 36) (heap_alloc_new w1 _)
  have HT : Hid _ := (ht.below hb).bin
  have HL : Hid (l = s.length) := el
  have HB : Hid (Below w.heap.size w (w1.alloc (Obj.cells #[Value.int IntKind.i64 2, Value.int IntKind.i64 0, Value.slice (some ⟨w.heap.size, 0, none⟩) l cap1] 36))) := Below.on hb1 hb
  clear hb1 ht hb el
  go_enter Tryd.func42, Tryd.ntmps42
  go_wp2_with fail
  go_ret
  refine ⟨_, rfl, fun _ => ⟨w1.heap.size, 0, rfl, fun i hi => ?_⟩, HB.out⟩
  have hi0 : i = 0 := by simp at hi; omega
  subst hi0
  exact ⟨_, cap1, HX.out.1, HX.out.2.1, by show _ = some (Value.slice (some ⟨w.heap.size, 0, none⟩) s.length cap1); rw [← HL.out]; exact HX.out.2.2.1, HT.out⟩
/-- Terms that lie in slices of a row. -/
def RowsO (w : World) (g o : Nat) (dss : List (List Cel)) : Prop := ∀ j, j < dss.length → ∃ q c, w.cell? ⟨g, o + j, none⟩ = some (.slice q (dss.getD j []).length c) ∧ CIn w q (dss.getD j []) ∧ 0 < (dss.getD j []).length ∧ (dss.getD j []).length + tl (dss.getD j []) ≤ 1000000
theorem RowsO.below {w w' : World} {g o : Nat} {dss : List (List Cel)} (h : RowsO w g o dss) (hb : Below w.heap.size w w') : RowsO w' g o dss := fun j hj => by
  obtain ⟨q, c, h1, h2, h3⟩ := h j hj
  exact ⟨q, c, (hb.cell (World.block_lt_of_cell? _ _ h1)).trans h1, h2.below hb, h3⟩
set_option maxRecDepth 1000000 in
set_option maxHeartbeats 400000 in
theorem l2compO_any (s : List Int) (hs : Byte s) (g o n c : Nat) (dss : List (List Cel)) (w : World) (hn : n = dss.length) (h20 : n ≤ 20) (hr : RowsO w g o dss) :
    Calls Tryd.prog 38 #[.string (strOfNums s), .slice (some ⟨g, o, none⟩) n c] w fun e w' => ∃ q m c2, e = .returned (.slice q m c2) ∧ OwnC w' w.heap.size q m c2 ((3, (n : Int), s) :: dss.flatten) ∧ Below w.heap.size w w' := by
  obtain ⟨w1, cap1, hcv, hb1, ht⟩ := conv_bytes w s hs 9 Tryd.underlying9
  obtain ⟨l, el⟩ : ∃ l, l = s.length := ⟨_, rfl⟩
  rw [← el] at hcv ht
  have hlt1 : w.heap.size < w1.heap.size ∨ l = 0 := by
    rcases Nat.eq_zero_or_pos l with h | h
    · exact .inr h
    · obtain ⟨g', e, _, h3, _⟩ := ht.2 h
      cases e
      exact .inl h3
  have hbA : Below w1.heap.size w1 (w1.alloc (Obj.cells #[Value.int IntKind.i64 3, Value.int IntKind.i64 n, Value.slice (some ⟨w.heap.size, 0, none⟩) l cap1] 36)) := (Below.refl _ _).alloc (Nat.le_refl _) _
  have HBA : Hid (Below w.heap.size w (w1.alloc (Obj.cells #[Value.int IntKind.i64 3, Value.int IntKind.i64 n, Value.slice (some ⟨w.heap.size, 0, none⟩) l cap1] 36))) := Below.on hb1 hbA
  have HOA : Hid (OwnC (w1.alloc (Obj.cells #[Value.int IntKind.i64 3, Value.int IntKind.i64 n, Value.slice (some ⟨w.heap.size, 0, none⟩) l cap1] 36)) w.heap.size (some ⟨w1.heap.size, 0, none⟩) 1 1 [(3, (n : Int), s)]) := by
    refine ⟨rfl, [(3, (n : Int), some ⟨w.heap.size, 0, none⟩, l, cap1)], rfl, ⟨rfl, .inr ⟨w1.heap.size, 1, _, rfl, hb1.size, heap_alloc_new w1 _, Nat.le_refl _, by decide, rfl, rfl⟩⟩, fun i hi => ?_, fun i hi h => ?_, fun i j hi hj h => ?_⟩
    · obtain rfl : i = 0 := by simp at hi; omega
      exact ⟨rfl, rfl, ht.below hbA⟩
    · obtain rfl : i = 0 := by simp at hi; omega
      intro e
      have e2 : w.heap.size = w1.heap.size := congrArg Addr.block (Option.some.inj e)
      have h' : 0 < l := h
      omega
    · simp at hi hj
      omega
  have HR : Hid (RowsO w g o dss) := hr
  have HN : Hid (n = dss.length) := hn
  clear hb1 ht hbA hlt1 el hr hn
  go_enter Tryd.func38, Tryd.ntmps38
  go_wp2_with fail
  go_loopw [5, 6] (fun r i wr => ∃ (j : Nat) (q : Option Addr) (m cr : Nat), j ≤ n ∧ m ≤ 1 + j * 1000000 ∧ i = .int .i64 j ∧ r = .slice q m cr ∧ Hid (OwnC wr w.heap.size q m cr ((3, (n : Int), s) :: (dss.take j).flatten)) ∧ Hid (Below w.heap.size w wr)) (fun _ i _ => n - (intOf i).toNat)
  case atStart => exact ⟨0, _, 1, 1, Nat.zero_le _, by omega, rfl, rfl, HOA, HBA⟩
  case round =>
    obtain ⟨j, q, m, cr, hj, hm, rfl, rfl, HO, HB⟩ := hrel
    by_cases hlt : j < n
    · have hjl : j < dss.length := by rw [← HN.out]; exact hlt
      obtain ⟨qi, ci, x0, x1, x2, x3⟩ := HR.out j hjl
      obtain ⟨li, eli⟩ : ∃ li, li = (dss.getD j []).length := ⟨_, rfl⟩
      rw [← eli] at x0 x2
      have y0 := (HB.out.cell (World.block_lt_of_cell? _ _ x0)).trans x0
      have HCP := l2copy_any qi li ci (dss.getD j []) wr eli (by omega) (x1.below HB.out)
      have HLI : Hid (li = (dss.getD j []).length) := eli
      have hli : li ≤ 1000000 := by omega
      have HTK : Hid ((dss.take (j + 1)).flatten = (dss.take j).flatten ++ dss.getD j []) := by
        show _ = _
        rw [List.take_succ_eq_append_getElem hjl, List.flatten_append]
        simp [List.getD, hjl]
      have hBs : w.heap.size ≤ wr.heap.size := HB.out.size
      clear x0 x1 x3 eli
      go_wp2_with fail
      refine HCP.mono ?_
      rintro e w3 ⟨q3, m3, c3, rfl, ho3, hb3⟩
      have HO3 : Hid (OwnC w3 wr.heap.size q3 m3 c3 (dss.getD j [])) := ho3
      have HB3 : Hid (Below wr.heap.size wr w3) := hb3
      have HM3 : Hid (m3 = li) := by show _ = _; rw [ho3.1, HLI.out]
      have hm3 : 0 < m3 := by have := HM3.out; omega
      have hm3' : m3 ≤ 1000000 := by have := HM3.out; omega
      clear ho3 hb3 HCP
      go_wp2_with (at_builtin; refine app_cells wr w3 rfl _ _ rfl w.heap.size q m cr _ rfl HO.out HB3.out hBs q3 m3 c3 _ rfl HO3.out hm3 (by omega) ?_; intro g4 n4 cap4 w4 hown4 hb4 hn4)
      have HO4 : Hid (OwnC w4 w.heap.size (some ⟨g4, 0, none⟩) n4 cap4 ((3, (n : Int), s) :: (dss.take (j + 1)).flatten)) := by rw [HTK.out]; exact hown4
      have HB4 : Hid (Below w.heap.size w w4) := (Below.on HB.out HB3.out).trans hb4
      have hn4' : n4 ≤ 1 + (j + 1) * 1000000 := by have := hn4.out; omega
      clear hown4 hb4
      go_roundw
      case rel => exact ⟨j + 1, _, n4, cap4, by omega, hn4', by go_num, rfl, HO4, HB4⟩
      case measure => simp [intOf]; omega
    · obtain rfl : j = n := by omega
      have HOF : Hid (OwnC wr w.heap.size q m cr ((3, (j : Int), s) :: dss.flatten)) := by have := HO.out; rwa [List.take_of_length_le (by rw [← HN.out]; exact Nat.le_refl _)] at this
      go_wp2_with fail
      go_ret
      exact ⟨_, _, _, rfl, HOF.out, HB.out⟩

set_option maxRecDepth 100000 in
theorem l2pairO_any (s : List Int) (hs : Byte s) (pa pb : Option Addr) (la lb ca cb : Nat) (da db : List Cel) (w : World) (hla : la = da.length) (hlb : lb = db.length) (ha : CIn w pa da) (hb : CIn w pb db) (ha0 : 0 < da.length) (hb0 : 0 < db.length) (hal : da.length + tl da ≤ 1000000) (hbl : db.length + tl db ≤ 1000000) :
    Calls Tryd.prog 31 #[.string (strOfNums s), .slice pa la ca, .slice pb lb cb] w fun e w' => ∃ q m c2, e = .returned (.slice q m c2) ∧ OwnC w' w.heap.size q m c2 ((3, 2, s) :: (da ++ db)) ∧ Below w.heap.size w w' := by
  have hAL : Below w.heap.size w (w.alloc (.cells #[.slice pa la ca, .slice pb lb cb] 24)) := (Below.refl _ _).alloc (Nat.le_refl _) _
  have hnw := heap_alloc_new w (Obj.cells #[.slice pa la ca, .slice pb lb cb] 24)
  have HRO : RowsO (w.alloc (.cells #[.slice pa la ca, .slice pb lb cb] 24)) w.heap.size 0 [da, db] := fun j hj => by
    match j, hj with
    | 0, _ => exact ⟨pa, ca, by simp only [List.getD_cons_zero]; rw [← hla]; exact cell_of_row _ _ 0 _ _ _ hnw, by simpa using ha.below hAL, by simpa using ha0, by simpa using hal⟩
    | 1, _ => exact ⟨pb, cb, by simp only [List.getD_cons_zero, List.getD_cons_succ]; rw [← hlb]; exact cell_of_row _ _ 1 _ _ _ hnw, by simpa using hb.below hAL, by simpa using hb0, by simpa using hbl⟩
    | j + 2, h => simp at h; omega
  have HR := l2compO_any s hs w.heap.size 0 2 2 [da, db] (w.alloc (.cells #[.slice pa la ca, .slice pb lb cb] 24)) rfl (by decide) HRO
  have HB : Hid (Below w.heap.size w (w.alloc (.cells #[.slice pa la ca, .slice pb lb cb] 24))) := hAL
  clear ha hb hAL hnw hla hlb ha0 hb0 hal hbl HRO
  go_enter Tryd.func31, Tryd.ntmps31
  go_wp2_with fail
  refine HR.mono ?_
  rintro e w2 ⟨q, m, c2, rfl, ho, hb2⟩
  have HO : Hid (OwnC w2 w.heap.size q m c2 ((3, 2, s) :: (da ++ db))) := by
    have := ho.mono HB.out.size
    show OwnC _ _ _ _ _ _
    simpa using this
  have HB2 : Hid (Below w.heap.size w w2) := Below.on HB.out hb2
  clear ho hb2 HR
  go_wp2_with fail
  go_ret
  exact ⟨_, _, _, rfl, HO.out, HB2.out⟩
/-- l2comp of one. -/
theorem l2oneO_any (s : List Int) (hs : Byte s) (pa : Option Addr) (la ca : Nat) (da : List Cel) (w : World) (hla : la = da.length) (ha : CIn w pa da) (ha0 : 0 < da.length) (hal : da.length + tl da ≤ 1000000) :
    Calls Tryd.prog 38 #[.string (strOfNums s), .slice (some ⟨w.heap.size, 0, none⟩) 1 1] (w.alloc (.cells #[.slice pa la ca] 24)) fun e w' => ∃ q m c2, e = .returned (.slice q m c2) ∧ OwnC w' w.heap.size q m c2 ((3, 1, s) :: da) ∧ Below w.heap.size w w' := by
  have hAL : Below w.heap.size w (w.alloc (.cells #[.slice pa la ca] 24)) := (Below.refl _ _).alloc (Nat.le_refl _) _
  have hnw := heap_alloc_new w (Obj.cells #[.slice pa la ca] 24)
  have HRO : RowsO (w.alloc (.cells #[.slice pa la ca] 24)) w.heap.size 0 [da] := fun j hj => by
    match j, hj with
    | 0, _ => exact ⟨pa, ca, by simp only [List.getD_cons_zero]; rw [← hla]; exact cell_of_row _ _ 0 _ _ _ hnw, by simpa using ha.below hAL, by simpa using ha0, by simpa using hal⟩
    | j + 1, h => simp at h
  have HR := l2compO_any s hs w.heap.size 0 1 1 [da] (w.alloc (.cells #[.slice pa la ca] 24)) rfl (by decide) HRO
  refine HR.mono ?_
  rintro e w2 ⟨q, m, c2, rfl, ho, hb2⟩
  refine ⟨q, m, c2, rfl, ?_, Below.on hAL hb2⟩
  have := ho.mono hAL.size
  simpa using this

end Go.Proofs.YtemohfhblpejmaaDoor

namespace Go.Proofs.YtemohfhblpejmaaDoor
open Go Go.RowKit
set_option linter.unusedVariables false

/-- Whether a cell of this text, kind and number has this name and arity. -/
def isB (s nm : ByteArray) (k n ar : Int) : Bool := (s.toList == nm.toList) && (if ar == 0 then k == 2 else (k == 3 && n == ar))
set_option maxRecDepth 100000 in
theorem l2isG_any (s nm : ByteArray) (k n ar : Int) (b o : Nat) (q : Option Addr) (m qc len cap : Nat) (w : World) (hlen : 0 < len)
    (d0 : w.cell? ⟨b, o, none⟩ = some (.int .i64 k)) (d1 : w.cell? ⟨b, o + 1, none⟩ = some (.int .i64 n)) (d2 : w.cell? ⟨b, o + 2, none⟩ = some (.slice q m qc))
    (hcv : (convert 32 9 (.slice q m qc)).run Tryd.prog w = .ok (.string s) w) :
    Calls Tryd.prog 25 #[.slice (some ⟨b, o, none⟩) len cap, .string nm, .int .i64 ar] w fun e w' => e = .returned (.bool (isB s nm k n ar)) ∧ w' = w := by
  have hlt : (0 : Int) < len := by omega
  have HF : Hid (∀ b, b = isB s nm k n ar → Ending.returned (.bool b) = .returned (.bool (isB s nm k n ar))) := fun b h => ret_bool h
  have HR : Hid (isB s nm k n ar = ((s.toList == nm.toList) && (if ar == 0 then k == 2 else (k == 3 && n == ar)))) := rfl
  clear hlen
  cases h1 : (s.toList == nm.toList)
  · rw [h1] at HR
    go_enter Tryd.func25, Tryd.ntmps25
    go_wp2_with fail
    go_ret
    exact ⟨HF.out _ (by rw [HR.out]; rfl), rfl⟩
  · rw [h1] at HR
    cases h2 : (ar == 0)
    · rw [h2] at HR
      have h2' : ¬ ar = 0 := by simpa using h2
      cases h3 : (k == 3)
      · rw [h3] at HR
        go_enter Tryd.func25, Tryd.ntmps25
        go_wp2_with fail
        go_ret
        exact ⟨HF.out _ (by rw [HR.out]; rfl), rfl⟩
      · rw [h3] at HR
        cases h4 : (n == ar)
        · rw [h4] at HR
          have h4' : ¬ n = ar := by simpa using h4
          go_enter Tryd.func25, Tryd.ntmps25
          go_wp2_with fail
          go_ret
          exact ⟨HF.out _ (by rw [HR.out]; rfl), rfl⟩
        · rw [h4] at HR
          go_enter Tryd.func25, Tryd.ntmps25
          go_wp2_with fail
          go_ret
          exact ⟨HF.out _ (by rw [HR.out]; rfl), rfl⟩
    · rw [h2] at HR
      cases h3 : (k == 2)
      · rw [h3] at HR
        go_enter Tryd.func25, Tryd.ntmps25
        go_wp2_with fail
        go_ret
        exact ⟨HF.out _ (by rw [HR.out]; rfl), rfl⟩
      · rw [h3] at HR
        go_enter Tryd.func25, Tryd.ntmps25
        go_wp2_with fail
        go_ret
        exact ⟨HF.out _ (by rw [HR.out]; rfl), rfl⟩

end Go.Proofs.YtemohfhblpejmaaDoor

