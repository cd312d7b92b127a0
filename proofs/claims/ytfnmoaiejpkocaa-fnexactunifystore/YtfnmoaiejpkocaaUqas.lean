/- Texts of SoI, Tree4, SoJ. Own work of the verifier. -/
import Derived.Test.YtfnmoaiejpkocaaUqan
import Derived.Test.YtfnmoaiejpkocaaUqaq
import Derived.Test.YtfnmoaiejpkocaaUqar
import Derived.Test.YtfnmoaiejpkocaaUqaf
import Derived.Test.YtfnmoaiejpkocaaUqam
namespace Go.Proofs.Ytfnmoaiejpkocaa
open Go Go.RowKit Go.Maps
set_option linter.unusedVariables false

theorem news_ints {w : World} {b o : Nat} {ys : List Int} (hc : ∀ i, i < ys.length → w.cell? ⟨b, o + i, none⟩ = some (.int .i64 (ys.getD i 0))) : ∀ j u, (ys.map (Value.int .i64))[j]? = some u → w.cell? ((⟨b, o, none⟩ : Addr).add j) = some u := fun j u hj => by
  simp only [List.getElem?_map] at hj
  cases hy : ys[j]? with
  | none => rw [hy] at hj; cases hj
  | some y =>
    rw [hy] at hj
    have hlt : j < ys.length := (List.getElem?_eq_some_iff.1 hy).1
    have := hc j hlt
    rw [show (⟨b, o, none⟩ : Addr).add j = ⟨b, o + j, none⟩ from WideShapes.add_plain _ _ _, this]
    simp [List.getD, hy] at hj ⊢
    exact hj
set_option maxRecDepth 100000 in
theorem cloneI_any (q : Option Addr) (c : Nat) (ys : List Int) (w : World) (hl : ys.length ≤ 20000) (hin : IIn w q ys) :
    Calls Try.prog 86 #[.slice q ys.length c] w fun e w' => ∃ q' c', e = .returned (.slice q' ys.length c') ∧ OwnI w' w.heap.size 3 q' ys.length c' ys ∧ Below w.heap.size w w' := by
  have hnil : ∀ (w : World) (a : Option Addr) (n c n' c' : Nat), (binOp .eql 90 (.slice a n c) (.slice none n' c')).run Try.prog w = .ok (.bool a.isNone) w := fun w a n c n' c' => Lib.run_eql_slice_nil w _ _ a n c n' c' Try.underlying90
  cases q with
  | none =>
    obtain rfl : ys = [] := by
      cases ys with
      | nil => rfl
      | cons a r => obtain ⟨b, o, e, _⟩ := hin (by simp); cases e
    clear hin
    go_enter Try.func86, Try.ntmps86
    go_wp2
    go_ret
    exact ⟨none, 0, by simp, OwnI.nil _ _ _, Below.refl _ _⟩
  | some ad =>
    obtain ⟨i0, hi, hz0, hz1, hz2⟩ := info_parts infoInt
    have hb0 := (Below.refl w.heap.size w).alloc (Nat.le_refl _) (.cells #[] 3)
    have hown0 : (w.alloc (.cells #[] 3)).ownsRow w.heap.size 3 1 (.slice (some ⟨w.heap.size, 0, none⟩) 0 0) 0 [] := World.ownsRow_lit w #[] 0 (Nat.le_refl _) (Nat.zero_le _) rfl
    have HR : ∃ q' c' w', (Builtin.append_ #[90, 90] 90 #[.slice (some ⟨w.heap.size, 0, none⟩) 0 0, .slice (some ad) ys.length c]).run Try.prog (w.alloc (.cells #[] 3)) = .ok (.slice q' ys.length c') w' ∧ OwnI w' w.heap.size 3 q' ys.length c' ys ∧ Below w.heap.size w w' := by
      by_cases hn : 0 < ys.length
      · obtain ⟨g, o, e, hc⟩ := (hin.below hb0) hn
        obtain rfl := Option.some.inj e
        obtain ⟨g', cap, w', hr, h2, h3, _, _⟩ := run_append_lies (P := Try.prog) _ 90 90 w.heap.size 3 i0 (.int .i64 0) 1 8 Try.underlying90 hi hz0 hz1 hz2 rfl (by decide) (.slice (some ⟨w.heap.size, 0, none⟩) 0 0) 0 [] hown0 ⟨g, o, none⟩ ys.length c (ys.map (Value.int .i64)) (by simp) (news_ints hc) (ints_oneCell .i64 ys) hn (by unfold maxLen; omega) (by omega) (by simp) _ rfl
        simp only [Nat.zero_add, List.nil_append] at hr h2
        exact ⟨_, _, w', hr, ⟨rfl, h2⟩, hb0.grown h3 (by simp) (fun k hk => by simp [Value.ownBlock] at hk; omega)⟩
      · obtain rfl : ys = [] := by cases ys with | nil => rfl | cons a r => simp at hn
        have hs : Src Try.prog i0.size 90 (.slice (some ad) 0 c) 0 [] (w.alloc (.cells #[] 3)) := Src.ofSlice _ Try.underlying90 ad 0 c [] (by simp) (fun j u h => by simp at h) (fun u h => by cases h)
        exact ⟨some ⟨w.heap.size, 0, none⟩, 0, _, run_append_nothing _ 90 90 90 3 i0 Try.underlying90 hi (some ⟨w.heap.size, 0, none⟩) 0 0 (Nat.le_refl _) _ hs, ⟨rfl, hown0⟩, hb0⟩
    obtain ⟨q', c', w', hr, ho, hb⟩ := HR
    have HO : Hid (OwnI w' w.heap.size 3 q' ys.length c' ys ∧ Below w.heap.size w w') := ⟨ho, hb⟩
    clear hin hb0 hown0 ho hb
    go_enter Try.func86, Try.ntmps86
    go_wp2_with (at_builtin; refine wpList_app_run rfl _ _ _ _ rfl _ _ _ _ _ rfl rfl hr ?_)
    go_ret
    exact ⟨_, _, rfl, HO.out.1, HO.out.2⟩

/-- What a word is as a cell. -/
def CellOut (c : Cel) (W : World) (e : Ending) (w' : World) : Prop := ∃ p m cp, e = .returned (.agg #[.int .i64 c.1, .int .i64 c.2.1, .slice p m cp]) ∧ OwnT w' W.heap.size p m cp c.2.2 ∧ Below W.heap.size W w'
set_option maxRecDepth 100000 in
theorem funCell_any (n : Int) (t : List Int) (w : World) (hx : Byte t) : Calls Try.prog 143 #[.agg #[.string (strOfNums t), .int .i64 n]] w (CellOut (3, n, t) w) := by
  obtain ⟨W0, eW0⟩ : ∃ W0, W0 = (w.alloc (.cells #[.string (strOfNums t), .int .i64 n] 131)).alloc (.cells #[.int .i64 0, .int .i64 0, .slice none 0 0] 31) := ⟨_, rfl⟩
  have hb0 : Below w.heap.size w W0 := by rw [eW0]; exact ((Below.refl _ _).alloc (Nat.le_refl _) _).alloc (by simp) _
  have hz0 : W0.heap.size = w.heap.size + 1 + 1 := by rw [eW0]; simp
  have k0 : W0.heap[w.heap.size]? = some (.cells #[.string (strOfNums t), .int .i64 n] 131) := by
    rw [eW0, Below.heap_alloc _ _ _ (by simp)]; exact heap_alloc_new _ _
  have k1 : W0.heap[w.heap.size + 1]? = some (.cells #[.int .i64 0, .int .i64 0, .slice none 0 0] 31) := by
    rw [eW0]
    have := heap_alloc_new (w.alloc (.cells #[.string (strOfNums t), .int .i64 n] 131)) (.cells #[.int .i64 0, .int .i64 0, .slice none 0 0] 31)
    simpa using this
  obtain ⟨w1, cap, hcv, hb1, ho1⟩ := conv_bytes W0 t hx 9 Try.underlying9
  have j1 := (hb1.block (w.heap.size + 1) (by omega)).trans k1
  obtain ⟨c0, c1, c2, f1⟩ := Box3.of_block j1
  have HD : Hid _ := box3_set c0 c1 c2 (.int .i64 3) (.int .i64 n) (.slice (some ⟨w.heap.size + 1 + 1, 0, none⟩) t.length cap)
  rw [hz0] at hcv ho1
  have HO : Hid (OwnT w1 (w.heap.size + 1 + 1) (some ⟨w.heap.size + 1 + 1, 0, none⟩) t.length cap t) := ho1
  have HB : Hid (Below w.heap.size w w1) := Below.on hb0 hb1
  have s0 : W0.cell? ⟨w.heap.size, 0, none⟩ = some (.string (strOfNums t)) := by simp [World.cell?, k0]
  have s1 : W0.cell? ⟨w.heap.size, 1, none⟩ = some (.int .i64 n) := by simp [World.cell?, k0]
  rw [eW0] at s0 s1 hcv
  clear hx hb0 hz0 k0 k1 hb1 ho1 j1 eW0
  go_enter Try.func143, Try.ntmps143
  go_wp2
  obtain ⟨d0, d1, d2⟩ := HD.out
  refine bodyPost_ret (v := .agg #[.int .i64 3, .int .i64 n, .slice (some ⟨w.heap.size + 1 + 1, 0, none⟩) t.length cap]) (by simp [results, Try.results143, go_sem, d0, d1, d2]) rfl ⟨_, _, _, rfl, ?_, ?_⟩
  · exact (((HO.out.setCell (a := ⟨w.heap.size + 1, 0, none⟩) (fun _ => by simp) _).setCell (a := ⟨w.heap.size + 1, 1, none⟩) (fun _ => by simp) _).setCell (a := ⟨w.heap.size + 1, 2, none⟩) (fun _ => by simp) _).mono (by omega)
  · exact ((HB.out.setCell (p := ⟨_, _, none⟩) (by simp) _).setCell (p := ⟨_, _, none⟩) (by simp) _).setCell (p := ⟨_, _, none⟩) (by simp) _
theorem CellOut.of {c : Cel} {W : World} {e : Ending} {w' : World} (h : e = .returned (.agg #[.int .i64 c.1, .int .i64 c.2.1, .slice none 0 0]) ∧ Below W.heap.size W w') (ht : c.2.2 = []) : CellOut c W e w' := ⟨none, 0, 0, h.1, by rw [ht]; exact ⟨rfl, fun h => absurd h (Nat.lt_irrefl 0)⟩, h.2⟩

/-- The store that is being filled: its box, its cells, its trail. -/
def SFill (w0 w : World) (bs : Nat) (cs : List Cel) (tr : List Int) (pt : Option Addr) (ct : Nat) : Prop :=
  ∃ pc cc, (w.cell? ⟨bs, 0, none⟩ = some (.slice pc cs.length cc) ∧ w.cell? ⟨bs, 1, none⟩ = some (.slice pt tr.length ct)) ∧ (∀ j, w.frozen? ⟨bs, j, none⟩ = false) ∧ OwnC w (bs + 1) pc cs.length cc cs ∧ OwnIU w w0.heap.size bs pt tr.length ct tr ∧ Below w0.heap.size w0 w ∧ w0.heap.size ≤ bs

end Go.Proofs.Ytfnmoaiejpkocaa

namespace Go.Proofs.Ytfnmoaiejpkocaa
open Go Go.RowKit
set_option linter.unusedVariables false

/-- What appendCells answers: the cells behind those that were there. -/
def AppOut (w : World) (B : Nat) (cs ds : List Cel) (e : Ending) (w' : World) : Prop :=
  ∃ p n c, e = .returned (.slice p n c) ∧ OwnC w' B p n c (cs ++ ds) ∧ Below B w w'

theorem news_rc {w : World} {d : Nat} {r : RC} (h : Box3 w d (.int .i64 r.1) (.int .i64 r.2.1) (.slice r.2.2.1 r.2.2.2.1 r.2.2.2.2)) : ∀ j u, (rcV r)[j]? = some u → w.cell? ((⟨d, 0, none⟩ : Addr).add j) = some u := fun j u hu => by
  have e : (⟨d, 0, none⟩ : Addr).add j = ⟨d, j, none⟩ := by unfold Addr.add; split <;> simp_all
  rw [e]
  rcases j with _ | _ | _ | j
  · simp only [rcV, List.getElem?_cons_zero, Option.some.injEq] at hu; rw [← hu]; exact h.1
  · simp only [rcV, List.getElem?_cons_succ, List.getElem?_cons_zero, Option.some.injEq] at hu; rw [← hu]; exact h.2.1
  · simp only [rcV, List.getElem?_cons_succ, List.getElem?_cons_zero, Option.some.injEq] at hu; rw [← hu]; exact h.2.2.1
  · simp [rcV] at hu

theorem appVar_any (x : Int) (p : Option Addr) (n c : Nat) (cs : List Cel) (B : Nat) (w : World) (hB : B ≤ w.heap.size) (hn : n ≤ 100000000) (ho : OwnC w B p n c cs) :
    Calls Try.prog 136 #[.int .i64 x, .slice p n c] w (AppOut w B cs [(0, x, [])]) := by
  have HO : Hid (OwnC w B p n c cs) := ho
  have hb : Below w.heap.size w (w.alloc (Obj.cells #[Value.int IntKind.i64 0, Value.int IntKind.i64 x, Value.slice none 0 0] 31)) := (Below.refl _ _).alloc (Nat.le_refl _) _
  have HB : Hid _ := hb
  have HX : Hid (Box3 (w.alloc (Obj.cells #[Value.int IntKind.i64 0, Value.int IntKind.i64 x, Value.slice none 0 0] 31)) w.heap.size (.int .i64 0) (.int .i64 x) (.slice none 0 0)) := Box3.of_block (t := 31) (heap_alloc_new _ _)
  clear ho hb
  go_enter Try.func136, Try.ntmps136
  go_wp2_with (at_builtin; refine app_cell w _ rfl _ _ rfl B p n c cs rfl HO.out HB.out hB ⟨w.heap.size, 0, none⟩ 1 rfl 0 x none 0 0 [] ⟨rfl, fun h => absurd h (Nat.lt_irrefl 0)⟩ (news_rc HX.out) (by omega) ?_; intro g n' cap w1 hown1 hb1 hn1)
  go_ret
  exact ⟨_, _, _, rfl, hown1, ((Below.refl _ _).alloc hB _).trans hb1⟩

theorem appNum_any (x : Int) (p : Option Addr) (n c : Nat) (cs : List Cel) (B : Nat) (w : World) (hB : B ≤ w.heap.size) (hn : n ≤ 100000000) (ho : OwnC w B p n c cs) :
    Calls Try.prog 137 #[.int .i64 x, .slice p n c] w (AppOut w B cs [(1, x, [])]) := by
  have HO : Hid (OwnC w B p n c cs) := ho
  have hb : Below w.heap.size w (w.alloc (Obj.cells #[Value.int IntKind.i64 1, Value.int IntKind.i64 x, Value.slice none 0 0] 31)) := (Below.refl _ _).alloc (Nat.le_refl _) _
  have HB : Hid _ := hb
  have HX : Hid (Box3 (w.alloc (Obj.cells #[Value.int IntKind.i64 1, Value.int IntKind.i64 x, Value.slice none 0 0] 31)) w.heap.size (.int .i64 1) (.int .i64 x) (.slice none 0 0)) := Box3.of_block (t := 31) (heap_alloc_new _ _)
  clear ho hb
  go_enter Try.func137, Try.ntmps137
  go_wp2_with (at_builtin; refine app_cell w _ rfl _ _ rfl B p n c cs rfl HO.out HB.out hB ⟨w.heap.size, 0, none⟩ 1 rfl 1 x none 0 0 [] ⟨rfl, fun h => absurd h (Nat.lt_irrefl 0)⟩ (news_rc HX.out) (by omega) ?_; intro g n' cap w1 hown1 hb1 hn1)
  go_ret
  exact ⟨_, _, _, rfl, hown1, ((Below.refl _ _).alloc hB _).trans hb1⟩

theorem appAtom_any (xs : List Int) (hx : Byte xs) (p : Option Addr) (n c : Nat) (cs : List Cel) (B : Nat) (w : World) (hB : B ≤ w.heap.size) (hn : n ≤ 100000000) (ho : OwnC w B p n c cs) :
    Calls Try.prog 139 #[.string (strOfNums xs), .slice p n c] w (AppOut w B cs [(2, 0, xs)]) := by
  have HO : Hid (OwnC w B p n c cs) := ho
  obtain ⟨w1, cap1, hcv, hb1, ht⟩ := conv_bytes w xs hx 122 Try.underlying122
  obtain ⟨m, em⟩ : ∃ m, m = xs.length := ⟨_, rfl⟩
  obtain ⟨str, es⟩ : ∃ str, str = strOfNums xs := ⟨_, rfl⟩
  rw [← em] at hcv ht
  rw [← es] at hcv ⊢
  have hs1 := hb1.size
  have hb : Below w1.heap.size w1 (w1.alloc (Obj.cells #[Value.int IntKind.i64 2, Value.int IntKind.i64 0, Value.slice (some ⟨w.heap.size, 0, none⟩) m cap1] 31)) := (Below.refl _ _).alloc (Nat.le_refl _) _
  have HB : Hid (Below w.heap.size w (w1.alloc (Obj.cells #[Value.int IntKind.i64 2, Value.int IntKind.i64 0, Value.slice (some ⟨w.heap.size, 0, none⟩) m cap1] 31))) := Below.on hb1 hb
  have HT : Hid (OwnT (w1.alloc (Obj.cells #[Value.int IntKind.i64 2, Value.int IntKind.i64 0, Value.slice (some ⟨w.heap.size, 0, none⟩) m cap1] 31)) w.heap.size (some ⟨w.heap.size, 0, none⟩) m cap1 xs) := ht.below hb
  have HX : Hid (Box3 (w1.alloc (Obj.cells #[Value.int IntKind.i64 2, Value.int IntKind.i64 0, Value.slice (some ⟨w.heap.size, 0, none⟩) m cap1] 31)) w1.heap.size (.int .i64 2) (.int .i64 0) (.slice (some ⟨w.heap.size, 0, none⟩) m cap1)) := Box3.of_block (t := 31) (heap_alloc_new _ _)
  have HS : Hid (Below B w (w1.alloc (Obj.cells #[Value.int IntKind.i64 2, Value.int IntKind.i64 0, Value.slice (some ⟨w.heap.size, 0, none⟩) m cap1] 31))) := HB.out.mono hB
  clear ho hb hb1 ht em es hx
  go_enter Try.func139, Try.ntmps139
  go_wp2_with (at_builtin; refine app_cell w _ rfl _ _ rfl B p n c cs rfl HO.out HB.out hB ⟨w1.heap.size, 0, none⟩ 1 rfl 2 0 (some ⟨w.heap.size, 0, none⟩) m cap1 xs HT.out (news_rc HX.out) (by omega) ?_; intro g n' cap w2 hown1 hb2 hn1)
  go_ret
  exact ⟨_, _, _, rfl, hown1, HS.out.trans hb2⟩

end Go.Proofs.Ytfnmoaiejpkocaa

namespace Go.Proofs.Ytfnmoaiejpkocaa
open Go Go.RowKit Go.Maps
set_option linter.unusedVariables false

/-- What store answers: its trail lies ahead of M, its cells behind. -/
def StoreOut (xs : List Cel) (tr : List Int) (w : World) (e : Ending) (w' : World) : Prop :=
  ∃ p q c1 c2 M, e = .returned (.agg #[.slice p xs.length c1, .slice q tr.length c2]) ∧ OwnIU w' w.heap.size M q tr.length c2 tr ∧ OwnCU w' M w'.heap.size p xs.length c1 xs ∧ w.heap.size ≤ M ∧ M ≤ w'.heap.size ∧ Below w.heap.size w w'
theorem take_cel (xs : List Cel) (k : Nat) (h : k < xs.length) : xs.take (k + 1) = xs.take k ++ [xs.getD k Cel.none] := by
  rw [List.take_succ_eq_append_getElem h, List.getD, List.getElem?_eq_getElem h]; rfl
theorem CIn_len0 (w : World) (p : Option Addr) : CIn w p [] := fun h => absurd h (Nat.lt_irrefl 0)
/-- The next cell is put. -/
theorem SFill.next {w0 wr w5 : World} {bs k : Nat} {xs : List Cel} {tr : List Int} {pt : Option Addr} {ct g n' cap : Nat} (H : SFill w0 wr bs (xs.take k) tr pt ct) (hk : k < xs.length) {wx : World} (hbx : Below wr.heap.size wr wx) (ho : OwnC w5 (bs + 1) (some ⟨g, 0, none⟩) n' cap (xs.take k ++ [xs.getD k Cel.none])) (hb : Below (bs + 1) wx w5) (hn : n' = k + 1) :
    SFill w0 (w5.setCell ⟨bs, 0, none⟩ (.slice (some ⟨g, 0, none⟩) n' cap)) bs (xs.take (k + 1)) tr pt ct := by
  obtain ⟨pc, cc, ⟨h0, h1⟩, hf, hc, hi, hB, hle⟩ := H
  have hlt := World.block_lt_of_cell? _ _ h0
  have hsz := hbx.size
  have e0 : w5.heap[bs]? = wr.heap[bs]? := (hb.block bs (Nat.lt_succ_self _)).trans (hbx.block bs hlt)
  have hB5 : Below w0.heap.size w0 w5 := (Below.on hB hbx).trans (hb.mono (by omega))
  have hlen : (xs.take (k + 1)).length = n' := by rw [hn, List.length_take]; omega
  have hg := (ho.2.choose_spec.2.1.lt g rfl).1
  have hK : Keep (bs + 1) w5.heap.size wr w5 := ⟨hb.os.trans hbx.os, hb.tape.trans hbx.tape, hb.output.trans hbx.output, Nat.le_trans hsz hb.size, fun j hj hp => by
    rcases hp with hp | hp
    · exact (hb.block j hp).trans (hbx.block j hj)
    · have := Nat.le_trans hsz hb.size; omega⟩
  refine ⟨some ⟨g, 0, none⟩, cap, ⟨?_, ?_⟩, fun j => ?_, ?_, ?_, hB5.setCell (p := ⟨bs, 0, none⟩) hle _, hle⟩
  · rw [hlen]
    exact World.cell?_setCell_same _ _ _ ((World.cell?_of_block (a := ⟨bs, 0, none⟩) e0).trans h0)
  · exact (World.cell?_setCell_other _ _ _ _ (by simp)).trans ((World.cell?_of_block (a := ⟨bs, 1, none⟩) e0).trans h1)
  · rw [World.frozen?_setCell]
    exact (World.frozen?_of_block (a := ⟨bs, j, none⟩) e0).trans (hf j)
  · rw [hlen, take_cel xs k hk]
    exact ho.set (a := ⟨bs, 0, none⟩) (by simp) _
  · have h5 := hi.keep hK (.inl (by omega))
    exact ⟨⟨h5.1.1, ownsRow_setCell_other h5.1.2 (fun e => by have := h5.2 _ e; simp at this) _⟩, h5.2⟩

set_option maxHeartbeats 4000000 in
set_option maxRecDepth 100000 in
theorem store_any (h : Nat) (xs : List Cel) (tr : List Int) (w : World) (hl : xs.length ≤ 20000) (ht : tr.length ≤ 20000) (hok : ∀ a, a < xs.length → okW (xs.getD a Cel.none).1 (xs.getD a Cel.none).2.1 (xs.getD a Cel.none).2.2.length = true) (hby : ∀ a, a < xs.length → Byte (xs.getD a Cel.none).2.2) (H : HeapAt w h xs tr) :
    Calls Try.prog 61 #[.pointer (some ⟨h, 0, none⟩)] w (StoreOut xs tr w) := by
  obtain ⟨W0, eW0⟩ : ∃ W0, W0 = w.alloc (.cells #[.slice none 0 0, .slice none 0 0] 36) := ⟨_, rfl⟩
  have hb0 : Below w.heap.size w W0 := by rw [eW0]; exact (Below.refl _ _).alloc (Nat.le_refl _) _
  have k0 : W0.heap[w.heap.size]? = some (.cells #[.slice none 0 0, .slice none 0 0] 36) := by rw [eW0]; exact heap_alloc_new _ _
  have hz0 : W0.heap.size = w.heap.size + 1 := by rw [eW0]; simp
  have HH : Hid (HeapAt W0 h xs tr) := H.below hb0
  have HOK : Hid _ := hok
  have HBY : Hid _ := hby
  obtain ⟨pw, cw, pt0, ct0, h0, h1, hw, hi⟩ := HH.out
  have HCL := cloneI_any pt0 ct0 tr W0 ht hi
  have HW : Hid (WIn W0 pw xs) := hw
  have HB0 : Hid _ := hb0
  have HZ0 : Hid _ := hz0
  have HK0 : Hid _ := k0
  have hlt0 := World.block_lt_of_cell? _ _ h0
  have HLT : Hid (h < W0.heap.size) := hlt0
  have h00 := h0
  have h01 := h1
  have HE0 : Hid _ := eW0
  have HC0 : Hid (W0.cell? ⟨h, 0, none⟩ = some (.slice pw xs.length cw)) := h0
  rw [eW0] at HCL h00 h01
  clear H hok hby hw hi hb0 hz0 k0 hlt0 h0 h1 eW0
  go_enter Try.func61, Try.ntmps61
  go_wp2_with fail
  refine HCL.mono ?_
  rintro e w1 ⟨q', c', rfl, hoi, hb1⟩
  rw [← HE0.out] at hoi hb1
  obtain ⟨oS, eoS⟩ : ∃ o : Obj, o = .cells #[.slice none 0 0, .slice q' tr.length c'] 36 := ⟨_, rfl⟩
  have HS0 : Hid (SFill W0 (w1.alloc oS) w1.heap.size (xs.take 0) tr q' c') := by
    have kk : (w1.alloc oS).heap[w1.heap.size]? = some (.cells #[.slice none 0 0, .slice q' tr.length c'] 36) := by rw [eoS]; exact heap_alloc_new _ _
    exact ⟨none, 0, ⟨(Box2.of_block kk).1, (Box2.of_block kk).2.1⟩, (Box2.of_block kk).2.2, ⟨rfl, [], rfl, World.ownsRow_nil _ _ _ _, fun i h => absurd h (Nat.not_lt_zero _), ⟨fun i h => absurd h (Nat.not_lt_zero _), fun i j h => absurd h (Nat.not_lt_zero _)⟩⟩, hoi.up.on (alloc_on _ _), Below.on hb1 (alloc_on _ _), hb1.size⟩
  have h0' := (hb1.cell (p := ⟨h, 0, none⟩) HLT.out).trans HC0.out
  have h0a : (w1.alloc oS).cell? ⟨h, 0, none⟩ = some (.slice pw xs.length cw) := ((alloc_on w1 oS).cell (World.block_lt_of_cell? _ _ h0')).trans h0'
  rw [eoS] at h0a
  have HOS : Hid _ := eoS
  clear hoi hb1 h0' HCL h00 h01 eoS
  go_wp2
  rw [← HOS.out]
  generalize w1.heap.size = bs at HS0 ⊢
  go_loopw [17] (fun i wr => ∃ k : Nat, k ≤ xs.length ∧ i = .int .i64 k ∧ Hid (SFill W0 wr bs (xs.take k) tr q' c')) (fun i _ => xs.length - (intOf i).toNat)
  case atStart => exact ⟨0, Nat.zero_le _, rfl, HS0⟩
  case round =>
    obtain ⟨k, hk, rfl, HS⟩ := hrel
    by_cases hlt : k < xs.length
    · obtain ⟨gw, rfl, hcs⟩ := HW.out (by omega)
      have hv0 := hcs k hlt
      have hv := (HS.out.choose_spec.choose_spec.2.2.2.2.1.cell (World.block_lt_of_cell? _ _ hv0)).trans hv0
      have HN : Hid (k < xs.length) := hlt
      have hok := HOK.out k hlt
      have hby := HBY.out k hlt
      have hkd := ok_knd hok
      obtain ⟨pc, cc, ⟨s0, s1⟩, hfz, hoc, _⟩ := HS.out
      have hfz0 := hfz 0
      have hbs := World.block_lt_of_cell? _ _ s0
      have HOC : Hid (OwnC wr (bs + 1) pc (xs.take k).length cc (xs.take k)) := hoc
      have hkl : (xs.take k).length = k := by rw [List.length_take]; omega
      rw [hkl] at s0 HOC
      have HNX : Hid (∀ wx w5 g n' cap, Below wr.heap.size wr wx → OwnC w5 (bs + 1) (some ⟨g, 0, none⟩) n' cap (xs.take k ++ [xs.getD k Cel.none]) → Below (bs + 1) wx w5 → n' = k + 1 → SFill W0 (w5.setCell ⟨bs, 0, none⟩ (.slice (some ⟨g, 0, none⟩) n' cap)) bs (xs.take (k + 1)) tr q' c') := fun wx w5 g n' cap a b c d => HS.out.next HN.out a b c d
      clear hv0 hcs hoc hfz hkl s1
      generalize xs.getD k Cel.none = x at hv hok hby hkd HNX
      obtain ⟨x0, x1, xt⟩ := x
      simp only at hok hby hkd
      rcases hkd with e | e | e | e | e <;> subst e
      · have e : wv (0, x1, xt) = .iface 100 (.int .i64 x1) := rfl
        rw [e] at hv
        obtain rfl : xt = [] := okW_text hok (by decide) (by decide)
        have HCE : Hid (∀ W, Calls Try.prog 135 #[.int .i64 x1] W (CellOut (0, x1, []) W)) := fun W => (refCell_any x1 _).mono fun e w' h => CellOut.of (c := (0, x1, [])) h rfl
        have hme : ∀ W, Sem.run Try.prog (method 301 100 (.int .i64 x1) "loop.example/s00095/impl.cell") W = .ok (135, .int .i64 x1) W := fun W => by kernel_rfl
        clear e hok hby
        go_wp2
        go_region_law (first
          | (go_simp; go_at_call 135; refine (HCE.out _).mono ?_; rintro e w3 ⟨p3, m3, c3, rfl, ho3, hb3⟩; have hb3' : Below wr.heap.size wr w3 := (below_drewN (Below.refl _ _) 1).trans hb3; have s0' := (hb3'.cell hbs).trans s0; have s0b : ∀ o, (w3.alloc o).cell? ⟨bs, 0, none⟩ = some (.slice pc k cc) := fun o => Lib.cell?_alloc_marked _ s0'; have HB3 : Hid (Below wr.heap.size wr w3) := hb3'; have HO3 : Hid (OwnT w3 wr.heap.size p3 m3 c3 []) := ho3; clear hb3 hb3' ho3)
          | (refine step_app_cell wr _ rfl _ _ rfl (bs + 1) pc k cc (xs.take k) rfl HOC.out (HB3.out.alloc HB3.out.size _) hbs ⟨w3.heap.size, 0, none⟩ 1 rfl 0 x1 p3 m3 c3 [] (HO3.out.below (alloc_on _ _)) (news_rc (Box3.of_block (t := 31) (heap_alloc_new _ _))) (by omega) ?_; intro g n' cap w5 hown5 hb5 hn5; have HF5 : Hid _ := HNX.out _ w5 g n' cap (HB3.out.alloc HB3.out.size _) hown5 hb5 hn5.out; have s5 : w5.cell? ⟨bs, 0, none⟩ = some (.slice pc k cc) := (hb5.cell (p := ⟨bs, 0, none⟩) (Nat.lt_succ_self _)).trans ((Lib.cell?_alloc_marked _ ((HB3.out.cell hbs).trans s0))); have f5 : w5.frozen? ⟨bs, 0, none⟩ = false := (hb5.frozen (p := ⟨bs, 0, none⟩) (Nat.lt_succ_self _)).trans (((HB3.out.alloc HB3.out.size _).frozen hbs).trans hfz0); clear hown5 hb5 hn5))
        all_goals
          clear s0b s5 f5
          go_wp2
          go_roundw
          case rel => exact ⟨k + 1, by omega, by go_num, HF5⟩
          case measure => simp [intOf]; omega
      · have e : wv (1, x1, xt) = .iface 121 (.int .i64 x1) := rfl
        rw [e] at hv
        obtain rfl : xt = [] := okW_text hok (by decide) (by decide)
        have HCE : Hid (∀ W, Calls Try.prog 138 #[.int .i64 x1] W (CellOut (1, x1, []) W)) := fun W => (numCell_any x1 _).mono fun e w' h => CellOut.of (c := (1, x1, [])) h rfl
        have hme : ∀ W, Sem.run Try.prog (method 301 121 (.int .i64 x1) "loop.example/s00095/impl.cell") W = .ok (138, .int .i64 x1) W := fun W => by kernel_rfl
        clear e hok hby
        go_wp2
        go_region_law (first
          | (go_simp; go_at_call 138; refine (HCE.out _).mono ?_; rintro e w3 ⟨p3, m3, c3, rfl, ho3, hb3⟩; have hb3' : Below wr.heap.size wr w3 := (below_drewN (Below.refl _ _) 1).trans hb3; have s0' := (hb3'.cell hbs).trans s0; have s0b : ∀ o, (w3.alloc o).cell? ⟨bs, 0, none⟩ = some (.slice pc k cc) := fun o => Lib.cell?_alloc_marked _ s0'; have HB3 : Hid (Below wr.heap.size wr w3) := hb3'; have HO3 : Hid (OwnT w3 wr.heap.size p3 m3 c3 []) := ho3; clear hb3 hb3' ho3)
          | (refine step_app_cell wr _ rfl _ _ rfl (bs + 1) pc k cc (xs.take k) rfl HOC.out (HB3.out.alloc HB3.out.size _) hbs ⟨w3.heap.size, 0, none⟩ 1 rfl 1 x1 p3 m3 c3 [] (HO3.out.below (alloc_on _ _)) (news_rc (Box3.of_block (t := 31) (heap_alloc_new _ _))) (by omega) ?_; intro g n' cap w5 hown5 hb5 hn5; have HF5 : Hid _ := HNX.out _ w5 g n' cap (HB3.out.alloc HB3.out.size _) hown5 hb5 hn5.out; have s5 : w5.cell? ⟨bs, 0, none⟩ = some (.slice pc k cc) := (hb5.cell (p := ⟨bs, 0, none⟩) (Nat.lt_succ_self _)).trans ((Lib.cell?_alloc_marked _ ((HB3.out.cell hbs).trans s0))); have f5 : w5.frozen? ⟨bs, 0, none⟩ = false := (hb5.frozen (p := ⟨bs, 0, none⟩) (Nat.lt_succ_self _)).trans (((HB3.out.alloc HB3.out.size _).frozen hbs).trans hfz0); clear hown5 hb5 hn5))
        all_goals
          clear s0b s5 f5
          go_wp2
          go_roundw
          case rel => exact ⟨k + 1, by omega, by go_num, HF5⟩
          case measure => simp [intOf]; omega
      · have e : wv (2, x1, xt) = .iface 122 (.string (strOfNums xt)) := rfl
        rw [e] at hv
        obtain rfl : x1 = 0 := by generalize xt.length = m at hok; simp only [okW, cellB] at hok; simp at hok; omega
        have HCE : Hid (∀ W, Calls Try.prog 140 #[.string (strOfNums xt)] W (CellOut (2, 0, xt) W)) := fun W => (atomCell_any xt _ hby).mono fun e w' ⟨p, c, h1, h2, h3⟩ => ⟨p, xt.length, c, h1, h2, h3⟩
        have hme : ∀ W, Sem.run Try.prog (method 301 122 (.string (strOfNums xt)) "loop.example/s00095/impl.cell") W = .ok (140, .string (strOfNums xt)) W := fun W => by kernel_rfl
        clear e hok hby
        go_wp2
        go_region_law (first
          | (go_simp; go_at_call 140; refine (HCE.out _).mono ?_; rintro e w3 ⟨p3, m3, c3, rfl, ho3, hb3⟩; have hb3' : Below wr.heap.size wr w3 := (below_drewN (Below.refl _ _) 1).trans hb3; have s0' := (hb3'.cell hbs).trans s0; have s0b : ∀ o, (w3.alloc o).cell? ⟨bs, 0, none⟩ = some (.slice pc k cc) := fun o => Lib.cell?_alloc_marked _ s0'; have HB3 : Hid (Below wr.heap.size wr w3) := hb3'; have HO3 : Hid (OwnT w3 wr.heap.size p3 m3 c3 xt) := ho3; clear hb3 hb3' ho3)
          | (refine step_app_cell wr _ rfl _ _ rfl (bs + 1) pc k cc (xs.take k) rfl HOC.out (HB3.out.alloc HB3.out.size _) hbs ⟨w3.heap.size, 0, none⟩ 1 rfl 2 0 p3 m3 c3 xt (HO3.out.below (alloc_on _ _)) (news_rc (Box3.of_block (t := 31) (heap_alloc_new _ _))) (by omega) ?_; intro g n' cap w5 hown5 hb5 hn5; have HF5 : Hid _ := HNX.out _ w5 g n' cap (HB3.out.alloc HB3.out.size _) hown5 hb5 hn5.out; have s5 : w5.cell? ⟨bs, 0, none⟩ = some (.slice pc k cc) := (hb5.cell (p := ⟨bs, 0, none⟩) (Nat.lt_succ_self _)).trans ((Lib.cell?_alloc_marked _ ((HB3.out.cell hbs).trans s0))); have f5 : w5.frozen? ⟨bs, 0, none⟩ = false := (hb5.frozen (p := ⟨bs, 0, none⟩) (Nat.lt_succ_self _)).trans (((HB3.out.alloc HB3.out.size _).frozen hbs).trans hfz0); clear hown5 hb5 hn5))
        all_goals
          clear s0b s5 f5
          go_wp2
          go_roundw
          case rel => exact ⟨k + 1, by omega, by go_num, HF5⟩
          case measure => simp [intOf]; omega
      · have e : wv (3, x1, xt) = .iface 131 (.agg #[.string (strOfNums xt), .int .i64 x1]) := rfl
        rw [e] at hv
        have HCE : Hid (∀ W, Calls Try.prog 143 #[.agg #[.string (strOfNums xt), .int .i64 x1]] W (CellOut (3, x1, xt) W)) := fun W => funCell_any x1 xt _ hby
        have hme : ∀ W, Sem.run Try.prog (method 301 131 (.agg #[.string (strOfNums xt), .int .i64 x1]) "loop.example/s00095/impl.cell") W = .ok (143, .agg #[.string (strOfNums xt), .int .i64 x1]) W := fun W => by kernel_rfl
        clear e hok hby
        go_wp2
        go_region_law (first
          | (go_simp; go_at_call 143; refine (HCE.out _).mono ?_; rintro e w3 ⟨p3, m3, c3, rfl, ho3, hb3⟩; have hb3' : Below wr.heap.size wr w3 := (below_drewN (Below.refl _ _) 1).trans hb3; have s0' := (hb3'.cell hbs).trans s0; have s0b : ∀ o, (w3.alloc o).cell? ⟨bs, 0, none⟩ = some (.slice pc k cc) := fun o => Lib.cell?_alloc_marked _ s0'; have HB3 : Hid (Below wr.heap.size wr w3) := hb3'; have HO3 : Hid (OwnT w3 wr.heap.size p3 m3 c3 xt) := ho3; clear hb3 hb3' ho3)
          | (refine step_app_cell wr _ rfl _ _ rfl (bs + 1) pc k cc (xs.take k) rfl HOC.out (HB3.out.alloc HB3.out.size _) hbs ⟨w3.heap.size, 0, none⟩ 1 rfl 3 x1 p3 m3 c3 xt (HO3.out.below (alloc_on _ _)) (news_rc (Box3.of_block (t := 31) (heap_alloc_new _ _))) (by omega) ?_; intro g n' cap w5 hown5 hb5 hn5; have HF5 : Hid _ := HNX.out _ w5 g n' cap (HB3.out.alloc HB3.out.size _) hown5 hb5 hn5.out; have s5 : w5.cell? ⟨bs, 0, none⟩ = some (.slice pc k cc) := (hb5.cell (p := ⟨bs, 0, none⟩) (Nat.lt_succ_self _)).trans ((Lib.cell?_alloc_marked _ ((HB3.out.cell hbs).trans s0))); have f5 : w5.frozen? ⟨bs, 0, none⟩ = false := (hb5.frozen (p := ⟨bs, 0, none⟩) (Nat.lt_succ_self _)).trans (((HB3.out.alloc HB3.out.size _).frozen hbs).trans hfz0); clear hown5 hb5 hn5))
        all_goals
          clear s0b s5 f5
          go_wp2
          go_roundw
          case rel => exact ⟨k + 1, by omega, by go_num, HF5⟩
          case measure => simp [intOf]; omega
      · have e : wv (4, x1, xt) = .iface 123 (.int .i64 x1) := rfl
        rw [e] at hv
        obtain rfl : xt = [] := okW_text hok (by decide) (by decide)
        have HCE : Hid (∀ W, Calls Try.prog 141 #[.int .i64 x1] W (CellOut (4, x1, []) W)) := fun W => (strCell_any x1 _).mono fun e w' h => CellOut.of (c := (4, x1, [])) h rfl
        have hme : ∀ W, Sem.run Try.prog (method 301 123 (.int .i64 x1) "loop.example/s00095/impl.cell") W = .ok (141, .int .i64 x1) W := fun W => by kernel_rfl
        clear e hok hby
        go_wp2
        go_region_law (first
          | (go_simp; go_at_call 141; refine (HCE.out _).mono ?_; rintro e w3 ⟨p3, m3, c3, rfl, ho3, hb3⟩; have hb3' : Below wr.heap.size wr w3 := (below_drewN (Below.refl _ _) 1).trans hb3; have s0' := (hb3'.cell hbs).trans s0; have s0b : ∀ o, (w3.alloc o).cell? ⟨bs, 0, none⟩ = some (.slice pc k cc) := fun o => Lib.cell?_alloc_marked _ s0'; have HB3 : Hid (Below wr.heap.size wr w3) := hb3'; have HO3 : Hid (OwnT w3 wr.heap.size p3 m3 c3 []) := ho3; clear hb3 hb3' ho3)
          | (refine step_app_cell wr _ rfl _ _ rfl (bs + 1) pc k cc (xs.take k) rfl HOC.out (HB3.out.alloc HB3.out.size _) hbs ⟨w3.heap.size, 0, none⟩ 1 rfl 4 x1 p3 m3 c3 [] (HO3.out.below (alloc_on _ _)) (news_rc (Box3.of_block (t := 31) (heap_alloc_new _ _))) (by omega) ?_; intro g n' cap w5 hown5 hb5 hn5; have HF5 : Hid _ := HNX.out _ w5 g n' cap (HB3.out.alloc HB3.out.size _) hown5 hb5 hn5.out; have s5 : w5.cell? ⟨bs, 0, none⟩ = some (.slice pc k cc) := (hb5.cell (p := ⟨bs, 0, none⟩) (Nat.lt_succ_self _)).trans ((Lib.cell?_alloc_marked _ ((HB3.out.cell hbs).trans s0))); have f5 : w5.frozen? ⟨bs, 0, none⟩ = false := (hb5.frozen (p := ⟨bs, 0, none⟩) (Nat.lt_succ_self _)).trans (((HB3.out.alloc HB3.out.size _).frozen hbs).trans hfz0); clear hown5 hb5 hn5))
        all_goals
          clear s0b s5 f5
          go_wp2
          go_roundw
          case rel => exact ⟨k + 1, by omega, by go_num, HF5⟩
          case measure => simp [intOf]; omega
    · obtain rfl : k = xs.length := by omega
      have hfill := HS.out
      rw [List.take_length] at hfill
      have HF : Hid (SFill W0 wr bs xs tr q' c') := hfill
      clear hfill
      obtain ⟨pc, cc, ⟨s0, s1⟩, hfz, hoc, hoi, hB, hle⟩ := HF.out
      have r := Box2.of_block ((hB.block w.heap.size (by have := HZ0.out; omega)).trans HK0.out)
      obtain ⟨r0, r1, r2⟩ := r
      have HR : Hid (Box2 ((wr.setCell ⟨w.heap.size, 0, none⟩ (.slice pc xs.length cc)).setCell ⟨w.heap.size, 1, none⟩ (.slice q' tr.length c')) w.heap.size (.slice pc xs.length cc) (.slice q' tr.length c')) := Box2.put ⟨r0, r1, r2⟩ _ _
      have HFI : Hid (OwnIU ((wr.setCell ⟨w.heap.size, 0, none⟩ (.slice pc xs.length cc)).setCell ⟨w.heap.size, 1, none⟩ (.slice q' tr.length c')) w.heap.size bs q' tr.length c' tr ∧ OwnCU ((wr.setCell ⟨w.heap.size, 0, none⟩ (.slice pc xs.length cc)).setCell ⟨w.heap.size, 1, none⟩ (.slice q' tr.length c')) bs wr.heap.size pc xs.length cc xs ∧ w.heap.size ≤ bs ∧ bs ≤ wr.heap.size ∧ Below w.heap.size w ((wr.setCell ⟨w.heap.size, 0, none⟩ (.slice pc xs.length cc)).setCell ⟨w.heap.size, 1, none⟩ (.slice q' tr.length c'))) := by
        have hz := HZ0.out
        have hbl := World.block_lt_of_cell? _ _ s0
        refine ⟨⟨((hoi.1.set (by simp; omega) _).set (by simp; omega) _).mono (by omega), hoi.2⟩, ((hoc.up.set (by simp; omega) _).set (by simp; omega) _).mono (by omega), by omega, by simp at hbl; omega, ((Below.on HB0.out hB).setCell (p := ⟨_, _, none⟩) (Nat.le_refl _) _).setCell (p := ⟨_, _, none⟩) (Nat.le_refl _) _⟩
      clear hoc hoi hB hle HF
      go_wp2
      obtain ⟨d0, d1, _⟩ := HR.out
      refine bodyPost_ret (v := .agg #[.slice pc xs.length cc, .slice q' tr.length c']) (by simp [results, Try.results61, go_sem, d0, d1]) rfl ⟨pc, q', cc, c', bs, rfl, HFI.out.1, ?_, HFI.out.2.2.1, ?_, HFI.out.2.2.2.2⟩
      · have := HFI.out.2.1
        simpa using this
      · have := HFI.out.2.2.2.1
        simpa using this

end Go.Proofs.Ytfnmoaiejpkocaa

