/- Texts of MkL, SSU, Dt5, Dt6. Own work of the verifier. -/
import Derived.Test.YtfgmenkoeflhaaaGreatDoorUqbd
namespace Go.Proofs.YtfgmenkoeflhaaaGreatDoor
set_option maxRecDepth 100000
open Go Go.RowKit
set_option linter.unusedVariables false
theorem conv_dot (w : World) : (convert 22 22 (.slice (some ⟨w.heap.size, 0, none⟩) 1 1)).run Tryz.prog (w.alloc (.cells #[.int .u8 46] 5)) = .ok (.slice (some ⟨w.heap.size, 0, none⟩) 1 1) (w.alloc (.cells #[.int .u8 46] 5 (1, 2))) :=
 Lib.run_convert_bytes_const (P := Tryz.prog) w 22 5 #[.int .u8 46] 1 1 Tryz.underlying22 Tryz.underlying5
theorem dot_text (w : World) : OwnT (w.alloc (.cells #[.int .u8 46] 5 (1, 2))) w.heap.size (some ⟨w.heap.size, 0, none⟩) 1 1 [46] := ⟨rfl, fun _ => ⟨w.heap.size, rfl, Nat.le_refl _, by simp, fun i hi => by
 have hi0 : i = 0 := by omega
 subst hi0; refine ⟨cell_of_row _ _ 0 _ _ _ (heap_alloc_new _ _), ?_⟩; simp only [World.frozen?, heap_alloc_new]
 simp⟩⟩
def mkL (css : List (List Cel)) : List Cel := css.flatMap (fun cs => dot :: cs)
theorem mkL_take (css : List (List Cel)) (j : Nat) (h : j < css.length) : mkL (css.take (j + 1)) = mkL (css.take j) ++ [dot] ++ css.getD j [] := by
 rw [mkL, List.take_succ_eq_append_getElem h, List.flatMap_append, List.getD, List.getElem?_eq_getElem h]
 simp [mkL]
set_option maxHeartbeats 1000000 in
theorem l2listE_any (css : List (List Cel)) (en : List Cel) (p q : Option Addr) (n c le cq : Nat) (w : World) (hle : le = en.length) (hle0 : 0 < le) (hlb : le + tl en ≤ 1000000) (hn : n = css.length) (hl : n ≤ 2000) (hne : ∀ i, i < css.length → 0 < (css.getD i []).length) (hb : css.length + tll css ≤ 1048576) (hsz : (mkL css).length ≤ 1000000) (hin : CCIn w p css) (hend : CIn w q en) :
 Calls Tryz.prog 51 #[.slice p n c, .slice q le cq] w fun e w' => ∃ r m cr, e = .returned (.slice r m cr) ∧ OwnC w' w.heap.size r m cr (mkL css ++ en) ∧ Below w.heap.size w w' := by
 have HI : Hid (CCIn w p css) := hin; have HE : Hid (CIn w q en) := hend; have HLE : Hid (le = en.length) := hle; have HLB : Hid (le + tl en ≤ 1000000) := hlb
 have hle1 : le ≤ 1000000 := by omega
 have HN : Hid (n = css.length) := hn; have HNE : Hid _ := hne; have hcs := conv_dot; clear hin hend hn hne hle hlb
 go_enter Tryz.func51, Tryz.ntmps51
 go_wp2_with fail
 go_loopw [5, 6] (fun s i wr => ∃ (j : Nat) (r : Option Addr) (m cr : Nat), j ≤ n ∧ m ≤ 1000000 ∧ i = .int .i64 j ∧ s = .slice r m cr ∧ Hid (OwnC wr w.heap.size r m cr (mkL (css.take j))) ∧ Hid (Below w.heap.size w wr)) (fun _ i _ => n - (intOf i).toNat)
 case atStart => exact ⟨0, none, 0, 0, Nat.zero_le _, by decide, rfl, rfl, OwnC.nil _ _, Below.refl _ _⟩
 case round =>
  obtain ⟨j, r, m, cr, hj, hm, rfl, rfl, HO, HB⟩ := hrel; have hBs : w.heap.size ≤ wr.heap.size := HB.out.size
  by_cases hlt : j < n
  ·have hjl : j < css.length := by rw [← HN.out]; exact hlt
   have hal : Below wr.heap.size wr (wr.alloc (.cells #[.int .u8 46] 5 (1, 2))) := (Below.refl _ _).alloc (Nat.le_refl _) _; have HT0 : Hid (OwnT (wr.alloc (.cells #[.int .u8 46] 5 (1, 2))) wr.heap.size (some ⟨wr.heap.size, 0, none⟩) 1 1 [46]) := dot_text wr; obtain ⟨b, o, rfl, hcss⟩ := HI.out (by omega); obtain ⟨qi, ci, x0, x1⟩ := hcss j hjl; have HX1 : Hid (CIn w qi (css.getD j [])) := x1; have hbj := tll_at css j hjl; have hpos := HNE.out j hjl
   obtain ⟨li, eli⟩ : ∃ li, li = (css.getD j []).length := ⟨_, rfl⟩
   have HLI : Hid (li = (css.getD j []).length) := eli
   have hli : 0 < li := by omega
   have hli2 : li ≤ 1048576 := by omega
   rw [← eli] at x0; have X0 : Hid (w.cell? ⟨b, o + j, none⟩ = some (.slice qi li ci)) := x0
   have HBJ : Hid ((css.getD j []).length + tl (css.getD j []) ≤ 1048576) := by show _ ≤ _; omega
   have HMK : Hid _ := mkL_take css j hjl
   have HML : Hid ((mkL (css.take (j + 1))).length ≤ 1000000) := by
    have h1 : mkL css = mkL (css.take (j + 1)) ++ mkL (css.drop (j + 1)) := by rw [mkL, mkL, mkL, ← List.flatMap_append, List.take_append_drop]
    have h2 := congrArg List.length h1; rw [List.length_append] at h2
    show _ ≤ _
    omega
   clear hcss x1 hbj hpos eli x0; have hal2 : Below (wr.alloc (.cells #[.int .u8 46] 5 (1, 2))).heap.size (wr.alloc (.cells #[.int .u8 46] 5 (1, 2))) ((wr.alloc (.cells #[.int .u8 46] 5 (1, 2))).alloc (Obj.cells #[Value.int IntKind.i64 3, Value.int IntKind.i64 2, Value.slice (some ⟨wr.heap.size, 0, none⟩) 1 1] 78)) := (Below.refl _ _).alloc (Nat.le_refl _) _; have HBA : Hid (Below wr.heap.size wr ((wr.alloc (.cells #[.int .u8 46] 5 (1, 2))).alloc (Obj.cells #[Value.int IntKind.i64 3, Value.int IntKind.i64 2, Value.slice (some ⟨wr.heap.size, 0, none⟩) 1 1] 78))) := Below.on hal hal2; have HTT : Hid (OwnT ((wr.alloc (.cells #[.int .u8 46] 5 (1, 2))).alloc (Obj.cells #[Value.int IntKind.i64 3, Value.int IntKind.i64 2, Value.slice (some ⟨wr.heap.size, 0, none⟩) 1 1] 78)) wr.heap.size (some ⟨wr.heap.size, 0, none⟩) 1 1 [46]) := HT0.out.below hal2
   have hnew := heap_alloc_new (wr.alloc (.cells #[.int .u8 46] 5 (1, 2))) (Obj.cells #[Value.int IntKind.i64 3, Value.int IntKind.i64 2, Value.slice (some ⟨wr.heap.size, 0, none⟩) 1 1] 78)
   have esz : (wr.alloc (.cells #[.int .u8 46] 5 (1, 2))).heap.size = wr.heap.size + 1 := by simp
   rw [esz] at hnew; have HBX : Hid (Box3 ((wr.alloc (.cells #[.int .u8 46] 5 (1, 2))).alloc (Obj.cells #[Value.int IntKind.i64 3, Value.int IntKind.i64 2, Value.slice (some ⟨wr.heap.size, 0, none⟩) 1 1] 78)) (wr.heap.size + 1) (.int .i64 3) (.int .i64 2) (.slice (some ⟨wr.heap.size, 0, none⟩) 1 1)) := Box3.of_block (t := 78) hnew; clear hal hal2 hnew esz HT0; go_wp2_with (at_builtin; refine app_cell wr _ rfl _ _ rfl w.heap.size r m cr _ rfl HO.out HBA.out hBs ⟨wr.heap.size + 1, 0, none⟩ 1 rfl 3 2 (some ⟨wr.heap.size, 0, none⟩) 1 1 [46] HTT.out (news_rc HBX.out) (by omega) ?_; intro g1 n1 cap1 w2 hown2 hb2 hn1; have hB2 : Below w.heap.size w w2 := (HB.out.trans (HBA.out.mono hBs)).trans hb2; have y0 := (hB2.cell (World.block_lt_of_cell? _ _ X0.out)).trans X0.out); have HB2 : Hid (Below w.heap.size w w2) := hB2; have HO2 : Hid (OwnC w2 w.heap.size (some ⟨g1, 0, none⟩) n1 cap1 (mkL (css.take j) ++ [dot])) := hown2
   have HN1 : Hid (n1 = m + 1) := hn1.out
   have hn1' : n1 ≤ 1000001 := by have := hn1.out; omega
   have HCP := l2copy_any qi li ci (css.getD j []) w2 HLI.out (by have := HBJ.out; omega) (HX1.out.below hB2); clear hown2 hb2 hB2; refine HCP.mono ?_; rintro e w3 ⟨q3, m3, c3, rfl, ho3, hb3⟩; have HO3 : Hid (OwnC w3 w2.heap.size q3 m3 c3 (css.getD j [])) := ho3; have HB3 : Hid (Below w2.heap.size w2 w3) := hb3
   have HM3 : Hid (m3 = li) := by show _ = _; rw [ho3.1, HLI.out]
   have hm3 : 0 < m3 := by have := HM3.out; omega
   have hm3' : m3 ≤ 1048576 := by have := HM3.out; omega
   have hBs2 : w.heap.size ≤ w2.heap.size := HB2.out.size; clear ho3 hb3 HCP; go_wp2_with (at_builtin; refine app_cells w2 w3 rfl _ _ rfl w.heap.size (some ⟨g1, 0, none⟩) n1 cap1 _ rfl HO2.out HB3.out hBs2 q3 m3 c3 _ rfl HO3.out hm3 (by omega) ?_; intro g4 n4 cap4 w4 hown4 hb4 hn4)
   have HO4 : Hid (OwnC w4 w.heap.size (some ⟨g4, 0, none⟩) n4 cap4 (mkL (css.take (j + 1)))) := by rw [HMK.out]; exact hown4
   have HB4 : Hid (Below w.heap.size w w4) := (Below.on HB2.out HB3.out).trans hb4
   have hn4' : n4 ≤ 1000000 := by rw [HO4.out.1]; exact HML.out
   clear hown4 hb4; go_roundw
   case rel => exact ⟨j + 1, _, n4, cap4, by omega, hn4', by go_num, rfl, HO4, HB4⟩
   case measure => simp [intOf]; omega
  ·obtain rfl : j = n := by omega
   have HCP := l2copy_any q le cq en wr HLE.out (by have := HLB.out; have := HLE.out; omega) (HE.out.below HB.out)
   have HOA : Hid (OwnC wr w.heap.size r m cr (mkL css)) := by have := HO.out; rwa [List.take_of_length_le (by rw [← HN.out]; exact Nat.le_refl _)] at this
   go_wp2_with fail; refine HCP.mono ?_; rintro e w3 ⟨q3, m3, c3, rfl, ho3, hb3⟩; have HO3 : Hid (OwnC w3 wr.heap.size q3 m3 c3 en) := ho3; have HB3 : Hid (Below wr.heap.size wr w3) := hb3
   have hm3 : m3 = le := by rw [ho3.1, HLE.out]
   subst hm3; clear ho3 hb3 HCP; go_wp2_with (at_builtin; refine app_cells wr w3 rfl _ _ rfl w.heap.size r m cr _ rfl HOA.out HB3.out hBs q3 m3 c3 _ rfl HO3.out hle0 (by omega) ?_; intro g4 n4 cap4 w4 hown4 hb4 hn4); go_ret; exact ⟨_, _, _, rfl, hown4, (Below.on HB.out HB3.out).trans hb4⟩
theorem app_itemU (U : Nat) (w : World) {ops : Array Oper} {rest : List Oper} {o : Oper} {a : Act} {Q : Exit → Act → World → Prop} (hgd : o.guard = none) (s x : Operand)
 (ho : o.op = .call { callee := .builtin .append, args := #[s, x], argTypes := #[79, 79] }) (B : Nat) (p : Option Addr) (n c : Nat) (css : List (List Cel))
 (hs : a.eval s = .slice p n c) (hown : OwnCC w B U p n c css) (hU : U ≤ w.heap.size) (hB : B ≤ U) (q : Option Addr) (m cq : Nat) (cs : List Cel) (hit : OwnC w U q m cq cs)
 (hx : a.eval x = .slice (some ⟨w.heap.size, 0, none⟩) 1 1) (hlen : n + 1 ≤ 1000000)
 (h : ∀ g n' cap w', OwnCC w' B w'.heap.size (some ⟨g, 0, none⟩) n' cap (css ++ [cs]) → Below B (w.alloc (.cells #[.slice q m cq] 46)) w' → Hid (n' = n + 1) → wpList Tryz.prog ops Q rest (a.put o.dst (.slice (some ⟨g, 0, none⟩) n' cap)) w') : wpList Tryz.prog ops Q (o :: rest) a (w.alloc (.cells #[.slice q m cq] 46)) := by
 obtain ⟨i0, hi, hz0, hz1, hz2⟩ := info_parts infoCells; obtain ⟨ds, hss⟩ := hown; have hal : Below w.heap.size w (w.alloc (.cells #[.slice q m cq] 46)) := (Below.refl _ _).alloc (Nat.le_refl _) _; refine wpList_append_lies _ hgd s x 79 ho B 46 i0 (.slice none 0 0) 1 24 Tryz.underlying79 hi hz0 hz1 hz2 rfl (by decide) (.slice p n c) n (vals ds css) hs (row_below hss.row hal) ⟨w.heap.size, 0, none⟩ 1 1 [.slice q m cq] hx rfl (cell_one_new _ _ _) (fun u hu => by simp at hu; rw [hu]; rfl) (by decide) (by unfold maxLen; omega) (by omega) (Nat.le_trans (Nat.le_trans hB hU) hal.size) _ rfl ?_
 intro g cap w' hown' hgrow hat hlt
 have hown : ∀ k, Value.ownBlock (.slice p n c) = some k → B ≤ k ∧ k < U := fun k hk => ⟨(hss.row.lt k hk).1, hss.top k hk⟩
 have hm := hit.1
 have hg2 : g < U ∨ w.heap.size ≤ g := by
  rcases hat with h' | h'
  ·exact .inl (hown g h').2
  ·right; rw [h']; simp
 have hws := hU
 have keepS : ∀ k, k < w.heap.size → (∀ j, Value.ownBlock (.slice p n c) = some j → k ≠ j) → w'.heap[k]? = w.heap[k]? := fun k hk hne =>
  (hgrow.block k (by simp; omega) (fun e => hne k e.symm rfl)).trans (Below.heap_alloc _ _ _ hk)
 have hitU := hit.up; refine h g _ cap w' ⟨ds ++ [(q, cq, U, w.heap.size)], ?_⟩ ((Below.refl _ _).grown hgrow (Nat.le_trans (Nat.le_trans hB hU) hal.size) (fun k hk => (hown k hk).1)) rfl; have hdl := hss.dlen; have hln := hss.len; refine ⟨by simp; omega, by simp; omega, by rw [vals_append _ _ _ _ hdl, ← hm]; exact hown', fun i hi => ?_, fun i hi => ?_, fun i hi k hk => ?_, fun i j hij hj => ?_, fun k hk => ?_⟩
 ·have hi' : i ≤ css.length := by simp at hi; omega
  rw [ds_append_at _ _ _ (by omega), css_append_at _ _ _ hi']
  by_cases e : i = css.length
  ·rw [if_pos (by omega), if_pos e, ← hm]
   exact hitU.other (by have := hgrow.size; simp at this; omega) (fun k h1 h2 h3 => keepS k h1 (fun j hj => by have := (hown j hj).2; omega))
  ·rw [if_neg (by omega), if_neg e]
   refine (hss.item i (by omega)).other (by have := hgrow.size; simp at this; omega) (fun k h1 h2 h3 => keepS k h1 (fun j hj => ?_)); have := hss.away i (by omega) j hj
   omega
 ·have hi' : i ≤ css.length := by simp at hi; omega
  rw [ds_append_at _ _ _ (by omega)]
  have hwl : w.heap.size ≤ w'.heap.size := by have := hgrow.size; simp at this; omega
  by_cases e : i = css.length
  ·rw [if_pos (by omega)]; exact ⟨hB, hwl⟩
  ·rw [if_neg (by omega)]
   have := hss.low i (by omega); exact ⟨this.1, by omega⟩
 ·have hi' : i ≤ css.length := by simp at hi; omega
  have hk' : k = g := (Option.some.inj hk).symm; subst hk'; rw [ds_append_at _ _ _ (by omega)]
  by_cases e : i = css.length
  ·rw [if_pos (by omega)]; exact hg2
  ·rw [if_neg (by omega)]
   rcases hat with h' | h'
   ·exact hss.away i (by omega) _ h'
   ·right
    have := (hss.low i (by omega)).2
    have hsz : (w.alloc (.cells #[.slice q m cq] 46)).heap.size = w.heap.size + 1 := by simp
    rw [h', hsz]; omega
 ·have hj' : j ≤ css.length := by simp at hj; omega
  rw [ds_append_at _ _ _ (by omega), ds_append_at _ _ _ (by omega), if_neg (by omega)]
  by_cases e : j = css.length
  ·rw [if_pos (by omega)]
   exact (hss.low i (by omega)).2
  ·rw [if_neg (by omega)]
   exact hss.apart i j hij (by omega)
 ·have hk' : k = g := (Option.some.inj hk).symm
  omega
theorem Keep.on_below {R U : Nat} {w W W' : World} (h : Keep R U w W) (k : Below w.heap.size W W') : Keep R U w W' :=
 ⟨k.os.trans h.os, k.tape.trans h.tape, k.output.trans h.output, Nat.le_trans h.size k.size, fun j hj hp => (k.block j hj).trans (h.block j hj hp)⟩
def TermK (R c : Nat) (p : Option Addr) (xs : List Int) (D : Int) (f : Nat → List Cel × Nat) : Prop :=
 ∀ i w, RdIn w R p c xs i → Calls Tryz.prog 25 #[.pointer (some ⟨R, 0, none⟩), .int .i64 D] w (TermOut w R p c xs (f i))
theorem tll_flat : ∀ css : List (List Cel), tll css = css.flatten.length + tl css.flatten
 | [] => rfl
 | c :: r => by
   rw [tll, tll_flat r, List.flatten_cons, tl_app, List.length_append]; omega
theorem lsL_mk (css : List (List Cel)) (en : List Cel) : lsL css en = mkL css ++ en := rfl
theorem OwnCC.rows {w : World} {B U : Nat} {p : Option Addr} {n c : Nat} {css : List (List Cel)} (h : OwnCC w B U p n c css) (hn : 0 < css.length) (hs : ∀ j, j < css.length → 0 < (css.getD j []).length ∧ (css.getD j []).length + tl (css.getD j []) ≤ 100000) : ∃ g, p = some ⟨g, 0, none⟩ ∧ RowsIn w g css := by
 obtain ⟨ds, h⟩ := h; have hl := h.len; obtain ⟨g, cap, hv, hb, hg⟩ := h.row.form (by omega); simp only [Value.slice.injEq, true_and] at hv; obtain ⟨rfl, rfl⟩ := hv; refine ⟨g, rfl, fun j hj => ⟨(ds.getD j It.zero).1, (ds.getD j It.zero).2.1, ?_, (h.item j hj).toC.cin, hs j hj⟩⟩; rw [h.row.cellAt j (by omega)]; exact vals_at ds css j hj
theorem Sml.few {m : Nat} {cs : List Cel} (h : Sml m cs) (hm : m ≤ 600) : 0 < cs.length ∧ cs.length + tl cs ≤ 100000 := ⟨h.pos, by have := h.len; have := h.txt; omega⟩
theorem nilStr : (⟨#[91, 93]⟩ : ByteArray) = strOfNums [91, 93] := rfl
theorem list_small (f : Nat → List Cel × Nat) (n i m : Nat) (en : List Cel) (q q' : Option Addr) (c le cq : Nat) (w : World) (hn : n ≤ 10) (hm : m ≤ 600) (hf : ∀ i, Sml m (f i).1) (hle : le = en.length) (h0 : 0 < le) (hlb : le + tl en ≤ 1000000) (hin : CCIn w q (iterT f n i).1) (hend : CIn w q' en) :
 Calls Tryz.prog 51 #[.slice q n c, .slice q' le cq] w fun e w' => ∃ r m cr, e = .returned (.slice r m cr) ∧ OwnC w' w.heap.size r m cr (lsL (iterT f n i).1 en) ∧ Below w.heap.size w w' := by
 obtain ⟨a1, a2⟩ := iterT_sml f hf n i; obtain ⟨b1, b2⟩ := lsL_len (iterT f n i).1 []; have hl := iterT_len f n i; have hnm : n * m ≤ 10 * 600 := Nat.mul_le_mul hn hm; refine l2listE_any (iterT f n i).1 en q q' n c le cq w hle h0 hlb hl.symm (by omega) (fun j hj => (iterT_at f (P := fun cs => 0 < cs.length) (fun i => (hf i).pos) n i j (by omega))) (by rw [tll_flat]; omega) ?_ hin hend; rw [lsL_mk, List.append_nil, List.length_nil] at b1
 omega
set_option maxHeartbeats 4000000 in
theorem term_list (R c i m0 : Nat) (p : Option Addr) (xs : List Int) (D : Int) (f g : Nat → List Cel × Nat) (w : World) (h : RdIn w R p c xs i) (hD : -10 ≤ D ∧ D ≤ 10) (hc : 0 < D) (hF : TermK R c p xs (D - 1) f) (hG : TermK R c p xs (D - 2) g) (hm0 : m0 ≤ 600) (hf : ∀ i, Sml m0 (f i).1) (hg : ∀ i, Sml m0 (g i).1) (h0 : ¬ rdN xs i = xs.length) (h50 : ¬ (rdI xs i).toNat < 50) (h90 : (rdI xs i).toNat < 90) :
 Calls Tryz.prog 25 #[.pointer (some ⟨R, 0, none⟩), .int .i64 D] w (TermOut w R p c xs (nodeT xs f g i)) := by
 have HH : Hid (RdIn w R p c xs i) := h; have HF : Hid (TermK R c p xs (D - 1) f) := hF; have HG : Hid (TermK R c p xs (D - 2) g) := hG; have HSF : Hid (∀ i, Sml m0 (f i).1) := hf; have HSG : Hid (∀ i, Sml m0 (g i).1) := hg; have HM0 : Hid (m0 ≤ 600) := hm0; have hr := rdI_rng h.bytes i; have hle := rdN_le h.le; have hsm := h.small; have hRw : R < w.heap.size := h.lt; have hr1 := rdI_rng h.bytes (rdN xs i)
 have HNT : Hid (nodeT xs f g i = (if (rdI xs i).toNat % 4 = 0 then (lsL (iterT f (1 + (rdI xs i).toNat % 3) (rdN xs i)).1 (g (iterT f (1 + (rdI xs i).toNat % 3) (rdN xs i)).2).1, (g (iterT f (1 + (rdI xs i).toNat % 3) (rdN xs i)).2).2) else (lsL (iterT f (1 + (rdI xs i).toNat % 3) (rdN xs i)).1 [nilC], (iterT f (1 + (rdI xs i).toNat % 3) (rdN xs i)).2))) := by
  show _ = _
  unfold nodeT
  simp only; rw [if_neg (by intro hh; rcases hh with hh | hh; exact h0 hh; exact h50 hh), if_pos h90]
 obtain ⟨n, en⟩ : ∃ n, n = xs.length := ⟨_, rfl⟩
 rw [← en] at hle hsm h0; have HEN : Hid (n = xs.length) := en
 obtain ⟨i1, ei⟩ : ∃ i1, i1 = rdN xs i := ⟨_, rfl⟩
 rw [← ei] at hle hr1 h0; rw [← ei] at HNT; have HEI : Hid (i1 = rdN xs i) := ei; have hd : decide (D ≤ 0) = false := decide_eq_false (by omega)
 obtain ⟨res, er⟩ : ∃ res, res = nodeT xs f g i := ⟨_, rfl⟩
 rw [← er]; have HER : Hid (res = nodeT xs f g i) := er; clear h en ei hF hG hf hg hm0 er
 go_enter Tryz.func25, Tryz.ntmps25
 go_wp2_with fail; refine (next_any R c i p xs w HH.out).mono ?_; rintro e w2 ⟨rfl, hk2, hs2, hR2⟩; have HK2 : Hid (Keep R (R + 1) w w2) := hk2
 have HR2 : Hid (RdIn w2 R p c xs i1) := by rw [HEI.out]; exact hR2
 obtain ⟨x, ex⟩ : ∃ x : Nat, rdI xs i = x := ⟨(rdI xs i).toNat, by omega⟩
 have hxt : (rdI xs i).toNat = x := by rw [ex]; exact Int.toNat_natCast x
 rw [hxt] at h50 h90; rw [ex] at hr ⊢; rw [hxt] at HNT; have hx50 : decide ((x : Int) < 50) = false := decide_eq_false (by omega); clear hk2 hs2 hR2 ex hxt; go_wp2_with fail; refine (left_any R c i1 p xs w2 HR2.out).mono ?_; rintro e wL ⟨rfl, hbL⟩; have HRL : Hid (RdIn wL R p c xs i1) := HR2.out.grow hbL; have HKL : Hid (Keep R (R + 1) w wL) := HK2.out.trans (Keep.of_below hbL); rw [← HEN.out]
 obtain ⟨lf, el⟩ : ∃ lf, lf = n - i1 := ⟨_, rfl⟩
 rw [← el]
 have hlf : lf ≤ 500 := by omega
 have hz0 : ((lf : Int) == 0) = false := by simp; omega
 clear hbL el; have hx90 : decide ((x : Int) < 90) = true := decide_eq_true (by omega)
 obtain ⟨z3, e3⟩ : ∃ z, z = x % 3 := ⟨_, rfl⟩
 have hz3 : z3 < 3 := by omega
 have hm3 : (x : Int).tmod 3 = (z3 : Int) := by rw [e3, Int.tmod_eq_emod_of_nonneg (by omega)]; rfl
 obtain ⟨z4, e4⟩ : ∃ z, z = x % 4 := ⟨_, rfl⟩
 have hz4 : z4 < 4 := by omega
 have hm4 : (x : Int).tmod 4 = (z4 : Int) := by rw [e4, Int.tmod_eq_emod_of_nonneg (by omega)]; rfl
 have HZ4 : Hid (z4 = x % 4) := e4
 obtain ⟨nn, enn⟩ : ∃ nn, nn = 1 + z3 := ⟨_, rfl⟩
 have hnn : nn ≤ 3 := by omega
 have hnn0 : 1 ≤ nn := by omega
 have hadd : (1 : Int) + (z3 : Int) = (nn : Int) := by omega
 have HV : Hid (res = if z4 = 0 then (lsL (iterT f nn i1).1 (g (iterT f nn i1).2).1, (g (iterT f nn i1).2).2) else (lsL (iterT f nn i1).1 [nilC], (iterT f nn i1).2)) := by
  show _ = _
  rw [HER.out, HNT.out, ← e3, ← e4, ← enn]
 clear e3 e4 enn h90 h50 HNT HER; go_wp2_with fail
 go_loopw [6, 8] (fun it iv wr => ∃ (j mq cq : Nat) (q : Option Addr), j ≤ nn ∧ mq = j ∧ iv = .int .i64 j ∧ it = .slice q mq cq ∧ Hid (OwnCC wr w.heap.size wr.heap.size q mq cq (iterT f j i1).1) ∧ Hid (Keep R (R + 1) w wr) ∧ Hid (RdIn wr R p c xs (iterT f j i1).2)) (fun _ iv _ => nn - (intOf iv).toNat)
 case atStart => exact ⟨0, 0, 0, none, Nat.zero_le _, rfl, rfl, rfl, OwnCC.nil _ _ _, HKL, HRL⟩
 case round =>
  obtain ⟨j, mq, cq, q, hj, rfl, rfl, rfl, HO, HK, HR⟩ := hrel; have hBs : w.heap.size ≤ wr.heap.size := HK.out.size
  by_cases hlt : mq < nn
  ·have HC := HF.out (iterT f mq i1).2 wr HR.out
   go_wp2_with fail; refine HC.mono ?_; rintro e w3 ⟨q3, n3, c3, rfl, ho3, hk3, hR3⟩; have HO3 : Hid (OwnC w3 wr.heap.size q3 n3 c3 (f (iterT f mq i1).2).1) := ho3; have HR3 : Hid (RdIn w3 R p c xs (f (iterT f mq i1).2).2) := hR3; have HK3 : Hid (Keep R (R + 1) w w3) := HK.out.trans hk3; have HOW : Hid (OwnCC w3 w.heap.size wr.heap.size q mq cq (iterT f mq i1).1) := HO.out.keep hk3 (.inr (by omega)); have hU3 : wr.heap.size ≤ w3.heap.size := hk3.size; clear ho3 hR3 hk3 HC; go_wp2_with (at_builtin; refine app_itemU wr.heap.size w3 rfl _ _ rfl w.heap.size q mq cq _ rfl HOW.out hU3 hBs q3 n3 c3 _ HO3.out rfl (by omega) ?_; intro g4 n4 cap4 w4 hown4 hb4 hn4); have HO4 : Hid (OwnCC w4 w.heap.size w4.heap.size (some ⟨g4, 0, none⟩) n4 cap4 (iterT f (mq + 1) i1).1) := hown4; have hbA : Below w.heap.size w3 w4 := ((Below.refl _ _).alloc (Nat.le_trans hBs hU3) _).trans hb4; have HK4 : Hid (Keep R (R + 1) w w4) := HK3.out.on_below hbA
   have HR4 : Hid (RdIn w4 R p c xs (iterT f (mq + 1) i1).2) := HR3.out.below hbA hRw; have hn4' : n4 = mq + 1 := hn4.out; clear hown4 hb4 hbA hn4; subst hn4'; go_roundw
   case rel => exact ⟨mq + 1, mq + 1, cap4, _, by omega, rfl, by go_num, rfl, HO4, HK4, HR4⟩
   case measure => simp [intOf]; omega
  ·obtain rfl : mq = nn := by omega
   go_wp2_with fail; rw [nilStr]; refine (l2atomS_any [91, 93] (fun x hx => by simp at hx; omega) wr).mono ?_; rintro e w5 ⟨p5, rfl, hc5, hb5⟩; have HC5 : Hid (CIn w5 p5 [nilC]) := hc5; have HK5 : Hid (Keep R (R + 1) w w5) := HK.out.trans (Keep.of_below hb5); have HR5 : Hid (RdIn w5 R p c xs (iterT f mq i1).2) := HR.out.grow hb5; have HO5 : Hid (OwnCC w5 w.heap.size wr.heap.size q mq cq (iterT f mq i1).1) := HO.out.below hb5; have hs5 : w.heap.size ≤ w5.heap.size := HK5.out.size; clear hc5 hb5
   by_cases h4 : z4 = 0
   ·have hb4 : ((z4 : Int) == 0) = true := by rw [h4]; rfl
    have HC := HG.out (iterT f mq i1).2 w5 HR5.out; have HW : Hid (res = (lsL (iterT f mq i1).1 (g (iterT f mq i1).2).1, (g (iterT f mq i1).2).2)) := HV.out.trans (if_pos h4); clear h4; go_wp2_with fail; refine HC.mono ?_; rintro e w6 ⟨q6, n6, c6, rfl, ho6, hk6, hR6⟩; have hsg := HSG.out (iterT f mq i1).2; have HL := list_small f mq i1 m0 (g (iterT f mq i1).2).1 q q6 cq n6 c6 w6 (by omega) HM0.out HSF.out ho6.1 (by have := ho6.1; have := hsg.pos; omega) (by have := ho6.1; have := hsg.len; have := hsg.txt; have := HM0.out; omega) (HO5.out.keep hk6 (.inr (by omega))).ccin ho6.cin; have HK6 : Hid (Keep R (R + 1) w w6) := HK5.out.trans hk6; have HR6 : Hid (RdIn w6 R p c xs (g (iterT f mq i1).2).2) := hR6; clear ho6 hk6 hR6 hsg HC; go_wp2_with fail; refine HL.mono ?_; rintro e w7 ⟨q7, n7, c7, rfl, ho7, hb7⟩; have FIN : Hid _ := TermOut.of HK6.out HR6.out ho7 hb7; clear ho7 hb7 HL; go_wp2_with fail
    go_ret; rw [HW.out]; exact FIN.out
   ·have hb4 : ((z4 : Int) == 0) = false := by simp; omega
    have HL := list_small f mq i1 m0 [nilC] q p5 cq 1 1 w5 (by omega) HM0.out HSF.out rfl (by decide) (by decide) HO5.out.ccin HC5.out; have HW : Hid (res = (lsL (iterT f mq i1).1 [nilC], (iterT f mq i1).2)) := HV.out.trans (if_neg h4); clear h4; go_wp2_with fail; refine HL.mono ?_; rintro e w7 ⟨q7, n7, c7, rfl, ho7, hb7⟩; have FIN : Hid _ := TermOut.of HK5.out HR5.out ho7 hb7; clear ho7 hb7 HL; go_wp2_with fail; go_ret; rw [HW.out]; exact FIN.out
set_option maxHeartbeats 4000000 in
theorem term_many (R c i m0 : Nat) (p : Option Addr) (xs : List Int) (D : Int) (f g : Nat → List Cel × Nat) (w : World) (h : RdIn w R p c xs i) (hD : -10 ≤ D ∧ D ≤ 10) (hc : 0 < D) (hF : TermK R c p xs (D - 1) f) (hG : TermK R c p xs (D - 2) g) (hm0 : m0 ≤ 600) (hf : ∀ i, Sml m0 (f i).1) (hg : ∀ i, Sml m0 (g i).1) (h0 : ¬ rdN xs i = xs.length) (h50 : ¬ (rdI xs i).toNat < 50) (h230 : ¬ (rdI xs i).toNat < 230) :
 Calls Tryz.prog 25 #[.pointer (some ⟨R, 0, none⟩), .int .i64 D] w (TermOut w R p c xs (nodeT xs f g i)) := by
 have HH : Hid (RdIn w R p c xs i) := h; have HF : Hid (TermK R c p xs (D - 1) f) := hF; have HG : Hid (TermK R c p xs (D - 2) g) := hG; have HSF : Hid (∀ i, Sml m0 (f i).1) := hf; have HSG : Hid (∀ i, Sml m0 (g i).1) := hg; have HM0 : Hid (m0 ≤ 600) := hm0; have hr := rdI_rng h.bytes i; have hle := rdN_le h.le; have hsm := h.small; have hRw : R < w.heap.size := h.lt; have hr1 := rdI_rng h.bytes (rdN xs i)
 have HNT : Hid (nodeT xs f g i = ((3, ((1 + (rdI xs i).toNat % 4 : Nat) : Int), numsU (nameAt (rdI xs (iterT f (1 + (rdI xs i).toNat % 4) (rdN xs i)).2).toNat)) :: (iterT f (1 + (rdI xs i).toNat % 4) (rdN xs i)).1.flatten, rdN xs (iterT f (1 + (rdI xs i).toNat % 4) (rdN xs i)).2)) := by
  show _ = _
  unfold nodeT
  simp only; rw [if_neg (by intro hh; rcases hh with hh | hh; exact h0 hh; exact h50 hh), if_neg (by omega), if_neg (by omega), if_neg h230]
 obtain ⟨n, en⟩ : ∃ n, n = xs.length := ⟨_, rfl⟩
 rw [← en] at hle hsm h0; have HEN : Hid (n = xs.length) := en
 obtain ⟨i1, ei⟩ : ∃ i1, i1 = rdN xs i := ⟨_, rfl⟩
 rw [← ei] at hle hr1 h0; rw [← ei] at HNT; have HEI : Hid (i1 = rdN xs i) := ei; have hd : decide (D ≤ 0) = false := decide_eq_false (by omega)
 obtain ⟨res, er⟩ : ∃ res, res = nodeT xs f g i := ⟨_, rfl⟩
 rw [← er]; have HER : Hid (res = nodeT xs f g i) := er; clear h en ei hF hG hf hg hm0 er
 go_enter Tryz.func25, Tryz.ntmps25
 go_wp2_with fail; refine (next_any R c i p xs w HH.out).mono ?_; rintro e w2 ⟨rfl, hk2, hs2, hR2⟩; have HK2 : Hid (Keep R (R + 1) w w2) := hk2
 have HR2 : Hid (RdIn w2 R p c xs i1) := by rw [HEI.out]; exact hR2
 obtain ⟨x, ex⟩ : ∃ x : Nat, rdI xs i = x := ⟨(rdI xs i).toNat, by omega⟩
 have hxt : (rdI xs i).toNat = x := by rw [ex]; exact Int.toNat_natCast x
 rw [hxt] at h50 h230; rw [ex] at hr ⊢; rw [hxt] at HNT; have hx50 : decide ((x : Int) < 50) = false := decide_eq_false (by omega); clear hk2 hs2 hR2 ex hxt; go_wp2_with fail; refine (left_any R c i1 p xs w2 HR2.out).mono ?_; rintro e wL ⟨rfl, hbL⟩; have HRL : Hid (RdIn wL R p c xs i1) := HR2.out.grow hbL; have HKL : Hid (Keep R (R + 1) w wL) := HK2.out.trans (Keep.of_below hbL); rw [← HEN.out]
 obtain ⟨lf, el⟩ : ∃ lf, lf = n - i1 := ⟨_, rfl⟩
 rw [← el]
 have hlf : lf ≤ 500 := by omega
 have hz0 : ((lf : Int) == 0) = false := by simp; omega
 clear hbL el; have hx90 : decide ((x : Int) < 90) = false := decide_eq_false (by omega); have hx180 : decide ((x : Int) < 180) = false := decide_eq_false (by omega); have hx230 : decide ((x : Int) < 230) = false := decide_eq_false (by omega)
 obtain ⟨z4, e4⟩ : ∃ z, z = x % 4 := ⟨_, rfl⟩
 have hz4 : z4 < 4 := by omega
 have hm4 : (x : Int).tmod 4 = (z4 : Int) := by rw [e4, Int.tmod_eq_emod_of_nonneg (by omega)]; rfl
 obtain ⟨nn, enn⟩ : ∃ nn, nn = 1 + z4 := ⟨_, rfl⟩
 have hnn : nn ≤ 4 := by omega
 have hnn0 : 1 ≤ nn := by omega
 have hadd : (1 : Int) + (z4 : Int) = (nn : Int) := by omega
 have HV : Hid (res = ((3, (nn : Int), numsU (nameAt (rdI xs (iterT f nn i1).2).toNat)) :: (iterT f nn i1).1.flatten, rdN xs (iterT f nn i1).2)) := by
  show _ = _
  rw [HER.out, HNT.out, ← e4, ← enn]
 obtain ⟨wA, eA⟩ : ∃ wA, wA = (wL.alloc (.cells (binU.map strV).toArray 9)).alloc (.cells (unaU.map strV).toArray 9) := ⟨_, rfl⟩
 have hbA : Below wL.heap.size wL wA := by rw [eA]; exact ((Below.refl _ _).alloc (Nat.le_refl _) _).alloc (by simp) _
 have HKA : Hid (Keep R (R + 1) w wA) := HKL.out.trans (Keep.of_below hbA); have HRA : Hid (RdIn wA R p c xs i1) := HRL.out.grow hbA; clear e4 enn h230 h50 hbA HNT HER; go_wp2_with fail
 have eA' : wA = (wL.alloc (Obj.cells #[.string ⟨#[45]⟩, .string ⟨#[43]⟩, .string ⟨#[61]⟩, .string ⟨#[44]⟩, .string ⟨#[58, 45]⟩, .string ⟨#[59]⟩, .string ⟨#[45, 62]⟩, .string ⟨#[105, 115]⟩, .string ⟨#[94]⟩, .string ⟨#[42, 42]⟩, .string ⟨#[42]⟩, .string ⟨#[64, 64]⟩, .string ⟨#[109, 111, 100]⟩, .string ⟨#[102]⟩, .string ⟨#[45, 45, 62]⟩, .string ⟨#[114]⟩, .string ⟨#[113]⟩] 9)).alloc (Obj.cells #[.string ⟨#[45]⟩, .string ⟨#[92, 43]⟩, .string ⟨#[58, 45]⟩, .string ⟨#[43]⟩, .string ⟨#[123, 125]⟩, .string ⟨#[100, 121, 110, 97, 109, 105, 99]⟩, .string ⟨#[103]⟩, .string ⟨#[92]⟩, .string ⟨#[112]⟩, .string ⟨#[64, 64]⟩, .string ⟨#[91, 93]⟩, .string ⟨#[33]⟩] 9) := by rw [eA]; rfl
 rw [← eA']; clear eA eA'
 go_loopw [12, 14] (fun it iv wr => ∃ (j mq cq : Nat) (q : Option Addr), j ≤ nn ∧ mq = j ∧ iv = .int .i64 j ∧ it = .slice q mq cq ∧ Hid (OwnCC wr w.heap.size wr.heap.size q mq cq (iterT f j i1).1) ∧ Hid (Keep R (R + 1) w wr) ∧ Hid (RdIn wr R p c xs (iterT f j i1).2)) (fun _ iv _ => nn - (intOf iv).toNat)
 case atStart => exact ⟨0, 0, 0, none, Nat.zero_le _, rfl, rfl, rfl, OwnCC.nil _ _ _, HKA, HRA⟩
 case round =>
  obtain ⟨j, mq, cq, q, hj, rfl, rfl, rfl, HO, HK, HR⟩ := hrel; have hBs : w.heap.size ≤ wr.heap.size := HK.out.size
  by_cases hlt : mq < nn
  ·have HC := HF.out (iterT f mq i1).2 wr HR.out
   go_wp2_with fail; refine HC.mono ?_; rintro e w3 ⟨q3, n3, c3, rfl, ho3, hk3, hR3⟩; have HO3 : Hid (OwnC w3 wr.heap.size q3 n3 c3 (f (iterT f mq i1).2).1) := ho3; have HR3 : Hid (RdIn w3 R p c xs (f (iterT f mq i1).2).2) := hR3; have HK3 : Hid (Keep R (R + 1) w w3) := HK.out.trans hk3; have HOW : Hid (OwnCC w3 w.heap.size wr.heap.size q mq cq (iterT f mq i1).1) := HO.out.keep hk3 (.inr (by omega)); have hU3 : wr.heap.size ≤ w3.heap.size := hk3.size; clear ho3 hR3 hk3 HC; go_wp2_with (at_builtin; refine app_itemU wr.heap.size w3 rfl _ _ rfl w.heap.size q mq cq _ rfl HOW.out hU3 hBs q3 n3 c3 _ HO3.out rfl (by omega) ?_; intro g4 n4 cap4 w4 hown4 hb4 hn4); have HO4 : Hid (OwnCC w4 w.heap.size w4.heap.size (some ⟨g4, 0, none⟩) n4 cap4 (iterT f (mq + 1) i1).1) := hown4; have hbA : Below w.heap.size w3 w4 := ((Below.refl _ _).alloc (Nat.le_trans hBs hU3) _).trans hb4; have HK4 : Hid (Keep R (R + 1) w w4) := HK3.out.on_below hbA
   have HR4 : Hid (RdIn w4 R p c xs (iterT f (mq + 1) i1).2) := HR3.out.below hbA hRw; have hn4' : n4 = mq + 1 := hn4.out; clear hown4 hb4 hbA hn4; subst hn4'; go_roundw
   case rel => exact ⟨mq + 1, mq + 1, cap4, _, by omega, rfl, by go_num, rfl, HO4, HK4, HR4⟩
   case measure => simp [intOf]; omega
  ·obtain rfl : mq = nn := by omega
   go_wp2_with fail; refine (l4name_any R c (iterT f mq i1).2 p xs wr HR.out).mono ?_; rintro e w5 ⟨g5, n5, c5, rfl, hn5, hk5, hR5, hg5, ht5⟩
   obtain ⟨s, es⟩ : ∃ s, s = numsU (nameAt (rdI xs (iterT f mq i1).2).toNat) := ⟨_, rfl⟩
   rw [← es] at hn5 ht5
   have HW : Hid (res = ((3, (mq : Int), s) :: (iterT f mq i1).1.flatten, rdN xs (iterT f mq i1).2)) := by rw [es]; exact HV.out
   have hcv : (convert 22 9 (.slice (some ⟨g5, 0, none⟩) n5 c5)).run Tryz.prog w5 = .ok (.string (strOfNums s)) w5 := conv_str ht5.bin n5 c5 ht5.1 9 Tryz.underlying9
   have hbs : Byte s := by rw [es]; exact byte_numsU _
   obtain ⟨gr, eg, hrows⟩ := (HO.out.keep hk5 (.inr (by omega))).rows (by rw [iterT_len]; omega) (fun j hj => (iterT_at f (P := fun cs => 0 < cs.length ∧ cs.length + tl cs ≤ 100000) (fun i => (HSF.out i).few HM0.out) mq i1 j (by rw [iterT_len] at hj; exact hj))); subst eg; have HL := l2comp_any s hbs gr mq cq (iterT f mq i1).1 w5 (iterT_len f mq i1).symm (by omega) hrows; have HK5 : Hid (Keep R (R + 1) w w5) := HK.out.trans hk5; have HR5 : Hid (RdIn w5 R p c xs (rdN xs (iterT f mq i1).2)) := hR5; clear hk5 hR5 hg5 ht5 hrows hbs es hn5; go_wp2_with fail; refine HL.mono ?_; rintro e w7 ⟨q7, n7, c7, rfl, ho7, hb7⟩; have FIN : Hid _ := TermOut.of HK5.out HR5.out ho7 hb7; clear ho7 hb7 HL; go_wp2_with fail; go_ret; rw [HW.out]; exact FIN.out
theorem str_made (w : World) (L : List (List UInt8)) (t : TypeId) (i : Nat) (h : i < L.length) : (w.alloc (.cells (L.map strV).toArray t)).cell? ⟨w.heap.size, i, none⟩ = some (.string (strOfNums (numsU (L.getD i [])))) := by
 rw [cell_lit w (L.map strV) t i (by rw [List.length_map]; exact h)]; simp only [List.getElem_map, List.getD, List.getElem?_eq_getElem h, strOf_numsU]; rfl
theorem OwnC.keepR {w w' : World} {B R : Nat} {p : Option Addr} {n c : Nat} {cs : List Cel} (h : OwnC w B p n c cs) (hk : Keep R (R + 1) w w') (hR : R < B) : OwnC w' B p n c cs := by
 obtain ⟨rfl, rs, hl, hr, hf, ha⟩ := h; refine ⟨rfl, rs, hl, ⟨hr.1, ?_⟩, fun i hi => ⟨(hf i hi).1, (hf i hi).2.1, (hf i hi).2.2.other hk.size (fun g hn e => ?_)⟩, ha⟩
 ·rcases hr.2 with h' | ⟨g, cap, cur, hv, hB, hg, r⟩
  ·exact .inl h'
  ·exact .inr ⟨g, cap, cur, hv, hB, (hk.block g (Array.getElem?_eq_some_iff.1 hg).1 (.inr (by omega))).trans hg, r⟩
 ·obtain ⟨g', e', hB, hlt, _⟩ := (hf i hi).2.2.2 hn
  rw [e] at e'
  cases e'
  exact hk.block g hlt (.inr (by omega))
theorem one_made (s : List Int) (hs : Byte s) (w : World) {m B n c : Nat} {q : Option Addr} {cs : List Cel} (ho : OwnC w B q n c cs) (hc : Sml m cs) (hm : m ≤ 600) :
 Calls Tryz.prog 53 #[.string (strOfNums s), .slice (some ⟨w.heap.size, 0, none⟩) 1 1] (w.alloc (.cells #[.slice q n c] 46)) fun e w' => ∃ q m c2, e = .returned (.slice q m c2) ∧ OwnC w' w.heap.size q m c2 ((3, 1, s) :: cs) ∧ Below w.heap.size w w' := by
 have hb : Below w.heap.size w (w.alloc (.cells #[.slice q n c] 46)) := (Below.refl _ _).alloc (Nat.le_refl _) _; have hx := l2comp_any s hs w.heap.size 1 1 [cs] (w.alloc (.cells #[.slice q n c] 46)) rfl (by decide) (rows_one (q := q) (c := c) (by rw [← ho.1]; exact cell_of_row _ _ 0 _ _ _ (heap_alloc_new w _)) (ho.cin.below hb) hc.pos (hc.few hm).2); refine hx.mono ?_; rintro e w' ⟨q', m', c', he, ho', hb'⟩; refine ⟨q', m', c', he, ?_, Below.on hb hb'⟩; have := ho'.mono (B' := w.heap.size) (by simp)
 simpa using this
set_option maxHeartbeats 4000000 in
theorem term_two (R c i m0 : Nat) (p : Option Addr) (xs : List Int) (D : Int) (f g : Nat → List Cel × Nat) (w : World) (h : RdIn w R p c xs i) (hD : -10 ≤ D ∧ D ≤ 10) (hc : 0 < D) (hF : TermK R c p xs (D - 1) f) (hG : TermK R c p xs (D - 2) g) (hm0 : m0 ≤ 600) (hf : ∀ i, Sml m0 (f i).1) (hg : ∀ i, Sml m0 (g i).1) (h0 : ¬ rdN xs i = xs.length) (h50 : ¬ (rdI xs i).toNat < 50) (h90 : ¬ (rdI xs i).toNat < 90) (h180 : (rdI xs i).toNat < 180) :
 Calls Tryz.prog 25 #[.pointer (some ⟨R, 0, none⟩), .int .i64 D] w (TermOut w R p c xs (nodeT xs f g i)) := by
 have HH : Hid (RdIn w R p c xs i) := h; have HF : Hid (TermK R c p xs (D - 1) f) := hF; have HG : Hid (TermK R c p xs (D - 2) g) := hG; have HSF : Hid (∀ i, Sml m0 (f i).1) := hf; have HSG : Hid (∀ i, Sml m0 (g i).1) := hg; have HM0 : Hid (m0 ≤ 600) := hm0; have hr := rdI_rng h.bytes i; have hle := rdN_le h.le; have hsm := h.small; have hRw : R < w.heap.size := h.lt; have hr1 := rdI_rng h.bytes (rdN xs i)
 have HNT : Hid (nodeT xs f g i = ((3, 2, numsU (binU.getD ((rdI xs (rdN xs i)).toNat % 17) [])) :: ((f (rdN xs (rdN xs i))).1 ++ (f (f (rdN xs (rdN xs i))).2).1), (f (f (rdN xs (rdN xs i))).2).2)) := by
  show _ = _
  unfold nodeT
  simp only; rw [if_neg (by intro hh; rcases hh with hh | hh; exact h0 hh; exact h50 hh), if_neg h90, if_pos h180]
 obtain ⟨n, en⟩ : ∃ n, n = xs.length := ⟨_, rfl⟩
 rw [← en] at hle hsm h0; have HEN : Hid (n = xs.length) := en
 obtain ⟨i1, ei⟩ : ∃ i1, i1 = rdN xs i := ⟨_, rfl⟩
 rw [← ei] at hle hr1 h0; rw [← ei] at HNT; have HEI : Hid (i1 = rdN xs i) := ei; have hd : decide (D ≤ 0) = false := decide_eq_false (by omega)
 obtain ⟨res, er⟩ : ∃ res, res = nodeT xs f g i := ⟨_, rfl⟩
 rw [← er]; have HER : Hid (res = nodeT xs f g i) := er; clear h en ei hF hG hf hg hm0 er
 go_enter Tryz.func25, Tryz.ntmps25
 go_wp2_with fail; refine (next_any R c i p xs w HH.out).mono ?_; rintro e w2 ⟨rfl, hk2, hs2, hR2⟩; have HK2 : Hid (Keep R (R + 1) w w2) := hk2
 have HR2 : Hid (RdIn w2 R p c xs i1) := by rw [HEI.out]; exact hR2
 obtain ⟨x, ex⟩ : ∃ x : Nat, rdI xs i = x := ⟨(rdI xs i).toNat, by omega⟩
 have hxt : (rdI xs i).toNat = x := by rw [ex]; exact Int.toNat_natCast x
 rw [hxt] at h50 h90 h180; rw [ex] at hr ⊢; have hx50 : decide ((x : Int) < 50) = false := decide_eq_false (by omega); clear hk2 hs2 hR2 ex hxt; go_wp2_with fail; refine (left_any R c i1 p xs w2 HR2.out).mono ?_; rintro e wL ⟨rfl, hbL⟩; have HRL : Hid (RdIn wL R p c xs i1) := HR2.out.grow hbL; have HKL : Hid (Keep R (R + 1) w wL) := HK2.out.trans (Keep.of_below hbL); rw [← HEN.out]
 obtain ⟨lf, el⟩ : ∃ lf, lf = n - i1 := ⟨_, rfl⟩
 rw [← el]
 have hlf : lf ≤ 500 := by omega
 have hz0 : ((lf : Int) == 0) = false := by simp; omega
 clear hbL el; have hx90 : decide ((x : Int) < 90) = false := decide_eq_false (by omega); have hx180 : decide ((x : Int) < 180) = true := decide_eq_true (by omega)
 obtain ⟨y, ey⟩ : ∃ y : Nat, rdI xs i1 = y := ⟨(rdI xs i1).toNat, by omega⟩
 have hy : y < 256 := by omega
 obtain ⟨z, ez⟩ : ∃ z, z = y % 17 := ⟨_, rfl⟩
 have hz : z < 17 := by omega
 have hzi : (0 : Int) ≤ (z : Int) := by omega
 have hzj : (z : Int) < 17 := by omega
 have hzn : (z : Int).toNat = z := Int.toNat_natCast z
 have hwrp : IntKind.i64.wrap (D - 1) = D - 1 := by rw [IntKind.wrap_i64]; omega
 have hmz : (y : Int).tmod 17 = (z : Int) := by rw [ez, Int.tmod_eq_emod_of_nonneg (by omega)]; rfl
 obtain ⟨sN, es⟩ : ∃ s, s = numsU (binU.getD z []) := ⟨_, rfl⟩
 have HBS : Hid (Byte sN) := by rw [es]; exact byte_numsU _
 obtain ⟨i2, ei2⟩ : ∃ i2, i2 = rdN xs i1 := ⟨_, rfl⟩
 have HV : Hid (res = ((3, 2, sN) :: ((f i2).1 ++ (f (f i2).2).1), (f (f i2).2).2)) := by
  show _ = _
  rw [HER.out, HNT.out, ey, Int.toNat_natCast, ← ez, ← es, ← ei2]
 obtain ⟨wB, eB⟩ : ∃ wB, wB = wL.alloc (.cells (binU.map strV).toArray 9) := ⟨_, rfl⟩
 obtain ⟨wA, eA⟩ : ∃ wA, wA = wB.alloc (.cells (unaU.map strV).toArray 9) := ⟨_, rfl⟩
 have hsB : wB.heap.size = wL.heap.size + 1 := by rw [eB]; simp
 have hbB : Below wL.heap.size wL wB := by rw [eB]; exact (Below.refl _ _).alloc (Nat.le_refl _) _
 have hbA0 : Below wB.heap.size wB wA := by rw [eA]; exact (Below.refl _ _).alloc (Nat.le_refl _) _
 have hbA : Below wL.heap.size wL wA := Below.on hbB hbA0
 have hcell : wA.cell? ⟨wL.heap.size, z, none⟩ = some (.string (strOfNums sN)) := by
  have h1 := str_made wL binU 9 z hz; rw [← eB, ← es] at h1; exact (hbA0.cell (p := ⟨wL.heap.size, z, none⟩) (by show wL.heap.size < _; omega)).trans h1
 have HKA : Hid (Keep R (R + 1) w wA) := HKL.out.trans (Keep.of_below hbA)
 have HRA : Hid (∀ k, RdIn (wA.drewN k) R p c xs i1) := fun k => (HRL.out.grow hbA).grow (below_drewN (Below.refl _ _) k)
 have HKAd : Hid (∀ k, Keep R (R + 1) w (wA.drewN k)) := fun k => HKA.out.trans (Keep.of_below (below_drewN (Below.refl _ _) k))
 have HRbt : Hid (R < wL.heap.size) := Nat.lt_of_lt_of_le hRw (Nat.le_trans HKL.out.size (by omega))
 have HCA : Hid (∀ k, (wA.drewN k).cell? ⟨wL.heap.size, z, none⟩ = some (.string (strOfNums sN))) := fun k => hcell
 have HN : Hid (∀ W, RdIn W R p c xs i1 → Calls Tryz.prog 21 #[.pointer (some ⟨R, 0, none⟩)] W fun e w' => e = .returned (.int .i64 (y : Int)) ∧ Keep R (R + 1) W w' ∧ w'.heap.size = W.heap.size ∧ RdIn w' R p c xs i2) := fun W hW => by
  have := next_any R c i1 p xs W hW; rw [ey, ← ei2] at this; exact this
 have tok0 : True := trivial; rw [eB] at eA
 have eA' : wA = (wL.alloc (Obj.cells #[.string ⟨#[45]⟩, .string ⟨#[43]⟩, .string ⟨#[61]⟩, .string ⟨#[44]⟩, .string ⟨#[58, 45]⟩, .string ⟨#[59]⟩, .string ⟨#[45, 62]⟩, .string ⟨#[105, 115]⟩, .string ⟨#[94]⟩, .string ⟨#[42, 42]⟩, .string ⟨#[42]⟩, .string ⟨#[64, 64]⟩, .string ⟨#[109, 111, 100]⟩, .string ⟨#[102]⟩, .string ⟨#[45, 45, 62]⟩, .string ⟨#[114]⟩, .string ⟨#[113]⟩] 9)).alloc (Obj.cells #[.string ⟨#[45]⟩, .string ⟨#[92, 43]⟩, .string ⟨#[58, 45]⟩, .string ⟨#[43]⟩, .string ⟨#[123, 125]⟩, .string ⟨#[100, 121, 110, 97, 109, 105, 99]⟩, .string ⟨#[103]⟩, .string ⟨#[92]⟩, .string ⟨#[112]⟩, .string ⟨#[64, 64]⟩, .string ⟨#[91, 93]⟩, .string ⟨#[33]⟩] 9) := by rw [eA]; rfl
 have hszL : R < wL.heap.size := Nat.lt_of_lt_of_le hRw HKL.out.size; clear h50 hbA hbB hbA0 HNT HER ey ez es ei2 eB eA h90 h180; clear hsB; go_wp2_with fail; rw [← eA']; clear eA'
 go_region_held3 (fun W => W.cell? ⟨wL.heap.size, z, none⟩ = some (.string (strOfNums sN))) (first | exact kk | exact hcell | go_keep)
  (first
    | (have _t := tok0; go_at_call 21; refine Calls.mono (HN.out _ (HRA.out 1)) ?_; rintro e w3 ⟨rfl, hk3, hs3, hR3⟩; have HK3 : Hid (Keep R (R + 1) w w3) := (HKAd.out 1).trans hk3; have HR3 : Hid (RdIn w3 R p c xs i2) := hR3; have kk : w3.cell? ⟨wL.heap.size, z, none⟩ = some (.string (strOfNums sN)) := hk3.cell (HCA.out 1) (.inr HRbt.out); have HC3 : Hid (w3.cell? ⟨wL.heap.size, z, none⟩ = some (.string (strOfNums sN))) := kk; clear hk3 hs3 hR3 tok0; have tok1 : True := trivial)
    | (have _t := tok1; go_at_call 25; refine Calls.mono (HF.out i2 w3 HR3.out) ?_; rintro e w4 ⟨q4, n4, c4, rfl, ho4, hk4, hR4⟩; have HK4 : Hid (Keep R (R + 1) w w4) := HK3.out.trans hk4; have HR4 : Hid (RdIn w4 R p c xs (f i2).2) := hR4; have HO4 : Hid (OwnC w4 w3.heap.size q4 n4 c4 (f i2).1) := ho4; have kk : w4.cell? ⟨wL.heap.size, z, none⟩ = some (.string (strOfNums sN)) := hk4.cell HC3.out (.inr HRbt.out); have HC4 : Hid (w4.cell? ⟨wL.heap.size, z, none⟩ = some (.string (strOfNums sN))) := kk; clear hk4 ho4 hR4 tok1; have tok2 : True := trivial)
    | (have _t := tok2; go_at_call 25; refine Calls.mono (HF.out (f i2).2 w4 HR4.out) ?_; rintro e w5 ⟨q5, n5, c5, rfl, ho5, hk5, hR5⟩; have HK5 : Hid (Keep R (R + 1) w w5) := HK4.out.trans hk5; have HR5 : Hid (RdIn w5 R p c xs (f (f i2).2).2) := hR5; have HL := l2pair_any sN HBS.out q4 q5 n4 n5 c4 c5 (f i2).1 (f (f i2).2).1 w5 HO4.out.1 ho5.1 (HO4.out.keepR hk5 (Nat.le_trans (by have := hRw; have := HK3.out.size; omega) (Nat.le_refl _))).cin ho5.cin (HSF.out _).pos (HSF.out _).pos ((HSF.out _).few HM0.out).2 ((HSF.out _).few HM0.out).2; have HLH : Hid _ := HL; have kk : w5.cell? ⟨wL.heap.size, z, none⟩ = some (.string (strOfNums sN)) := hk5.cell HC4.out (.inr HRbt.out); clear hk5 ho5 hR5 tok2 HL; have tok3 : True := trivial)
    | (have _t := tok3; go_at_call 52; refine Calls.mono HLH.out ?_; rintro e w6 ⟨q6, n6, c6, rfl, ho6, hb6⟩; have FIN : Hid _ := TermOut.of HK5.out HR5.out ho6 hb6; have kk : w6.cell? ⟨wL.heap.size, z, none⟩ = some (.string (strOfNums sN)) := (hb6.cell (World.block_lt_of_cell? _ _ kk)).trans kk; clear ho6 hb6 tok3))
 rename_i hheld; clear hheld
 clear kk; go_wp2_with fail; go_ret; rw [HV.out]; exact FIN.out
set_option maxHeartbeats 4000000 in
theorem term_one (R c i m0 : Nat) (p : Option Addr) (xs : List Int) (D : Int) (f g : Nat → List Cel × Nat) (w : World) (h : RdIn w R p c xs i) (hD : -10 ≤ D ∧ D ≤ 10) (hc : 0 < D) (hF : TermK R c p xs (D - 1) f) (hG : TermK R c p xs (D - 2) g) (hm0 : m0 ≤ 600) (hf : ∀ i, Sml m0 (f i).1) (hg : ∀ i, Sml m0 (g i).1) (h0 : ¬ rdN xs i = xs.length) (h50 : ¬ (rdI xs i).toNat < 50) (h180 : ¬ (rdI xs i).toNat < 180) (h230 : (rdI xs i).toNat < 230) :
 Calls Tryz.prog 25 #[.pointer (some ⟨R, 0, none⟩), .int .i64 D] w (TermOut w R p c xs (nodeT xs f g i)) := by
 have HH : Hid (RdIn w R p c xs i) := h; have HF : Hid (TermK R c p xs (D - 1) f) := hF; have HG : Hid (TermK R c p xs (D - 2) g) := hG; have HSF : Hid (∀ i, Sml m0 (f i).1) := hf; have HSG : Hid (∀ i, Sml m0 (g i).1) := hg; have HM0 : Hid (m0 ≤ 600) := hm0; have hr := rdI_rng h.bytes i; have hle := rdN_le h.le; have hsm := h.small; have hRw : R < w.heap.size := h.lt; have hr1 := rdI_rng h.bytes (rdN xs i)
 have HNT : Hid (nodeT xs f g i = ((3, 1, numsU (unaU.getD ((rdI xs (rdN xs i)).toNat % 12) [])) :: (f (rdN xs (rdN xs i))).1, (f (rdN xs (rdN xs i))).2)) := by
  show _ = _
  unfold nodeT
  simp only; rw [if_neg (by intro hh; rcases hh with hh | hh; exact h0 hh; exact h50 hh), if_neg (by omega), if_neg h180, if_pos h230]
 obtain ⟨n, en⟩ : ∃ n, n = xs.length := ⟨_, rfl⟩
 rw [← en] at hle hsm h0; have HEN : Hid (n = xs.length) := en
 obtain ⟨i1, ei⟩ : ∃ i1, i1 = rdN xs i := ⟨_, rfl⟩
 rw [← ei] at hle hr1 h0; rw [← ei] at HNT; have HEI : Hid (i1 = rdN xs i) := ei; have hd : decide (D ≤ 0) = false := decide_eq_false (by omega)
 obtain ⟨res, er⟩ : ∃ res, res = nodeT xs f g i := ⟨_, rfl⟩
 rw [← er]; have HER : Hid (res = nodeT xs f g i) := er; clear h en ei hF hG hf hg hm0 er
 go_enter Tryz.func25, Tryz.ntmps25
 go_wp2_with fail; refine (next_any R c i p xs w HH.out).mono ?_; rintro e w2 ⟨rfl, hk2, hs2, hR2⟩; have HK2 : Hid (Keep R (R + 1) w w2) := hk2
 have HR2 : Hid (RdIn w2 R p c xs i1) := by rw [HEI.out]; exact hR2
 obtain ⟨x, ex⟩ : ∃ x : Nat, rdI xs i = x := ⟨(rdI xs i).toNat, by omega⟩
 have hxt : (rdI xs i).toNat = x := by rw [ex]; exact Int.toNat_natCast x
 rw [hxt] at h50 h180 h230; rw [ex] at hr ⊢; have hx50 : decide ((x : Int) < 50) = false := decide_eq_false (by omega); clear hk2 hs2 hR2 ex hxt; go_wp2_with fail; refine (left_any R c i1 p xs w2 HR2.out).mono ?_; rintro e wL ⟨rfl, hbL⟩; have HRL : Hid (RdIn wL R p c xs i1) := HR2.out.grow hbL; have HKL : Hid (Keep R (R + 1) w wL) := HK2.out.trans (Keep.of_below hbL); rw [← HEN.out]
 obtain ⟨lf, el⟩ : ∃ lf, lf = n - i1 := ⟨_, rfl⟩
 rw [← el]
 have hlf : lf ≤ 500 := by omega
 have hz0 : ((lf : Int) == 0) = false := by simp; omega
 clear hbL el; have hx90 : decide ((x : Int) < 90) = false := decide_eq_false (by omega); have hx180 : decide ((x : Int) < 180) = false := decide_eq_false (by omega); have hx230 : decide ((x : Int) < 230) = true := decide_eq_true (by omega)
 obtain ⟨y, ey⟩ : ∃ y : Nat, rdI xs i1 = y := ⟨(rdI xs i1).toNat, by omega⟩
 have hy : y < 256 := by omega
 obtain ⟨z, ez⟩ : ∃ z, z = y % 12 := ⟨_, rfl⟩
 have hz : z < 12 := by omega
 have hzi : (0 : Int) ≤ (z : Int) := by omega
 have hzj : (z : Int) < 12 := by omega
 have hzn : (z : Int).toNat = z := Int.toNat_natCast z
 have hwrp : IntKind.i64.wrap (D - 1) = D - 1 := by rw [IntKind.wrap_i64]; omega
 have hmz : (y : Int).tmod 12 = (z : Int) := by rw [ez, Int.tmod_eq_emod_of_nonneg (by omega)]; rfl
 obtain ⟨sN, es⟩ : ∃ s, s = numsU (unaU.getD z []) := ⟨_, rfl⟩
 have HBS : Hid (Byte sN) := by rw [es]; exact byte_numsU _
 obtain ⟨i2, ei2⟩ : ∃ i2, i2 = rdN xs i1 := ⟨_, rfl⟩
 have HV : Hid (res = ((3, 1, sN) :: (f i2).1, (f i2).2)) := by
  show _ = _
  rw [HER.out, HNT.out, ey, Int.toNat_natCast, ← ez, ← es, ← ei2]
 obtain ⟨wB, eB⟩ : ∃ wB, wB = wL.alloc (.cells (binU.map strV).toArray 9) := ⟨_, rfl⟩
 obtain ⟨wA, eA⟩ : ∃ wA, wA = wB.alloc (.cells (unaU.map strV).toArray 9) := ⟨_, rfl⟩
 have hsB : wB.heap.size = wL.heap.size + 1 := by rw [eB]; simp
 have hbB : Below wL.heap.size wL wB := by rw [eB]; exact (Below.refl _ _).alloc (Nat.le_refl _) _
 have hbA0 : Below wB.heap.size wB wA := by rw [eA]; exact (Below.refl _ _).alloc (Nat.le_refl _) _
 have hbA : Below wL.heap.size wL wA := Below.on hbB hbA0
 have hcell : wA.cell? ⟨wL.heap.size + 1, z, none⟩ = some (.string (strOfNums sN)) := by
  have h1 := str_made wB unaU 9 z hz; rw [← eA, ← es, hsB] at h1; exact h1
 have HKA : Hid (Keep R (R + 1) w wA) := HKL.out.trans (Keep.of_below hbA)
 have HRA : Hid (∀ k, RdIn (wA.drewN k) R p c xs i1) := fun k => (HRL.out.grow hbA).grow (below_drewN (Below.refl _ _) k)
 have HKAd : Hid (∀ k, Keep R (R + 1) w (wA.drewN k)) := fun k => HKA.out.trans (Keep.of_below (below_drewN (Below.refl _ _) k))
 have HRbt : Hid (R < wL.heap.size + 1) := Nat.lt_of_lt_of_le hRw (Nat.le_trans HKL.out.size (by omega))
 have HCA : Hid (∀ k, (wA.drewN k).cell? ⟨wL.heap.size + 1, z, none⟩ = some (.string (strOfNums sN))) := fun k => hcell
 have HN : Hid (∀ W, RdIn W R p c xs i1 → Calls Tryz.prog 21 #[.pointer (some ⟨R, 0, none⟩)] W fun e w' => e = .returned (.int .i64 (y : Int)) ∧ Keep R (R + 1) W w' ∧ w'.heap.size = W.heap.size ∧ RdIn w' R p c xs i2) := fun W hW => by
  have := next_any R c i1 p xs W hW; rw [ey, ← ei2] at this; exact this
 have tok0 : True := trivial; rw [eB] at eA
 have eA' : wA = (wL.alloc (Obj.cells #[.string ⟨#[45]⟩, .string ⟨#[43]⟩, .string ⟨#[61]⟩, .string ⟨#[44]⟩, .string ⟨#[58, 45]⟩, .string ⟨#[59]⟩, .string ⟨#[45, 62]⟩, .string ⟨#[105, 115]⟩, .string ⟨#[94]⟩, .string ⟨#[42, 42]⟩, .string ⟨#[42]⟩, .string ⟨#[64, 64]⟩, .string ⟨#[109, 111, 100]⟩, .string ⟨#[102]⟩, .string ⟨#[45, 45, 62]⟩, .string ⟨#[114]⟩, .string ⟨#[113]⟩] 9)).alloc (Obj.cells #[.string ⟨#[45]⟩, .string ⟨#[92, 43]⟩, .string ⟨#[58, 45]⟩, .string ⟨#[43]⟩, .string ⟨#[123, 125]⟩, .string ⟨#[100, 121, 110, 97, 109, 105, 99]⟩, .string ⟨#[103]⟩, .string ⟨#[92]⟩, .string ⟨#[112]⟩, .string ⟨#[64, 64]⟩, .string ⟨#[91, 93]⟩, .string ⟨#[33]⟩] 9) := by rw [eA]; rfl
 have hszL : R < wL.heap.size := Nat.lt_of_lt_of_le hRw HKL.out.size; clear h50 hbA hbB hbA0 HNT HER ey ez es ei2 eB eA h180 h230; clear hsB; go_wp2_with fail; rw [← eA']; clear eA'
 go_region_held3 (fun W => W.cell? ⟨wL.heap.size + 1, z, none⟩ = some (.string (strOfNums sN))) (first | exact kk | exact hcell | go_keep)
  (first
    | (have _t := tok0; go_at_call 21; refine Calls.mono (HN.out _ (HRA.out 1)) ?_; rintro e w3 ⟨rfl, hk3, hs3, hR3⟩; have HK3 : Hid (Keep R (R + 1) w w3) := (HKAd.out 1).trans hk3; have HR3 : Hid (RdIn w3 R p c xs i2) := hR3; have kk : w3.cell? ⟨wL.heap.size + 1, z, none⟩ = some (.string (strOfNums sN)) := hk3.cell (HCA.out 1) (.inr HRbt.out); have HC3 : Hid (w3.cell? ⟨wL.heap.size + 1, z, none⟩ = some (.string (strOfNums sN))) := kk; clear hk3 hs3 hR3 tok0; have tok1 : True := trivial)
    | (have _t := tok1; go_at_call 25; refine Calls.mono (HF.out i2 w3 HR3.out) ?_; rintro e w4 ⟨q4, n4, c4, rfl, ho4, hk4, hR4⟩; have HK4 : Hid (Keep R (R + 1) w w4) := HK3.out.trans hk4; have HR4 : Hid (RdIn w4 R p c xs (f i2).2) := hR4; have HO4 : Hid (OwnC w4 w3.heap.size q4 n4 c4 (f i2).1) := ho4; have kk : w4.cell? ⟨wL.heap.size + 1, z, none⟩ = some (.string (strOfNums sN)) := hk4.cell HC3.out (.inr HRbt.out); have HC4 : Hid (w4.cell? ⟨wL.heap.size + 1, z, none⟩ = some (.string (strOfNums sN))) := kk; clear hk4 ho4 hR4 tok1; have tok2 : True := trivial)
    | (have _t := tok2; go_at_call 53; refine Calls.mono (one_made sN HBS.out w4 HO4.out (HSF.out i2) HM0.out) ?_; rintro e w6 ⟨q6, n6, c6, rfl, ho6, hb6⟩; have FIN : Hid _ := TermOut.of HK4.out HR4.out ho6 hb6; have kk : w6.cell? ⟨wL.heap.size + 1, z, none⟩ = some (.string (strOfNums sN)) := (hb6.cell (World.block_lt_of_cell? _ _ HC4.out)).trans HC4.out; clear ho6 hb6 tok2))
 rename_i hheld; clear hheld
 clear kk; go_wp2_with fail; go_ret; rw [HV.out]; exact FIN.out
theorem l4term_any (R c : Nat) (p : Option Addr) (xs : List Int) : ∀ (d : Nat) (D : Int), d ≤ 4 → D.toNat = d → -10 ≤ D → TermK R c p xs D (drawT xs d) := by
 have low : ∀ (D : Int), D ≤ 0 → -10 ≤ D → TermK R c p xs D (drawT xs 0) := fun D h1 h2 i w h => term_low R c i p xs D w h ⟨h2, by omega⟩ h1
 have node : ∀ (D : Int) (m : Nat) (f g : Nat → List Cel × Nat), 0 < D → D ≤ 10 → m ≤ 600 → (∀ i, Sml m (f i).1) → (∀ i, Sml m (g i).1) → TermK R c p xs (D - 1) f → TermK R c p xs (D - 2) g → TermK R c p xs D (nodeT xs f g) := by
  intro D m f g h0 h1 hm hf hg hF hG i w h
  by_cases e1 : rdN xs i = xs.length
  ·have := term_end R c i p xs D w h ⟨by omega, h1⟩ h0 e1
   rwa [show leafT xs (rdI xs i).toNat (rdN xs i) = nodeT xs f g i by unfold nodeT; simp only; rw [if_pos (.inl e1)]] at this
  by_cases e2 : (rdI xs i).toNat < 50
  ·have := term_few R c i p xs D w h ⟨by omega, h1⟩ h0 e1 e2
   rwa [show leafT xs (rdI xs i).toNat (rdN xs i) = nodeT xs f g i by unfold nodeT; simp only; rw [if_pos (.inr e2)]] at this
  by_cases e3 : (rdI xs i).toNat < 90
  ·exact term_list R c i m p xs D f g w h ⟨by omega, h1⟩ h0 hF hG hm hf hg e1 e2 e3
  by_cases e4 : (rdI xs i).toNat < 180
  ·exact term_two R c i m p xs D f g w h ⟨by omega, h1⟩ h0 hF hG hm hf hg e1 e2 e3 e4
  by_cases e5 : (rdI xs i).toNat < 230
  ·exact term_one R c i m p xs D f g w h ⟨by omega, h1⟩ h0 hF hG hm hf hg e1 e2 e4 e5
  ·exact term_many R c i m p xs D f g w h ⟨by omega, h1⟩ h0 hF hG hm hf hg e1 e2 e5
 have small : ∀ d, d ≤ 3 → ∀ i, Sml 600 (drawT xs d i).1 := fun d hd i => by
  have h := drawT_sml xs d i; have : 4 ^ d ≤ 4 ^ 3 := Nat.pow_le_pow_right (by decide) hd; exact ⟨h.pos, by have := h.len; omega, h.txt⟩
 intro d
 induction d using Nat.strongRecOn with | _ d ih =>
 match d, ih with
 | 0, _ => exact fun D _ h1 h2 => low D (by omega) h2
 | 1, _ => exact fun D _ h1 h2 => node D 600 _ _ (by omega) (by omega) (Nat.le_refl _) (small 0 (by omega)) (small 0 (by omega)) (low _ (by omega) (by omega)) (low _ (by omega) (by omega))
 | d + 2, ih =>
   intro D hd h1 h2
   exact node D 600 _ _ (by omega) (by omega) (Nat.le_refl _) (small (d + 1) (by omega)) (small d (by omega)) (ih (d + 1) (by omega) (D - 1) (by omega) (by omega) (by omega)) (ih d (by omega) (D - 2) (by omega) (by omega) (by omega))
end Go.Proofs.YtfgmenkoeflhaaaGreatDoor
