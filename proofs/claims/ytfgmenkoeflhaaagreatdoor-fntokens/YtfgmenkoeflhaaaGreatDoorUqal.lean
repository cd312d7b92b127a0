/- Texts of SSG, NextG, Lay3, CoS. Own work of the verifier. -/
import Derived.Test.YtfgmenkoeflhaaaGreatDoorUqak
import Derived.Below
namespace Go.Proofs.YtfgmenkoeflhaaaGreatDoor
set_option maxRecDepth 100000
open Go Go.RowKit
set_option linter.unusedVariables false
theorem infoCells : (Tryz.prog.info? 46).map (fun i => (i.zero, i.size, i.bytes)) = some (some (.slice none 0 0), 1, 24) := by kernel_rfl
abbrev It := Option Addr × Nat × Nat × Nat
def It.zero : It := (none, 0, 0, 0)
theorem ds_append_at (ds : List It) (r : It) (i : Nat) (h : i ≤ ds.length) : (ds ++ [r]).getD i It.zero = if i = ds.length then r else ds.getD i It.zero := by
 by_cases e : i = ds.length
 ·subst e; simp [List.getD]
 ·rw [if_neg e, List.getD, List.getD, List.getElem?_append_left (by omega)]
def tll : List (List Cel) → Nat
 | [] => 0
 | c :: r => c.length + tl c + tll r
theorem tll_at : ∀ (css : List (List Cel)) (i : Nat), i < css.length → (css.getD i []).length + tl (css.getD i []) ≤ tll css
 | [], i, h => by simp at h
 | c :: r, 0, _ => by simp [tll]
 | c :: r, i + 1, h => by have := tll_at r i (by simpa using h); simp only [tll, List.getD_cons_succ]; omega
theorem CIn.part {w : World} {b o : Nat} {cs ds : List Cel} (h : ∀ i, i < cs.length → CAt w b (o + i * 3) (cs.getD i Cel.none)) (j : Nat) (hd : ds <+: cs.drop j) : CIn w (some ⟨b, o + j * 3, none⟩) ds := fun _ => by
 refine ⟨b, o + j * 3, rfl, fun i hi => ?_⟩; obtain ⟨r, hr⟩ := hd
 have hl : j + i < cs.length := by
  have := congrArg List.length hr
  simp at this; omega
 have e : cs.getD (j + i) Cel.none = ds.getD i Cel.none := by
  have h1 : (cs.drop j)[i]? = ds[i]? := by rw [← hr, List.getElem?_append_left hi]
  rw [List.getElem?_drop] at h1; simp only [List.getD, h1]
 have := h (j + i) hl; rw [e, show o + (j + i) * 3 = o + j * 3 + i * 3 by omega] at this; exact this
theorem drop_cell {cs : List Cel} {j : Nat} {c : Cel} {r : List Cel} (h : cs.drop j = c :: r) : j < cs.length ∧ cs.getD j Cel.none = c ∧ cs.drop (j + 1) = r := by
 have hl : j < cs.length := by
  rcases Nat.lt_or_ge j cs.length with h' | h'
  ·exact h'
  ·rw [List.drop_eq_nil_of_le h'] at h; cases h
 rw [List.drop_eq_getElem_cons hl] at h
 injection h with h1 h2
 exact ⟨hl, by simp [List.getD, hl, h1], h2⟩
theorem l2next_any (p : Option Addr) (n cap : Nat) (cs : List Cel) (at_ : Nat) (c : Cel) (k : Fo) (tail : List Cel) (w : World) (hn : n = cs.length) (hm : n ≤ 1000000) (hd : cs.drop at_ = c :: (k.cells ++ tail)) (hok : (Fo.node c k .nil).ok) (hin : CIn w p cs) :
 Calls Tryz.prog 96 #[.slice p n cap, .int .i64 at_] w fun e w' => e = .returned (.int .i64 ((at_ + 1 + k.cells.length : Nat) : Int)) ∧ w' = w := by
 obtain ⟨E, eE⟩ : ∃ E, E = at_ + 1 + k.cells.length := ⟨_, rfl⟩
 have HE : Hid (E = at_ + 1 + k.cells.length) := eE
 have hEn : E ≤ n := by
  have := congrArg List.length hd
  simp at this; omega
 have HD : Hid (cs.drop at_ = (Fo.node c k .nil).cells ++ tail ∧ n = cs.length) := ⟨by simp [Fo.cells, hd], hn⟩
 have HOK : Hid (Fo.node c k .nil).ok := hok; have HIN : Hid (CIn w p cs) := hin
 have hA : at_ ≤ E := by omega
 rw [← eE]; clear hn hd hok hin eE
 go_enter Tryz.func96, Tryz.ntmps96
 go_wp2
 go_loop [1, 5] (fun a l => ∃ (j : Nat) (q : Nat), j ≤ E ∧ a = .int .i64 j ∧ l = .int .i64 q ∧ q ≤ 1000000 ∧ Hid (∃ F : Fo, F.ok ∧ F.count = q ∧ cs.drop j = F.cells ++ tail ∧ j + F.cells.length = E)) (fun a _ => E - (intOf a).toNat)
 case atStart => exact ⟨at_, 1, hA, rfl, rfl, by decide, .node c k .nil, HOK.out, rfl, HD.out.1, by rw [HE.out]; simp [Fo.cells]; omega⟩
 case round =>
  obtain ⟨j, q, hj, rfl, rfl, hq, HF⟩ := hrel
  by_cases h0 : 0 < q
  ·obtain ⟨F, hFok, hFc, hFd, hFl⟩ := HF.out
   cases F with
   | nil => simp [Fo.count] at hFc; omega
   | node c1 k1 r1 =>
     simp only [Fo.cells, List.cons_append, List.append_assoc] at hFd; obtain ⟨hjl, hg, hd1⟩ := drop_cell hFd
     have hjn : j < n := by rw [HD.out.2]; exact hjl
     obtain ⟨b, o, rfl, hcs⟩ := HIN.out (by omega); obtain ⟨p0, q0, d0, d1, _, _⟩ := hcs j hjl; rw [hg] at d0 d1
     have hjE : j + 1 ≤ E := by rw [← hFl]; simp only [Fo.cells, List.length_cons, List.length_append]; omega
     have hcB := hFok.1
     by_cases h3 : c1.1 = 3
     ·have hc1 := hFok.2.2.1 h3
      rw [h3] at hcB; have hb20 := cellB_comp hcB
      have HN : Hid (∃ F : Fo, F.ok ∧ F.count = q + k1.count - 1 ∧ cs.drop (j + 1) = F.cells ++ tail ∧ j + 1 + F.cells.length = E) := by
       refine ⟨k1.cat r1, (Fo.ok_cat _ _).2 ⟨hFok.2.2.2.2.1, hFok.2.2.2.2.2⟩, ?_, ?_, ?_⟩
       ·rw [Fo.count_cat]; simp [Fo.count] at hFc; omega
       ·rw [Fo.cells_cat, hd1, List.append_assoc]
       ·rw [Fo.cells_cat, ← hFl]; simp [Fo.cells]; omega
      rw [h3] at d0; rw [hc1] at d1
      have hk20 : k1.count ≤ 20 := by omega
      have hq2 : q + k1.count - 1 ≤ 1000000 := by
       obtain ⟨F, _, hc, _, hl⟩ := HN.out; have := Fo.count_le F
       omega
      obtain ⟨m, em⟩ : ∃ m, m = k1.count := ⟨_, rfl⟩
      rw [← em] at d1 hk20 HN hq2
      have hm1 : 1 ≤ m := by omega
      clear hFok hFc hFd hFl hcs hcB h3 hc1 hb20 hd1 hg em HF
      go_wp2
      go_round
      case rel => exact ⟨j + 1, q + m - 1, hjE, by go_num, by go_num, hq2, HN⟩
      case measure => simp [intOf]; omega
     ·have hk1 : k1 = .nil := hFok.2.2.2.1 h3
      have h3' : (c1.1 == 3) = false := by simpa using h3
      have HN : Hid (∃ F : Fo, F.ok ∧ F.count = q - 1 ∧ cs.drop (j + 1) = F.cells ++ tail ∧ j + 1 + F.cells.length = E) := by
       refine ⟨r1, hFok.2.2.2.2.2, ?_, ?_, ?_⟩
       ·simp [Fo.count] at hFc; omega
       ·rw [hd1, hk1]; rfl
       ·rw [← hFl, hk1]; simp [Fo.cells]; omega
      obtain ⟨kd, ekd⟩ : ∃ kd, kd = c1.1 := ⟨_, rfl⟩
      rw [← ekd] at d0 h3'; clear hFok hFc hFd hFl hcs hcB h3 hd1 hg HF hk1 ekd
      go_wp2
      go_round
      case rel => exact ⟨j + 1, q - 1, hjE, by go_num, by go_num, by omega, HN⟩
      case measure => simp [intOf]; omega
  ·obtain rfl : q = 0 := by omega
   have HJ : Hid (j = E) := by
    obtain ⟨F, _, hc, _, hl⟩ := HF.out
    cases F with
    | nil => simpa [Fo.cells, Hid] using hl
    | node a b d => simp [Fo.count] at hc
   clear HF
   go_wp2
   go_ret; exact ⟨ret_int (by rw [HJ.out]), rfl⟩
def slV (r : Option Addr × Nat × Nat) : Value := .slice r.1 r.2.1 r.2.2
theorem app_sl (w : World) {ops : Array Oper} {rest : List Oper} {o : Oper} {a : Act} {Q : Exit → Act → World → Prop} (hgd : o.guard = none) (s x : Operand)
 (ho : o.op = .call { callee := .builtin .append, args := #[s, x], argTypes := #[79, 79] }) (B : Nat) (p : Option Addr) (n c : Nat) (rs : List (Option Addr × Nat × Nat)) (q : Option Addr) (m c' : Nat)
 (hs : a.eval s = .slice p n c) (hown : w.ownsRow B 46 1 (.slice p n c) n (rs.map slV)) (hx : a.eval x = .slice (some ⟨w.heap.size, 0, none⟩) 1 1)
 (hlen : n + 1 ≤ 1000000) (hbase : B ≤ w.heap.size)
 (h : ∀ g cap w', w'.ownsRow B 46 1 (.slice (some ⟨g, 0, none⟩) (n + 1) cap) (n + 1) ((rs ++ [(q, m, c')]).map slV) → (w.alloc (.cells #[.slice q m c'] 46)).grownBy w' (Value.ownBlock (.slice p n c)) → wpList Tryz.prog ops Q rest (a.put o.dst (.slice (some ⟨g, 0, none⟩) (n + 1) cap)) w') : wpList Tryz.prog ops Q (o :: rest) a (w.alloc (.cells #[.slice q m c'] 46)) := by
 obtain ⟨i0, hi, hz0, hz1, hz2⟩ := info_parts infoCells; refine wpList_append_lies _ hgd s x 79 ho B 46 i0 (.slice none 0 0) 1 24 Tryz.underlying79 hi hz0 hz1 hz2 rfl (by decide) (.slice p n c) n (rs.map slV) hs (hown.alloc _) ⟨w.heap.size, 0, none⟩ 1 1 [.slice q m c'] hx rfl (cell_one_new _ _ _) (by simp [Value.oneCell']) (by decide) (by unfold maxLen; omega) (by omega) (by simp; omega) _ rfl ?_
 intro g cap w' hown' hgrow hat hlt
 exact h g cap w' (by rw [List.map_append]; exact hown') hgrow
theorem lay3 (w : World) (o0 o1 o2 : Obj) (W : World) (h : W = ((w.alloc o0).alloc o1).alloc o2) :
 Below w.heap.size w W ∧ W.heap[w.heap.size]? = some o0 ∧ W.heap[w.heap.size + 1]? = some o1 ∧ W.heap[w.heap.size + 1 + 1]? = some o2 := by
 subst h
 have hb : ∀ (V : World) (o : Obj), Below w.heap.size w V → Below w.heap.size w (V.alloc o) := fun V o h => h.alloc h.size o
 refine ⟨hb _ _ (hb _ _ (hb _ _ (Below.refl _ _))), ?_, ?_, ?_⟩
 ·show (((w.heap.push o0).push o1).push o2)[w.heap.size]? = some o0
  simp only [Array.getElem?_push, Array.size_push]
  repeat' split
  all_goals first | rfl | omega | (exact absurd trivial ‹¬True›)
 ·show (((w.heap.push o0).push o1).push o2)[w.heap.size + 1]? = some o1
  simp only [Array.getElem?_push, Array.size_push]
  repeat' split
  all_goals first | rfl | omega | (exact absurd trivial ‹¬True›)
 ·show (((w.heap.push o0).push o1).push o2)[w.heap.size + 1 + 1]? = some o2
  simp only [Array.getElem?_push, Array.size_push]
  repeat' split
  all_goals first | rfl | omega | (exact absurd trivial ‹¬True›)
theorem own_one {w : World} {B g tn tc : Nat} {k n : Int} {tp : Option Addr} {s : List Int} (hg : w.heap[g]? = some (.cells #[.int .i64 k, .int .i64 n, .slice tp tn tc] 78)) (hB : B ≤ g) (ht : OwnT w B tp tn tc s) (hne : ∀ a, tp = some a → a.block ≠ g) : OwnC w B (some ⟨g, 0, none⟩) 1 1 [(k, n, s)] := by
 refine ⟨rfl, [(k, n, tp, tn, tc)], rfl, ⟨rfl, .inr ⟨g, 1, _, rfl, hB, hg, Nat.le_refl _, by decide, rfl, rfl⟩⟩, fun i hi => ?_, ?_⟩
 ·obtain rfl : i = 0 := by simp at hi; omega
  exact ⟨rfl, rfl, ht⟩
 ·refine ⟨fun i hi h => ?_, fun i j hi hj h => ?_⟩
  ·obtain rfl : i = 0 := by simp at hi; omega
   exact fun e => hne _ e rfl
  ·simp at hi hj
   omega
theorem l2atomS_any (s : List Int) (hs : Byte s) (w : World) : Calls Tryz.prog 27 #[.string (strOfNums s)] w fun e w' => ∃ p, e = .returned (.slice p 1 1) ∧ CIn w' p [(2, 0, s)] ∧ Below w.heap.size w w' := by
 obtain ⟨w1, cap1, hcv, hb1, ht⟩ := conv_bytes w s hs 9 Tryz.underlying9
 obtain ⟨l, el⟩ : ∃ l, l = s.length := ⟨_, rfl⟩
 rw [← el] at hcv ht; have hb : Below w1.heap.size w1 (w1.alloc (Obj.cells #[Value.int IntKind.i64 2, Value.int IntKind.i64 0, Value.slice (some ⟨w.heap.size, 0, none⟩) l cap1] 78)) := (Below.refl _ _).alloc (Nat.le_refl _) _; have HX : Hid (Box3 (w1.alloc (Obj.cells #[Value.int IntKind.i64 2, Value.int IntKind.i64 0, Value.slice (some ⟨w.heap.size, 0, none⟩) l cap1] 78)) w1.heap.size (.int .i64 2) (.int .i64 0) (.slice (some ⟨w.heap.size, 0, none⟩) l cap1)) := Box3.of_block (t := 78) (heap_alloc_new w1 _); have HT : Hid _ := (ht.below hb).bin; have HL : Hid (l = s.length) := el; have HB : Hid (Below w.heap.size w (w1.alloc (Obj.cells #[Value.int IntKind.i64 2, Value.int IntKind.i64 0, Value.slice (some ⟨w.heap.size, 0, none⟩) l cap1] 78))) := Below.on hb1 hb; clear hb1 ht hb el
 go_enter Tryz.func27, Tryz.ntmps27
 go_wp2_with fail; go_ret; refine ⟨_, rfl, fun _ => ⟨w1.heap.size, 0, rfl, fun i hi => ?_⟩, HB.out⟩
 have hi0 : i = 0 := by simp at hi; omega
 subst hi0; exact ⟨_, cap1, HX.out.1, HX.out.2.1, by show _ = some (Value.slice (some ⟨w.heap.size, 0, none⟩) s.length cap1); rw [← HL.out]; exact HX.out.2.2.1, HT.out⟩
def RowsIn (w : World) (g : Nat) (dss : List (List Cel)) : Prop := ∀ j, j < dss.length → ∃ q c, w.cell? ⟨g, j, none⟩ = some (.slice q (dss.getD j []).length c) ∧ CIn w q (dss.getD j []) ∧ 0 < (dss.getD j []).length ∧ (dss.getD j []).length + tl (dss.getD j []) ≤ 100000
theorem RowsIn.below {w w' : World} {g : Nat} {dss : List (List Cel)} (h : RowsIn w g dss) (hb : Below w.heap.size w w') : RowsIn w' g dss := fun j hj => by
 obtain ⟨q, c, h1, h2, h3⟩ := h j hj; exact ⟨q, c, (hb.cell (World.block_lt_of_cell? _ _ h1)).trans h1, h2.below hb, h3⟩
set_option maxHeartbeats 400000 in
theorem l2comp_any (s : List Int) (hs : Byte s) (g n c : Nat) (dss : List (List Cel)) (w : World) (hn : n = dss.length) (h20 : n ≤ 20) (hr : RowsIn w g dss) :
 Calls Tryz.prog 53 #[.string (strOfNums s), .slice (some ⟨g, 0, none⟩) n c] w fun e w' => ∃ q m c2, e = .returned (.slice q m c2) ∧ OwnC w' w.heap.size q m c2 ((3, (n : Int), s) :: dss.flatten) ∧ Below w.heap.size w w' := by
 obtain ⟨w1, cap1, hcv, hb1, ht⟩ := conv_bytes w s hs 9 Tryz.underlying9
 obtain ⟨l, el⟩ : ∃ l, l = s.length := ⟨_, rfl⟩
 rw [← el] at hcv ht
 have hlt1 : w.heap.size < w1.heap.size ∨ l = 0 := by
  rcases Nat.eq_zero_or_pos l with h | h
  ·exact .inr h
  ·obtain ⟨g', e, _, h3, _⟩ := ht.2 h
   cases e
   exact .inl h3
 have hbA : Below w1.heap.size w1 (w1.alloc (Obj.cells #[Value.int IntKind.i64 3, Value.int IntKind.i64 n, Value.slice (some ⟨w.heap.size, 0, none⟩) l cap1] 78)) := (Below.refl _ _).alloc (Nat.le_refl _) _; have HBA : Hid (Below w.heap.size w (w1.alloc (Obj.cells #[Value.int IntKind.i64 3, Value.int IntKind.i64 n, Value.slice (some ⟨w.heap.size, 0, none⟩) l cap1] 78))) := Below.on hb1 hbA
 have HOA : Hid (OwnC (w1.alloc (Obj.cells #[Value.int IntKind.i64 3, Value.int IntKind.i64 n, Value.slice (some ⟨w.heap.size, 0, none⟩) l cap1] 78)) w.heap.size (some ⟨w1.heap.size, 0, none⟩) 1 1 [(3, (n : Int), s)]) := by
  refine ⟨rfl, [(3, (n : Int), some ⟨w.heap.size, 0, none⟩, l, cap1)], rfl, ⟨rfl, .inr ⟨w1.heap.size, 1, _, rfl, hb1.size, heap_alloc_new w1 _, Nat.le_refl _, by decide, rfl, rfl⟩⟩, fun i hi => ?_, fun i hi h => ?_, fun i j hi hj h => ?_⟩
  ·obtain rfl : i = 0 := by simp at hi; omega
   exact ⟨rfl, rfl, ht.below hbA⟩
  ·obtain rfl : i = 0 := by simp at hi; omega
   intro e
   have e2 : w.heap.size = w1.heap.size := congrArg Addr.block (Option.some.inj e); have h' : 0 < l := h
   omega
  ·simp at hi hj
   omega
 have HR : Hid (RowsIn w g dss) := hr; have HN : Hid (n = dss.length) := hn; clear hb1 ht hbA hlt1 el hr hn
 go_enter Tryz.func53, Tryz.ntmps53
 go_wp2_with fail
 go_loopw [5, 6] (fun r i wr => ∃ (j : Nat) (q : Option Addr) (m cr : Nat), j ≤ n ∧ m ≤ 1 + j * 100000 ∧ i = .int .i64 j ∧ r = .slice q m cr ∧ Hid (OwnC wr w.heap.size q m cr ((3, (n : Int), s) :: (dss.take j).flatten)) ∧ Hid (Below w.heap.size w wr)) (fun _ i _ => n - (intOf i).toNat)
 case atStart => exact ⟨0, _, 1, 1, Nat.zero_le _, by omega, rfl, rfl, HOA, HBA⟩
 case round =>
  obtain ⟨j, q, m, cr, hj, hm, rfl, rfl, HO, HB⟩ := hrel
  by_cases hlt : j < n
  ·have hjl : j < dss.length := by rw [← HN.out]; exact hlt
   obtain ⟨qi, ci, x0, x1, x2, x3⟩ := HR.out j hjl
   obtain ⟨li, eli⟩ : ∃ li, li = (dss.getD j []).length := ⟨_, rfl⟩
   rw [← eli] at x0 x2; have y0 := (HB.out.cell (World.block_lt_of_cell? _ _ x0)).trans x0; have HCP := l2copy_any qi li ci (dss.getD j []) wr eli (by omega) (x1.below HB.out); have HLI : Hid (li = (dss.getD j []).length) := eli
   have hli : li ≤ 100000 := by omega
   have HTK : Hid ((dss.take (j + 1)).flatten = (dss.take j).flatten ++ dss.getD j []) := by
    show _ = _
    rw [List.take_succ_eq_append_getElem hjl, List.flatten_append]
    simp [List.getD, hjl]
   have hBs : w.heap.size ≤ wr.heap.size := HB.out.size; clear x0 x1 x3 eli; go_wp2_with fail; refine HCP.mono ?_; rintro e w3 ⟨q3, m3, c3, rfl, ho3, hb3⟩; have HO3 : Hid (OwnC w3 wr.heap.size q3 m3 c3 (dss.getD j [])) := ho3; have HB3 : Hid (Below wr.heap.size wr w3) := hb3
   have HM3 : Hid (m3 = li) := by show _ = _; rw [ho3.1, HLI.out]
   have hm3 : 0 < m3 := by have := HM3.out; omega
   have hm3' : m3 ≤ 100000 := by have := HM3.out; omega
   clear ho3 hb3 HCP; go_wp2_with (at_builtin; refine app_cells wr w3 rfl _ _ rfl w.heap.size q m cr _ rfl HO.out HB3.out hBs q3 m3 c3 _ rfl HO3.out hm3 (by omega) ?_; intro g4 n4 cap4 w4 hown4 hb4 hn4)
   have HO4 : Hid (OwnC w4 w.heap.size (some ⟨g4, 0, none⟩) n4 cap4 ((3, (n : Int), s) :: (dss.take (j + 1)).flatten)) := by rw [HTK.out]; exact hown4
   have HB4 : Hid (Below w.heap.size w w4) := (Below.on HB.out HB3.out).trans hb4
   have hn4' : n4 ≤ 1 + (j + 1) * 100000 := by have := hn4.out; omega
   clear hown4 hb4; go_roundw
   case rel => exact ⟨j + 1, _, n4, cap4, by omega, hn4', by go_num, rfl, HO4, HB4⟩
   case measure => simp [intOf]; omega
  ·obtain rfl : j = n := by omega
   have HOF : Hid (OwnC wr w.heap.size q m cr ((3, (j : Int), s) :: dss.flatten)) := by have := HO.out; rwa [List.take_of_length_le (by rw [← HN.out]; exact Nat.le_refl _)] at this
   go_wp2_with fail; go_ret; exact ⟨_, _, _, rfl, HOF.out, HB.out⟩
theorem rows_one {w : World} {g c : Nat} {q : Option Addr} {ds : List Cel} (h : w.cell? ⟨g, 0, none⟩ = some (.slice q ds.length c)) (hc : CIn w q ds) (h0 : 0 < ds.length) (hl : ds.length + tl ds ≤ 100000) : RowsIn w g [ds] := fun j hj => by
 obtain rfl : j = 0 := by simp at hj; omega
 exact ⟨q, c, h, hc, h0, hl⟩
theorem rows_two {w : World} {g c c' : Nat} {q q' : Option Addr} {ds ds' : List Cel} (h : w.cell? ⟨g, 0, none⟩ = some (.slice q ds.length c)) (hc : CIn w q ds) (h0 : 0 < ds.length) (hl : ds.length + tl ds ≤ 100000)
 (h' : w.cell? ⟨g, 1, none⟩ = some (.slice q' ds'.length c')) (hc' : CIn w q' ds') (h0' : 0 < ds'.length) (hl' : ds'.length + tl ds' ≤ 100000) : RowsIn w g [ds, ds'] := fun j hj => by
 rcases (by simp at hj; omega : j = 0 ∨ j = 1) with rfl | rfl
 ·exact ⟨q, c, h, hc, h0, hl⟩
 ·exact ⟨q', c', h', hc', h0', hl'⟩
theorem l2pair_any (s : List Int) (hs : Byte s) (pa pb : Option Addr) (la lb ca cb : Nat) (da db : List Cel) (w : World) (hla : la = da.length) (hlb : lb = db.length) (ha : CIn w pa da) (hb : CIn w pb db) (ha0 : 0 < da.length) (hb0 : 0 < db.length) (hal : da.length + tl da ≤ 100000) (hbl : db.length + tl db ≤ 100000) :
 Calls Tryz.prog 52 #[.string (strOfNums s), .slice pa la ca, .slice pb lb cb] w fun e w' => ∃ q m c2, e = .returned (.slice q m c2) ∧ OwnC w' w.heap.size q m c2 ((3, 2, s) :: (da ++ db)) ∧ Below w.heap.size w w' := by
 have hAL : Below w.heap.size w (w.alloc (.cells #[.slice pa la ca, .slice pb lb cb] 46)) := (Below.refl _ _).alloc (Nat.le_refl _) _; have hnw := heap_alloc_new w (Obj.cells #[.slice pa la ca, .slice pb lb cb] 46); have HR := l2comp_any s hs w.heap.size 2 2 [da, db] (w.alloc (.cells #[.slice pa la ca, .slice pb lb cb] 46)) rfl (by decide) (rows_two (q := pa) (c := ca) (q' := pb) (c' := cb) (by rw [← hla]; exact cell_of_row _ _ 0 _ _ _ hnw) (ha.below hAL) ha0 hal (by rw [← hlb]; exact cell_of_row _ _ 1 _ _ _ hnw) (hb.below hAL) hb0 hbl); have HB : Hid (Below w.heap.size w (w.alloc (.cells #[.slice pa la ca, .slice pb lb cb] 46))) := hAL; clear ha hb hAL hnw hla hlb ha0 hb0 hal hbl
 go_enter Tryz.func52, Tryz.ntmps52
 go_wp2_with fail; refine HR.mono ?_; rintro e w2 ⟨q, m, c2, rfl, ho, hb2⟩
 have HO : Hid (OwnC w2 w.heap.size q m c2 ((3, 2, s) :: (da ++ db))) := by
  have := ho.mono HB.out.size
  show OwnC _ _ _ _ _ _
  simpa using this
 have HB2 : Hid (Below w.heap.size w w2) := Below.on HB.out hb2; clear ho hb2 HR; go_wp2_with fail; go_ret; exact ⟨_, _, _, rfl, HO.out, HB2.out⟩
end Go.Proofs.YtfgmenkoeflhaaaGreatDoor
