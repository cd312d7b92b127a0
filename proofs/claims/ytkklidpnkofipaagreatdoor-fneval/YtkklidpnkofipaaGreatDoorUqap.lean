/- Texts of FeC, FeD, FeE, FeF, FeG, FeH. Own work of the verifier. -/
import Derived.Test.YtkklidpnkofipaaGreatDoorUqao
import Derived.Test.YtkklidpnkofipaaGreatDoorUqah
namespace Go.Proofs.YtkklidpnkofipaaGreatDoor
set_option linter.unusedVariables false
set_option maxRecDepth 100000
section
open Go Go.RowKit
theorem great1_no (k n : Int) (tp : Option Addr) (tn tc : Nat) (w : World) (h : tn ≤ 100) :
  Calls Tryz.prog 263 #[.agg #[.int .i64 k, .int .i64 n, .slice tp tn tc]] w fun e w' => e = .returned (.bool false) ∧ Below w.heap.size w w' := by
 have hb : Hid (Below w.heap.size w (w.alloc (.cells #[.int .i64 k, .int .i64 n, .slice tp tn tc] 63))) := (Below.refl _ _).alloc (Nat.le_refl _) _; have hd : decide ((100 : Int) < (tn : Int)) = false := decide_eq_false (by omega)
 go_enter Tryz.func263, Tryz.ntmps263
 go_wp2_with fail; go_ret; exact ⟨rfl, hb.out⟩
set_option maxHeartbeats 1000000 in
theorem indexC_no (p : Option Addr) (n cap : Nat) (cs : List Cel) (w : World) (en : n = cs.length) (hl : n ≤ 2000) (ht : ∀ i, i < cs.length → (cs.getD i Cel.none).2.2.length ≤ 100) (hc : CIn w p cs) :
  Calls Tryz.prog 292 #[.slice p n cap, .func (.func 263) #[] #[]] w fun e w' => e = .returned (.int .i64 (-1)) ∧ Below w.heap.size w w' := by
 have HC : Hid (CIn w p cs) := hc; have HT : Hid (∀ i, i < cs.length → (cs.getD i Cel.none).2.2.length ≤ 100) := ht; have EN : Hid (n = cs.length) := en; clear hc ht en
 go_enter Tryz.func292, Tryz.ntmps292
 go_wp2_with fail
 go_loopw [8] (fun i wr => ∃ (j : Nat), j ≤ n ∧ i = .int .i64 j ∧ Hid (Below w.heap.size w wr)) (fun i _ => n - (intOf i).toNat)
 case atStart => exact ⟨0, Nat.zero_le _, rfl, Below.refl _ _⟩
 case round =>
  obtain ⟨j, hj, rfl, HB⟩ := hrel
  by_cases hlt : j < n
  ·have hjD : j < cs.length := by have := EN.out; omega
   obtain ⟨b, o, rfl, hcd⟩ := HC.out.below HB.out (by omega); obtain ⟨q, qc, x0, x1, x2, x3⟩ := hcd j hjD; have hx := HT.out j hjD
   obtain ⟨⟨k0, n0, s0⟩, ec⟩ : ∃ c0, c0 = cs.getD j Cel.none := ⟨_, rfl⟩
   rw [← ec] at x0 x1 x2 hx
   obtain ⟨l, el⟩ : ∃ l, l = s0.length := ⟨_, rfl⟩
   have HG := great1_no k0 n0 q l qc wr (by rw [el]; exact hx)
   replace x2 : wr.cell? ⟨b, o + j * 3 + 2, none⟩ = some (.slice q l qc) := by rw [el]; exact x2
   replace x0 : wr.cell? ⟨b, o + j * 3, none⟩ = some (.int .i64 k0) := x0
   replace x1 : wr.cell? ⟨b, o + j * 3 + 1, none⟩ = some (.int .i64 n0) := x1
   clear x3 hcd hx ec el; go_wp2_with fail; refine HG.mono ?_; rintro e w1 ⟨rfl, hb⟩; have HB1 : Hid (Below w.heap.size w w1) := Below.on HB.out hb; clear hb HG x0 x1 x2; go_wp2_with fail; go_roundw
   case rel => exact ⟨j + 1, by omega, by go_num, HB1⟩
   case measure => simp [intOf]; omega
  ·obtain rfl : j = n := by omega
   go_wp2_with fail; go_ret; exact ⟨rfl, HB.out⟩
theorem containsC_no (p : Option Addr) (n cap : Nat) (cs : List Cel) (w : World) (en : n = cs.length) (hl : n ≤ 2000) (ht : ∀ i, i < cs.length → (cs.getD i Cel.none).2.2.length ≤ 100) (hc : CIn w p cs) :
  Calls Tryz.prog 262 #[.slice p n cap, .func (.func 263) #[] #[]] w fun e w' => e = .returned (.bool false) ∧ Below w.heap.size w w' := by
 have HI := indexC_no p n cap cs w en hl ht hc; clear en ht hc
 go_enter Tryz.func262, Tryz.ntmps262
 go_wp2_with fail; refine HI.mono ?_; rintro e w1 ⟨rfl, hb⟩; have HB : Hid (Below w.heap.size w w1) := hb; clear hb HI; go_wp2_with fail; go_ret; exact ⟨rfl, HB.out⟩
theorem great_no (p : Option Addr) (n cap : Nat) (cs : List Cel) (w : World) (en : n = cs.length) (hl : n ≤ 2000) (ht : ∀ i, i < cs.length → (cs.getD i Cel.none).2.2.length ≤ 100) (hc : CIn w p cs) :
  Calls Tryz.prog 208 #[.slice p n cap] w fun e w' => e = .returned (.bool false) ∧ Below w.heap.size w w' := by
 have HI := containsC_no p n cap cs w en hl ht hc; have hd : decide ((2000 : Int) < (n : Int)) = false := decide_eq_false (by omega); clear en ht hc
 go_enter Tryz.func208, Tryz.ntmps208
 go_wp2_with fail; refine HI.mono ?_; rintro e w1 ⟨rfl, hb⟩; have HB : Hid (Below w.heap.size w w1) := hb; clear hb HI; go_wp2_with fail; go_ret; exact ⟨rfl, HB.out⟩
theorem beyond1_no (c : Cel) (k : Fo) (v : Value) (Bt : Nat) (w : World) (hok : (Fo.node c k .nil).ok) (hfo : FoIn w Bt (.node c k .nil) [v]) (hl : k.cells.length + 1 ≤ 2000) (ht : ∀ x ∈ c :: k.cells, x.2.2.length ≤ 100) :
  Calls Tryz.prog 207 #[v] w fun e w' => e = .returned (.bool false) ∧ Below w.heap.size w w' := by
 have HCO := cellsOf_any c k v Bt w hok hfo (by omega)
 have HT : Hid (∀ i, i < (c :: k.cells).length → ((c :: k.cells).getD i Cel.none).2.2.length ≤ 100) := fun i hi => by
  rw [List.getD, List.getElem?_eq_getElem hi]; exact ht _ (List.getElem_mem hi)
 have HL : Hid ((c :: k.cells).length ≤ 2000) := by show _ ≤ _; simpa using hl
 obtain ⟨vt, vx, rfl⟩ := hfo.iface; clear hok hfo hl ht
 go_enter Tryz.func207, Tryz.ntmps207
 go_wp2_with fail; refine HCO.mono ?_; rintro e w1 ⟨q, m, cp, rfl, ho, hb⟩; have HB : Hid (Below w.heap.size w w1) := hb; have HG := great_no q m cp (c :: k.cells) w1 ho.1 (by rw [ho.1]; exact HL.out) HT.out ho.cin; clear ho hb HCO; go_wp2_with fail; refine HG.mono ?_; rintro e w2 ⟨rfl, hb2⟩; have HB2 : Hid (Below w.heap.size w w2) := Below.on HB.out hb2; clear hb2 HG; go_wp2_with fail; go_ret; exact ⟨rfl, HB2.out⟩
def SmallT (w : World) (p : Option Addr) (n : Nat) : Prop := ∀ i, i < n → ∃ g t x, p = some ⟨g, 0, none⟩ ∧ w.cell? ⟨g, i, none⟩ = some (.iface t x) ∧ ∀ W, Below w.heap.size w W → Calls Tryz.prog 207 #[.iface t x] W fun e w' => e = .returned (.bool false) ∧ Below W.heap.size W w'
set_option maxHeartbeats 1000000 in
theorem indexT_no (p : Option Addr) (n cap : Nat) (w : World) (hl : n ≤ 3) (hs : SmallT w p n) :
  Calls Tryz.prog 250 #[.slice p n cap, .func (.func 207) #[] #[]] w fun e w' => e = .returned (.int .i64 (-1)) ∧ Below w.heap.size w w' := by
 have HS : Hid (SmallT w p n) := hs; clear hs
 go_enter Tryz.func250, Tryz.ntmps250
 go_wp2_with fail
 go_loopw [8] (fun i wr => ∃ (j : Nat), j ≤ n ∧ i = .int .i64 j ∧ Hid (Below w.heap.size w wr)) (fun i _ => n - (intOf i).toNat)
 case atStart => exact ⟨0, Nat.zero_le _, rfl, Below.refl _ _⟩
 case round =>
  obtain ⟨j, hj, rfl, HB⟩ := hrel
  by_cases hlt : j < n
  ·obtain ⟨g, t, x, rfl, hc, hC⟩ := HS.out j hlt
   have HC := hC wr HB.out; have hc1 := (HB.out.cell (World.block_lt_of_cell? _ _ hc)).trans hc; clear hC hc; go_wp2_with fail; refine HC.mono ?_; rintro e w1 ⟨rfl, hb⟩; have HB1 : Hid (Below w.heap.size w w1) := Below.on HB.out hb; clear hb HC hc1; go_wp2_with fail; go_roundw
   case rel => exact ⟨j + 1, by omega, by go_num, HB1⟩
   case measure => simp [intOf]; omega
  ·obtain rfl : j = n := by omega
   go_wp2_with fail; go_ret; exact ⟨rfl, HB.out⟩
theorem containsT_no (p : Option Addr) (n cap : Nat) (w : World) (hl : n ≤ 3) (hs : SmallT w p n) :
  Calls Tryz.prog 191 #[.slice p n cap, .func (.func 207) #[] #[]] w fun e w' => e = .returned (.bool false) ∧ Below w.heap.size w w' := by
 have HI := indexT_no p n cap w hl hs; clear hs
 go_enter Tryz.func191, Tryz.ntmps191
 go_wp2_with fail; refine HI.mono ?_; rintro e w1 ⟨rfl, hb⟩; have HB : Hid (Below w.heap.size w w1) := hb; clear hb HI; go_wp2_with fail; go_ret; exact ⟨rfl, HB.out⟩
theorem terms_none (w : World) : Calls Tryz.prog 206 #[noEf] w fun e w' => e = .returned (.slice none 0 0) ∧ Below w.heap.size w w' := by
 have hb : Hid (Below w.heap.size w (w.alloc (.cells #[.slice none 0 0, .nilIface, .slice none 0 0] 86))) := (Below.refl _ _).alloc (Nat.le_refl _) _
 go_enter Tryz.func206, Tryz.ntmps206
 go_wp2_with fail; refine wp_loop_rounds 1 ?_; rw [rounds_succ]; go_wp2_with fail; go_ret; exact ⟨rfl, hb.out⟩
theorem beyond_no (ps fl ou : Value) (w : World) (HT : ∀ W, Below w.heap.size w W → Calls Tryz.prog 206 #[.agg #[ps, fl, ou]] W fun e w' => ∃ p n cap, e = .returned (.slice p n cap) ∧ n ≤ 3 ∧ SmallT w' p n ∧ Below W.heap.size W w') (h0 : ps.oneCell' = true) (h1 : fl.oneCell' = true) (h2 : ou.oneCell' = true) :
  Calls Tryz.prog 113 #[.agg #[ps, fl, ou]] w fun e w' => e = .returned (.bool false) ∧ Below w.heap.size w w' := by
 have hb : Below w.heap.size w (w.alloc (.cells #[ps, fl, ou] 86)) := (Below.refl _ _).alloc (Nat.le_refl _) _; have HX := HT _ hb; have HB : Hid (Below w.heap.size w (w.alloc (.cells #[ps, fl, ou] 86))) := hb; clear hb HT
 go_enter Tryz.func113, Tryz.ntmps113
 go_wp2_with fail; refine HX.mono ?_; rintro e w1 ⟨p, n, cap, rfl, hn, hs, hb1⟩; have HB1 : Hid (Below w.heap.size w w1) := Below.on HB.out hb1; have HC := containsT_no p n cap w1 hn hs; clear hs hb1 HX; go_wp2_with fail; refine HC.mono ?_; rintro e w2 ⟨rfl, hb2⟩; have HB2 : Hid (Below w.heap.size w w2) := Below.on HB1.out hb2; clear hb2 HC; go_wp2_with fail; go_ret; exact ⟨rfl, HB2.out⟩
theorem app_tmN (w : World) {ops : Array Oper} {rest : List Oper} {o : Oper} {a : Act} {Q : Exit → Act → World → Prop} (hgd : o.guard = none) (s x : Operand)
  (ho : o.op = .call { callee := .builtin .append, args := #[s, x], argTypes := #[81, 81] }) (ys : List Value) (b m cb : Nat)
  (hs : a.eval s = .slice none 0 0) (hx : a.eval x = .slice (some ⟨b, 0, none⟩) m cb) (hm : m = ys.length) (hy : ∀ u ∈ ys, ∃ t v, u = .iface t v) (hc : ∀ j, j < m → w.cell? ⟨b, j, none⟩ = some (ys.getD j .nilIface)) (h0 : 0 < m) (hlen : m ≤ 1000)
  (h : ∀ g n' cap w', Hid (n' = m ∧ ∀ j, j < m → w'.cell? ⟨g, j, none⟩ = some (ys.getD j .nilIface)) → Below w.heap.size w w' → wpList Tryz.prog ops Q rest (a.put o.dst (.slice (some ⟨g, 0, none⟩) n' cap)) w') : wpList Tryz.prog ops Q (o :: rest) a w := by
 obtain ⟨i0, hi, hz0, hz1, hz2⟩ := info_parts infoTerm
 have hown : w.ownsRow w.heap.size 54 1 (.slice none 0 0) 0 [] := ⟨rfl, .inl ⟨rfl, rfl⟩⟩
 refine wpList_append_lies _ hgd s x 81 ho w.heap.size 54 i0 .nilIface 1 16 Tryz.underlying81 hi hz0 hz1 hz2 rfl (by decide) (.slice none 0 0) 0 [] hs hown ⟨b, 0, none⟩ m cb ys hx (by omega) (fun j u hj => ?_) (fun u hu => ?_) h0 (by unfold maxLen; omega) (by omega) (Nat.le_refl _) _ rfl ?_
 ·have hl := (List.getElem?_eq_some_iff.1 hj).1
  rw [show (⟨b, 0, none⟩ : Addr).add j = ⟨b, j, none⟩ from by simp [Addr.add]; omega, hc j (by omega)]; rw [List.getD, hj]
  rfl
 ·obtain ⟨t, v, rfl⟩ := hy u hu
  rfl
 ·intro g cap w' hown' hgrow hat hlt
  refine h g _ cap w' ⟨by simp, fun j hj => ?_⟩ ((Below.refl _ _).grown hgrow (Nat.le_refl _) (fun k hk => (hown.lt k hk).1)); rw [hown'.cellAt j (by omega)]
  simp [List.getD, List.getElem?_eq_getElem (show j < ys.length by omega)]
set_option maxHeartbeats 1000000 in
theorem terms_fault (t : TypeId) (x : Value) (w : World) : Calls Tryz.prog 206 #[.agg #[.slice none 0 0, .iface t x, .slice none 0 0]] w fun e w' => ∃ g cap, e = .returned (.slice (some ⟨g, 0, none⟩) 1 cap) ∧ w'.cell? ⟨g, 0, none⟩ = some (.iface t x) ∧ Below w.heap.size w w' := by
 obtain ⟨w1, e1⟩ : ∃ w1, w1 = w.alloc (.cells #[.slice none 0 0, .iface t x, .slice none 0 0] 86) := ⟨_, rfl⟩
 have HB1 : Hid (Below w.heap.size w w1) := by rw [e1]; exact (Below.refl _ _).alloc (Nat.le_refl _) _
 have HC : Hid ((w1.alloc (.cells #[.iface t x] 54)).cell? ⟨w1.heap.size, 0, none⟩ = some (.iface t x)) := cell_of_row _ _ 0 _ _ _ (heap_alloc_new w1 _)
 have HJ : Hid (∀ j, j < 1 → (w1.alloc (.cells #[.iface t x] 54)).cell? ⟨w1.heap.size, j, none⟩ = some ([Value.iface t x].getD j .nilIface)) := fun j hj => by
  obtain rfl : j = 0 := by omega
  exact HC.out
 have HB2 : Hid (Below w.heap.size w (w1.alloc (.cells #[.iface t x] 54))) := HB1.out.alloc HB1.out.size _
 have hs1 : w1.heap.size = w.heap.size + 1 := by rw [e1]; simp
 go_enter Tryz.func206, Tryz.ntmps206
 go_wp2_with fail; refine wp_loop_rounds 1 ?_; rw [rounds_succ]; go_wp2_with (at_builtin; rw [← e1, ← hs1]; refine app_tmN _ rfl _ _ rfl [.iface t x] w1.heap.size 1 1 rfl rfl rfl (fun u hu => by simp at hu; exact ⟨_, _, hu⟩) HJ.out (by decide) (by decide) ?_; intro g n' cap w' hH hb'); obtain ⟨rfl, hcc⟩ := hH.out
 have FIN : Hid (w'.cell? ⟨g, 0, none⟩ = some (.iface t x) ∧ Below w.heap.size w w') := ⟨hcc 0 (by decide), Below.on HB2.out hb'⟩
 clear hH hcc hb'; go_wp2_with fail; go_ret; exact ⟨g, cap, rfl, FIN.out⟩
set_option maxHeartbeats 1000000 in
theorem terms_pair (g0 : Nat) (ta tb : TypeId) (a b : Value) (w : World) (h0 : w.cell? ⟨g0, 0, none⟩ = some (.iface ta a)) (h1 : w.cell? ⟨g0, 1, none⟩ = some (.iface tb b)) : Calls Tryz.prog 206 #[.agg #[.slice (some ⟨g0, 0, none⟩) 1 1, .nilIface, .slice none 0 0]] w fun e w' => ∃ g cap, e = .returned (.slice (some ⟨g, 0, none⟩) 2 cap) ∧ w'.cell? ⟨g, 0, none⟩ = some (.iface ta a) ∧ w'.cell? ⟨g, 1, none⟩ = some (.iface tb b) ∧ Below w.heap.size w w' := by
 have hb1 : Below w.heap.size w (w.alloc (.cells #[.slice (some ⟨g0, 0, none⟩) 1 1, .nilIface, .slice none 0 0] 86)) := (Below.refl _ _).alloc (Nat.le_refl _) _; have p0 := (hb1.cell (World.block_lt_of_cell? _ _ h0)).trans h0; have p1 := (hb1.cell (World.block_lt_of_cell? _ _ h1)).trans h1
 obtain ⟨w1, e1⟩ : ∃ w1, w1 = w.alloc (.cells #[.slice (some ⟨g0, 0, none⟩) 1 1, .nilIface, .slice none 0 0] 86) := ⟨_, rfl⟩
 obtain ⟨w2, e2⟩ : ∃ w2, w2 = w1.alloc (.cells #[.iface ta a, .iface tb b] 141) := ⟨_, rfl⟩
 have hs1 : w1.heap.size = w.heap.size + 1 := by rw [e1]; simp
 have hb2 : Below w1.heap.size w1 w2 := by rw [e2]; exact (Below.refl _ _).alloc (Nat.le_refl _) _
 have hn : w2.heap[w.heap.size + 1]? = some (.cells #[.iface ta a, .iface tb b] 141) := by rw [e2, ← hs1]; exact heap_alloc_new _ _
 have HJ : Hid (∀ j, j < 2 → w2.cell? ⟨w.heap.size + 1, j, none⟩ = some ([Value.iface ta a, Value.iface tb b].getD j .nilIface)) := fun j hj => by
  rcases (by omega : j = 0 ∨ j = 1) with rfl | rfl
  ·exact cell_of_row _ _ 0 _ _ _ hn
  ·exact cell_of_row _ _ 1 _ _ _ hn
 have hf : w2.cell? ⟨w.heap.size, 1, none⟩ = some .nilIface := by
  rw [hb2.cell (p := ⟨w.heap.size, 1, none⟩) (by show w.heap.size < _; omega), e1, World.cell?, heap_alloc_new]; rfl
 have HF : Hid (w2.cell? ⟨w.heap.size, 1, none⟩ = some .nilIface) := hf; rw [← e1] at hb1; have HB2 : Hid (Below w.heap.size w w2) := Below.on hb1 hb2
 have HY : Hid (∀ u ∈ [Value.iface ta a, Value.iface tb b], ∃ t v, u = .iface t v) := fun u hu => by
  simp at hu
  rcases hu with rfl | rfl
  ·exact ⟨_, _, rfl⟩
  ·exact ⟨_, _, rfl⟩
 rw [e1] at e2; clear h0 h1 hb1 hb2 e1 hs1 hn hf
 go_enter Tryz.func206, Tryz.ntmps206
 go_wp2_with fail; refine wp_loop_rounds 2 ?_; rw [rounds_succ]; go_wp2_with (at_builtin; rw [← e2]; clear e2 p0 p1; refine app_tmN w2 rfl _ _ rfl [.iface ta a, .iface tb b] (w.heap.size + 1) 2 2 rfl rfl rfl HY.out HJ.out (by decide) (by decide) ?_; intro g n' cap w' hH hb'); obtain ⟨rfl, hcc⟩ := hH.out
 have FIN : Hid (w'.cell? ⟨g, 0, none⟩ = some (.iface ta a) ∧ w'.cell? ⟨g, 1, none⟩ = some (.iface tb b) ∧ Below w.heap.size w w') := ⟨hcc 0 (by decide), hcc 1 (by decide), Below.on HB2.out hb'⟩
 have f1 := (hb'.cell (World.block_lt_of_cell? _ _ HF.out)).trans HF.out; clear hH hcc hb'; go_wp2_with fail; rw [rounds_succ]; go_wp2_with fail; go_ret; exact ⟨g, cap, rfl, FIN.out⟩
def sErr : List Int := [101, 114, 114, 111, 114]
def errT (t : Tr) (s : List Int) (n : Int) : Tr := ((3, 2, sErr), .node t.1 t.2 (indT s n).fo)
set_option maxHeartbeats 4000000 in
theorem from_parts (t : Tr) (s : List Int) (n : Int) (B : Nat) (tv : Value) (w : World) (hB : B ≤ w.heap.size) (ht : FoIn w B t.fo [tv]) :
  Calls Tryz.prog 112 #[.agg #[tv], .agg #[.string (strOfNums s), .int .i64 n]] w fun e w' => ∃ b g it ix, e = .returned (.iface 163 (.pointer (some ⟨b, 0, none⟩))) ∧ w.heap.size ≤ b ∧ w.heap.size ≤ g ∧ b < w'.heap.size ∧ g < w'.heap.size ∧ w'.cell? ⟨b, 0, none⟩ = some (.string (strOfNums sErr)) ∧ w'.cell? ⟨b, 1, none⟩ = some (.slice (some ⟨g, 0, none⟩) 2 2) ∧ w'.cell? ⟨g, 0, none⟩ = some tv ∧ w'.cell? ⟨g, 1, none⟩ = some (.iface it ix) ∧ FoIn w' w.heap.size (indT s n).fo [.iface it ix] ∧ Below w.heap.size w w' := by
 obtain ⟨vt, vx, rfl⟩ := FoIn.iface (c := t.1) (k := t.2) (r := .nil) ht
 obtain ⟨w1, e1⟩ : ∃ w1, w1 = w.alloc (.cells #[.iface vt vx] 57) := ⟨_, rfl⟩
 obtain ⟨w2, e2⟩ : ∃ w2, w2 = w1.alloc (.cells #[.string (strOfNums s), .int .i64 n] 76) := ⟨_, rfl⟩
 have hs1 : w1.heap.size = w.heap.size + 1 := by rw [e1]; simp
 have hb1 : Below w.heap.size w w1 := by rw [e1]; exact (Below.refl _ _).alloc (Nat.le_refl _) _
 have hb2 : Below w1.heap.size w1 w2 := by rw [e2]; exact (Below.refl _ _).alloc (Nat.le_refl _) _
 have hn : w2.heap[w.heap.size + 1]? = some (.cells #[.string (strOfNums s), .int .i64 n] 76) := by rw [e2, ← hs1]; exact heap_alloc_new _ _
 have hc0 : w2.cell? ⟨w.heap.size, 0, none⟩ = some (.iface vt vx) := by
  rw [hb2.cell (p := ⟨w.heap.size, 0, none⟩) (by show w.heap.size < _; omega), e1]; exact cell_of_row _ _ 0 _ _ _ (heap_alloc_new _ _)
 have hc1 := cell_of_row _ _ 0 _ _ _ hn; have hc2 := cell_of_row _ _ 1 _ _ _ hn; have hB2 : Below w.heap.size w w2 := Below.on hb1 hb2
 have HI : Hid (∀ k, Calls Tryz.prog 205 #[.agg #[.string (strOfNums s), .int .i64 n]] (w2.drewN k) fun e w' => ∃ tv, e = .returned tv ∧ FoIn w' (w2.drewN k).heap.size (indT s n).fo [tv] ∧ Below (w2.drewN k).heap.size (w2.drewN k) w') := fun k => indicator_any s n _
 have HC : Hid (w2.cell? ⟨w.heap.size, 0, none⟩ = some (.iface vt vx)) := hc0
 have HT : Hid (∀ W, Below w.heap.size w W → FoIn W B t.fo [.iface vt vx]) := fun W hW => ht.below hW
 have HB : Hid (∀ k, Below w.heap.size w (w2.drewN k)) := fun k => below_drewN hB2 k
 have HBB : Hid (B ≤ w.heap.size) := hB; have tok0 : True := trivial; rw [e1] at e2; have hx0 := hc0; have hx1 := hc1; have hx2 := hc2; clear hs1 hb1 hb2 hn e1 ht hB2
 go_enter Tryz.func112, Tryz.ntmps112
 go_wp2_with fail; rw [← e2]; clear e2
 have hS : w2.cell? ⟨w.heap.size, 0, none⟩ = some (.iface vt vx) ∧ w2.cell? ⟨w.heap.size + 1, 0, none⟩ = some (.string (strOfNums s)) ∧ w2.cell? ⟨w.heap.size + 1, 1, none⟩ = some (.int .i64 n) := ⟨hc0, hc1, hc2⟩
 go_region_held3 (fun W => W.cell? ⟨w.heap.size, 0, none⟩ = some (.iface vt vx) ∧ W.cell? ⟨w.heap.size + 1, 0, none⟩ = some (.string (strOfNums s)) ∧ W.cell? ⟨w.heap.size + 1, 1, none⟩ = some (.int .i64 n)) (first | exact kk | exact hS | go_keep)
  (first
    | (have _t := tok0; go_at_call 205; refine Calls.mono (HI.out 1) ?_; rintro e w4 ⟨iv, rfl, hf4, hb4⟩; obtain ⟨it, ix, rfl⟩ := FoIn.iface (c := (indT s n).1) (k := (indT s n).2) (r := .nil) hf4; have kk : w4.cell? ⟨w.heap.size, 0, none⟩ = some (.iface vt vx) ∧ w4.cell? ⟨w.heap.size + 1, 0, none⟩ = some (.string (strOfNums s)) ∧ w4.cell? ⟨w.heap.size + 1, 1, none⟩ = some (.int .i64 n) := ⟨(hb4.cell (World.block_lt_of_cell? _ _ hc0)).trans hc0, (hb4.cell (World.block_lt_of_cell? _ _ hc1)).trans hc1, (hb4.cell (World.block_lt_of_cell? _ _ hc2)).trans hc2⟩; have HF4 : Hid (FoIn w4 (w2.drewN 1).heap.size (indT s n).fo [.iface it ix]) := hf4; have HB4 : Hid (Below w.heap.size w w4) := Below.on (HB.out 1) hb4; clear hf4 hb4 tok0))
 rename_i hheld
 clear hheld; clear kk hx0 hx1 hx2 hc0 hc1 hc2 hS
 obtain ⟨w5, e5⟩ : ∃ w5, w5 = w4.alloc (.cells #[.iface vt vx, .iface it ix] 54) := ⟨_, rfl⟩
 obtain ⟨w6, e6⟩ : ∃ w6, w6 = w5.alloc (.cells #[.string ⟨#[101, 114, 114, 111, 114]⟩, .slice (some ⟨w4.heap.size, 0, none⟩) 2 2] 167) := ⟨_, rfl⟩
 have hs5 : w5.heap.size = w4.heap.size + 1 := by rw [e5]; simp
 have hb5 : Below w4.heap.size w4 w5 := by rw [e5]; exact (Below.refl _ _).alloc (Nat.le_refl _) _
 have hb6 : Below w5.heap.size w5 w6 := by rw [e6]; exact (Below.refl _ _).alloc (Nat.le_refl _) _
 have h5 : w6.heap[w4.heap.size]? = some (.cells #[.iface vt vx, .iface it ix] 54) := (hb6.block _ (by omega)).trans (by rw [e5]; exact heap_alloc_new _ _)
 have h6 : w6.heap[w4.heap.size + 1]? = some (.cells #[.string ⟨#[101, 114, 114, 111, 114]⟩, .slice (some ⟨w4.heap.size, 0, none⟩) 2 2] 167) := by rw [e6, ← hs5]; exact heap_alloc_new _ _
 have hW : Below w4.heap.size w4 w6 := Below.on hb5 hb6; have hB6 : Below w.heap.size w w6 := Below.on HB4.out hW; have hsz := HB4.out.size; have hBB := HBB.out
 have FIN : Hid (w.heap.size ≤ w4.heap.size + 1 ∧ w.heap.size ≤ w4.heap.size ∧ w4.heap.size + 1 < w6.heap.size ∧ w4.heap.size < w6.heap.size ∧ w6.cell? ⟨w4.heap.size + 1, 0, none⟩ = some (.string (strOfNums sErr)) ∧ w6.cell? ⟨w4.heap.size + 1, 1, none⟩ = some (.slice (some ⟨w4.heap.size, 0, none⟩) 2 2) ∧ w6.cell? ⟨w4.heap.size, 0, none⟩ = some (.iface vt vx) ∧ w6.cell? ⟨w4.heap.size, 1, none⟩ = some (.iface it ix) ∧ FoIn w6 w.heap.size (indT s n).fo [.iface it ix] ∧ Below w.heap.size w w6) :=
  ⟨by omega, by omega, (Array.getElem?_eq_some_iff.1 h6).1, (Array.getElem?_eq_some_iff.1 h5).1, cell_of_row _ _ 0 _ _ _ h6, cell_of_row _ _ 1 _ _ _ h6, cell_of_row _ _ 0 _ _ _ h5, cell_of_row _ _ 1 _ _ _ h5, (FoIn.below HF4.out hW).mono (HB.out 1).size, hB6⟩
 rw [e5] at e6; rw [← e6]; clear hs5 hb5 hb6 h5 h6 hW hB6 hsz hBB e5 e6; go_wp2_with fail; go_ret; exact ⟨_, _, it, ix, rfl, FIN.out⟩
end
section
open Go Go.RowKit
set_option linter.unusedSimpArgs false
theorem BuIn.getE {w : World} {b N : Nat} {T : Fun → Option Nat} (h : BuIn w b N T) (f : Fun) (hf : okN f) {K : Nat} (hK : T f = some K) :
  (Instr.lookup 73 (.map (some b)) (.agg #[.string f.1, .int .i64 f.2]) false).run Tryz.prog w = .ok (.func (.func K) #[] #[]) w := by
 obtain ⟨D, hown, hT⟩ := h; obtain ⟨v, ps, hrun, hv⟩ := hown.lookup lawFun Tryz.underlying73 (zeroBu w) (zd := .held .nilFunc) (zp := []) rfl (keyFunN f hf); have h1 := hT f hf; simp only [heldN, Option.some.injEq, Prod.mk.injEq] at hv; have hv := hv.1; rw [hK] at h1; rw [h1.2] at hv; rw [hrun]
 cases hv
 rfl
theorem hStepS {P : Program} {ops : Array Oper} {Q : Exit → Act → World → Prop} {md : Region.Mode} {S : World → Prop} {i : Nat} {fuel : Nat} {listed : Array Bool} {a : Act} {w w' : World} (d : Option Tmp) (hd : (ops[i]?).map (·.dst) = some d)
  (hr : Region.ready md ops listed = [i]) (hw : (ops[i]?).map (fun o => Region.wanted o (yielded ops a.tmps)) = some true)
  (hrun : ∀ o, ops[i]? = some o → (execOp a.eval o).run P w = .ok .skip w') (hS : S w') (h : wpAnyH P md ops Q S fuel (listed.setIfInBounds i true) (a.put d undef) w') : wpAnyH P md ops Q S (fuel + 1) listed a w := by
 refine wpAnyH_all hr (by simp) ?_
 intro j hj
 obtain rfl : j = i := by simpa using hj
 cases hi : ops[j]? with
 | none => simp [hi] at hd
 | some o =>
   have hd' : o.dst = d := by simpa [hi] using hd
   have hw' : Region.wanted o (yielded ops a.tmps) = true := by simpa [hi] using hw
   subst hd'
   unfold wpOp
   simp only [hi, hw', if_true, Oper.wp, hrun o hi, Oper.upon]; exact .inl ⟨hS, h⟩
set_option maxHeartbeats 4000000 in
theorem run_fails (K b N : Nat) (nm : ByteArray) (ar : Int) (T : Fun → Option Nat) (c0 c1 c2 : Value) (a : Addr) (w : World) (hb : BuIn w b N T) (hk : okN (nm, ar)) (hT : T (nm, ar) = some K) (h0 : c0.oneCell' = true) (h1 : c1.oneCell' = true) (h2 : c2.oneCell' = true)
  (hg : w.cell? ⟨2, 0, none⟩ = some (erV a)) (hE : ∀ W : World, (callFunc K #[.agg #[c0, c1, c2]]).run Tryz.prog W = .ok (.enter K #[.agg #[c0, c1, c2]]) W)
  (HF : ∀ W, Below w.heap.size w W → Calls Tryz.prog K #[.agg #[c0, c1, c2]] W fun e w' => e = .returned (.tuple #[noEf, erV a]) ∧ Below W.heap.size W w') :
  Calls Tryz.prog 32 #[.map (some b), .agg #[.string nm, .int .i64 ar], .agg #[c0, c1, c2]] w fun e w' => e = .returned (.tuple #[noEf, .int .i64 4]) ∧ Below w.heap.size w w' := by
 have HL : Hid (∀ W, Below w.heap.size w W → (Instr.lookup 73 (.map (some b)) (.agg #[.string nm, .int .i64 ar]) false).run Tryz.prog W = .ok (.func (.func K) #[] #[]) W) := fun W hW => (hb.below hW).getE (nm, ar) hk hT
 obtain ⟨w1, e1⟩ : ∃ w1, w1 = w.alloc (.cells #[.string nm, .int .i64 ar] 76) := ⟨_, rfl⟩
 obtain ⟨w2, e2⟩ : ∃ w2, w2 = w1.alloc (.cells #[c0, c1, c2] 83) := ⟨_, rfl⟩
 obtain ⟨w3, e3⟩ : ∃ w3, w3 = w2.alloc (.cells #[.slice none 0 0, .nilIface, .slice none 0 0] 86) := ⟨_, rfl⟩
 have hs1 : w1.heap.size = w.heap.size + 1 := by rw [e1]; simp
 have hs2 : w2.heap.size = w.heap.size + 1 + 1 := by rw [e2, ← hs1]; simp
 have hb1 : Below w.heap.size w w1 := by rw [e1]; exact (Below.refl _ _).alloc (Nat.le_refl _) _
 have hb2 : Below w1.heap.size w1 w2 := by rw [e2]; exact (Below.refl _ _).alloc (Nat.le_refl _) _
 have hb3 : Below w2.heap.size w2 w3 := by rw [e3]; exact (Below.refl _ _).alloc (Nat.le_refl _) _
 have hB3 : Below w.heap.size w w3 := Below.on hb1 (Below.on hb2 hb3)
 have k1 : w3.heap[w.heap.size]? = some (.cells #[.string nm, .int .i64 ar] 76) := by rw [hb3.block _ (by omega), hb2.block _ (by omega), e1]; exact heap_alloc_new _ _
 have k2 : w3.heap[w.heap.size + 1]? = some (.cells #[c0, c1, c2] 83) := by rw [hb3.block _ (by omega), e2, ← hs1]; exact heap_alloc_new _ _
 have k3 : w3.heap[w.heap.size + 1 + 1]? = some (.cells #[.slice none 0 0, .nilIface, .slice none 0 0] 86) := by rw [e3, ← hs2]; exact heap_alloc_new _ _
 have HS : Hid (∀ W, Below w3.heap.size w3 W → W.cell? ⟨w.heap.size, 0, none⟩ = some (.string nm) ∧ W.cell? ⟨w.heap.size, 1, none⟩ = some (.int .i64 ar) ∧ W.cell? ⟨w.heap.size + 1, 0, none⟩ = some c0 ∧ W.cell? ⟨w.heap.size + 1, 1, none⟩ = some c1 ∧ W.cell? ⟨w.heap.size + 1, 2, none⟩ = some c2 ∧ Below w3.heap.size w3 W) := fun W hW => by
  have q1 := (hW.block _ (Array.getElem?_eq_some_iff.1 k1).1).trans k1; have q2 := (hW.block _ (Array.getElem?_eq_some_iff.1 k2).1).trans k2; exact ⟨cell_of_row _ _ 0 _ _ _ q1, cell_of_row _ _ 1 _ _ _ q1, cell_of_row _ _ 0 _ _ _ q2, cell_of_row _ _ 1 _ _ _ q2, cell_of_row _ _ 2 _ _ _ q2, hW⟩
 have HC : Hid (∀ W, Below w3.heap.size w3 W → Calls Tryz.prog K #[.agg #[c0, c1, c2]] W fun e w' => e = .returned (.tuple #[noEf, erV a]) ∧ Below W.heap.size W w') := fun W hW => HF W (Below.on hB3 hW)
 have HL3 : Hid (∀ W, Below w3.heap.size w3 W → (Instr.lookup 73 (.map (some b)) (.agg #[.string nm, .int .i64 ar]) false).run Tryz.prog W = .ok (.func (.func K) #[] #[]) W) := fun W hW => HL.out W (Below.on hB3 hW)
 have HG : Hid (∀ W, Below w3.heap.size w3 W → W.cell? ⟨2, 0, none⟩ = some (erV a)) := fun W hW => ((Below.on hB3 hW).cell (World.block_lt_of_cell? _ _ hg)).trans hg
 have HK3 : Hid (∀ W, Below w3.heap.size w3 W → W.heap[w.heap.size + 1 + 1]? = some (.cells #[.slice none 0 0, .nilIface, .slice none 0 0] 86)) := fun W hW => (hW.block _ (Array.getElem?_eq_some_iff.1 k3).1).trans k3
 have HB3 : Hid (Below w.heap.size w w3) := hB3; rw [e1] at e2; rw [e2] at e3; clear hg hB3 k3 hb hk hT e1 e2 hs1 hs2 hb1 hb2 hb3 k1 k2 HL HF
 go_enter Tryz.func32, Tryz.ntmps32
 go_wp2_with fail; rw [← e3]; clear e3; refine wp_region_held_drew (S := fun W => Below w3.heap.size w3 W) (by kernel_rfl) ?_ (fun hHeld => ?_)
 ·exact (Below.refl _ _).drew
 refine hTk (i := 0) (v := .map (some b)) (some 13) (fun o ho W hSw => ?y0) (by assumption) ?_
 case y0 => cases ho; simp [execOp, go_sem, Act.eval]
 simp only [Act.put, zzA, zzB, zzC]; refine hTk (i := 1) (v := .agg #[.string nm, .int .i64 ar]) (some 14) (fun o ho W hSw => ?y1) (by assumption) ?_
 case y1 => cases ho; obtain ⟨s0, s1, s2, s3, s4, s5⟩ := HS.out W hSw; simp [execOp, go_sem, Act.eval, s0, s1]
 simp only [Act.put, zzA, zzB, zzC]; refine hTk (i := 2) (v := .func (.func K) #[] #[]) (some 15) (fun o ho W hSw => ?y2) (by assumption) ?_
 case y2 =>
  cases ho
  have sL := HL3.out W hSw
  simp [execOp, go_sem, Act.eval, sL]
 simp only [Act.put, zzA, zzB, zzC]; refine hTk (i := 3) (v := .agg #[c0, c1, c2]) (some 16) (fun o ho W hSw => ?y3) (by assumption) ?_
 case y3 => cases ho; obtain ⟨s0, s1, s2, s3, s4, s5⟩ := HS.out W hSw; simp [execOp, go_sem, Act.eval, s2, s3, s4]
 simp only [Act.put, zzA, zzB, zzC]; refine hBoth (i := 4) (j := 8) (by kernel_rfl) ?zA ?zB
 case zA =>
  refine opCall (f := K) (args := #[.agg #[c0, c1, c2]]) (some 17) (by kernel_rfl) (by kernel_rfl) (fun o ho => ?cA) (HC.out _ (Below.refl _ _).drew) ?kA (fun ch w' h => by cases h.1) (fun w' h => by cases h.1)
  case cA => cases ho; simp [execOp, go_sem, Act.eval, hE]
  case kA =>
   rintro u w4 ⟨hu, hb4⟩; obtain rfl := Ending.returned.inj hu; have hB4 : Below w3.heap.size w3 w4 := (Below.refl _ _).drew.trans hb4; refine ⟨hB4, ?_⟩; simp only [Act.put, zzA, zzB, zzC]; refine hTk (i := 5) (v := .tuple #[noEf, erV a]) (some 12) (fun o ho W hSw => ?y20) (by assumption) ?_
   case y20 => cases ho; simp [execOp, go_sem, Act.eval]
   simp only [Act.put, zzA, zzB, zzC]; refine hTk (i := 6) (v := noEf) (some 18) (fun o ho W hSw => ?y21) (by assumption) ?_
   case y21 => cases ho; simp [execOp, go_sem, Act.eval]
   simp only [Act.put, zzA, zzB, zzC]; refine hTk (i := 7) (v := erV a) (some 19) (fun o ho W hSw => ?y22) (by assumption) ?_
   case y22 => cases ho; simp [execOp, go_sem, Act.eval]
   simp only [Act.put, zzA, zzB, zzC]; refine hStep (i := 8) (v := .pointer (some ⟨w4.heap.size, 0, none⟩)) (w' := w4.alloc (.cells #[.slice none 0 0, .nilIface, .slice none 0 0] 86)) (some 8) (by kernel_rfl) (by kernel_rfl) (by kernel_rfl) (fun o ho => ?y23) (hB4.alloc hB4.size _) ?_
   case y23 => cases ho; simp [execOp, go_sem, Act.eval]
   simp only [Act.put, zzA, zzB, zzC]
   obtain ⟨w5, e5⟩ : ∃ w5, w5 = w4.alloc (.cells #[.slice none 0 0, .nilIface, .slice none 0 0] 86) := ⟨_, rfl⟩
   have hB5 : Below w3.heap.size w3 w5 := by rw [e5]; exact hB4.alloc hB4.size _
   have HX : Box3 w5 w4.heap.size (.slice none 0 0) .nilIface (.slice none 0 0) := Box3.of_block (by rw [e5]; exact heap_alloc_new _ _)
   obtain ⟨T, eT⟩ : ∃ T, T = w4.heap.size := ⟨_, rfl⟩
   have hT : w3.heap.size ≤ T := by rw [eT]; exact hB4.size
   rw [← eT] at HX ⊢; rw [← e5]; have hB6 : Below w3.heap.size w3 (wr3 w5 T (.slice none 0 0) .nilIface (.slice none 0 0)) := wr3_below hB5 hT; refine hStepS (i := 9) (w' := wr3 w5 T (.slice none 0 0) .nilIface (.slice none 0 0)) none (by kernel_rfl) (by kernel_rfl) (by kernel_rfl) (fun o ho => ?y9) hB6 ?_
   case y9 => cases ho; obtain ⟨b0, b1, b2, b3⟩ := HX; simp [execOp, go_sem, Act.eval, b0, b1, b2, b3]
   simp only [Act.put, zzA, zzB, zzC]; refine hTk (i := 10) (v := erV a) (some 9) (fun o ho W hSw => ?y24) (by assumption) ?_
   case y24 => cases ho; simp [execOp, go_sem, Act.eval]
   simp only [Act.put, zzA, zzB, zzC]; refine wpAnyH_done (by kernel_rfl) ?_ _
   change Exit.then _ _ _ _ (wr3 w5 T (.slice none 0 0) .nilIface (.slice none 0 0))
   obtain ⟨w6, e6⟩ : ∃ w6, w6 = wr3 w5 T (.slice none 0 0) .nilIface (.slice none 0 0) := ⟨_, rfl⟩
   rw [← e6] at hB6; rw [← e6]; have hB7 : Below w3.heap.size w3 (w6.alloc (.cells #[.nilIface] 57)) := hB6.alloc hB6.size _; have g7 := HG.out _ hB7; have HX7 := Box3.of_block (HK3.out _ hB7); have HP : Hid _ := wr3_box HX7 (.slice none 0 0) .nilIface (.slice none 0 0); have HW : Hid (w.heap.size ≤ w3.heap.size) := HB3.out.size; have FIN : Hid (Below w.heap.size w (wr3 (w6.alloc (.cells #[.nilIface] 57)) (w.heap.size + 1 + 1) (.slice none 0 0) .nilIface (.slice none 0 0))) := wr3_below (Below.on HB3.out hB7) (by omega); clear hB6 hB7 hB5 hT HX e6; go_wp2_with fail; refine (is_same a _).mono ?_; rintro e w7 ⟨rfl, rfl⟩; obtain ⟨b0, b1, b2, b3⟩ := HX7; clear g7
   go_wp2
   obtain ⟨d0, d1, d2, _⟩ := HP.out; exact bodyPost_ret (v := .tuple #[noEf, .int .i64 4]) (by simp [results, Tryz.results32, go_sem, d0, d1, d2]) rfl ⟨rfl, FIN.out⟩
 case zB =>
  obtain ⟨w4, e4⟩ : ∃ w4, w4 = w3.drew.alloc (.cells #[.slice none 0 0, .nilIface, .slice none 0 0] 86) := ⟨_, rfl⟩
  have hB4 : Below w3.heap.size w3 w4 := by rw [e4]; exact ((Below.refl _ _).drew).alloc (Nat.le_refl _) _
  have HX4 : Box3 w4 w3.heap.size (.slice none 0 0) .nilIface (.slice none 0 0) := Box3.of_block (by rw [e4]; exact heap_alloc_new _ _)
  have hl4 : w3.heap.size < w4.heap.size := by rw [e4]; simp
  refine opStep (v := .pointer (some ⟨w3.heap.size, 0, none⟩)) (w' := w4) (some 8) (by kernel_rfl) (by kernel_rfl) (fun o ho => ?y8) ⟨hB4, ?_⟩
  case y8 =>
   cases ho
   rw [e4]
   simp [execOp, go_sem, Act.eval]
  simp only [Act.put, zzA, zzB, zzC]; refine hCallE (i := 4) (f := K) (args := #[.agg #[c0, c1, c2]]) (some 17) (by kernel_rfl) (by kernel_rfl) (by kernel_rfl) (fun o ho => ?c60) (HC.out w4 hB4) ?k60 (fun ch w' h => by cases h.1) (fun w' h => by cases h.1)
  case c60 => cases ho; simp [execOp, go_sem, Act.eval, hE]
  case k60 =>
   rintro u w5 ⟨hu, hb5⟩; obtain rfl := Ending.returned.inj hu; have hB5 : Below w3.heap.size w3 w5 := Below.on hB4 hb5; have HX := HX4.below hb5 hl4; have hT : w3.heap.size ≤ w3.heap.size := Nat.le_refl _; clear hb5 hB4 HX4 hl4 e4; refine ⟨hB5, ?_⟩; simp only [Act.put, zzA, zzB, zzC]; refine hTk (i := 5) (v := .tuple #[noEf, erV a]) (some 12) (fun o ho W hSw => ?y61) (by assumption) ?_
   case y61 => cases ho; simp [execOp, go_sem, Act.eval]
   simp only [Act.put, zzA, zzB, zzC]; refine hTk (i := 6) (v := noEf) (some 18) (fun o ho W hSw => ?y62) (by assumption) ?_
   case y62 => cases ho; simp [execOp, go_sem, Act.eval]
   simp only [Act.put, zzA, zzB, zzC]; refine hTk (i := 7) (v := erV a) (some 19) (fun o ho W hSw => ?y63) (by assumption) ?_
   case y63 => cases ho; simp [execOp, go_sem, Act.eval]
   simp only [Act.put, zzA, zzB, zzC]; have hB6 : Below w3.heap.size w3 (wr3 w5 w3.heap.size (.slice none 0 0) .nilIface (.slice none 0 0)) := wr3_below hB5 hT; refine hStepS (i := 9) (w' := wr3 w5 w3.heap.size (.slice none 0 0) .nilIface (.slice none 0 0)) none (by kernel_rfl) (by kernel_rfl) (by kernel_rfl) (fun o ho => ?y9) hB6 ?_
   case y9 => cases ho; obtain ⟨b0, b1, b2, b3⟩ := HX; simp [execOp, go_sem, Act.eval, b0, b1, b2, b3]
   simp only [Act.put, zzA, zzB, zzC]; refine hTk (i := 10) (v := erV a) (some 9) (fun o ho W hSw => ?y64) (by assumption) ?_
   case y64 => cases ho; simp [execOp, go_sem, Act.eval]
   simp only [Act.put, zzA, zzB, zzC]; refine wpAnyH_done (by kernel_rfl) ?_ _
   change Exit.then _ _ _ _ (wr3 w5 w3.heap.size (.slice none 0 0) .nilIface (.slice none 0 0))
   obtain ⟨w6, e6⟩ : ∃ w6, w6 = wr3 w5 w3.heap.size (.slice none 0 0) .nilIface (.slice none 0 0) := ⟨_, rfl⟩
   rw [← e6] at hB6; rw [← e6]; have hB7 : Below w3.heap.size w3 (w6.alloc (.cells #[.nilIface] 57)) := hB6.alloc hB6.size _; have g7 := HG.out _ hB7; have HX7 := Box3.of_block (HK3.out _ hB7); have HP : Hid _ := wr3_box HX7 (.slice none 0 0) .nilIface (.slice none 0 0); have HW : Hid (w.heap.size ≤ w3.heap.size) := HB3.out.size; have FIN : Hid (Below w.heap.size w (wr3 (w6.alloc (.cells #[.nilIface] 57)) (w.heap.size + 1 + 1) (.slice none 0 0) .nilIface (.slice none 0 0))) := wr3_below (Below.on HB3.out hB7) (by omega); clear hB6 hB7 hB5 hT HX e6; go_wp2_with fail; refine (is_same a _).mono ?_; rintro e w7 ⟨rfl, rfl⟩; obtain ⟨b0, b1, b2, b3⟩ := HX7; clear g7
   go_wp2
   obtain ⟨d0, d1, d2, _⟩ := HP.out; exact bodyPost_ret (v := .tuple #[noEf, .int .i64 4]) (by simp [results, Tryz.results32, go_sem, d0, d1, d2]) rfl ⟨rfl, FIN.out⟩
theorem wr3_heap {w : World} {T k : Nat} {x y z : Value} (h : k ≠ T) : (wr3 w T x y z).heap[k]? = w.heap[k]? := by
 have q : ∀ (W : World) (i : Nat) (v : Value), (W.setCell ⟨T, i, none⟩ v).heap[k]? = W.heap[k]? := fun W i v => heap_setCell_other W ⟨T, i, none⟩ k v (fun e => by simp at e; omega)
 exact (q _ _ _).trans ((q _ _ _).trans (q _ _ _))
def KeepF (lo : Nat) (w' V : World) : Prop := w'.heap.size ≤ V.heap.size ∧ ∀ k, lo ≤ k → k < w'.heap.size → V.heap[k]? = w'.heap[k]?
abbrev efV3 (p : Option Addr) (n c : Nat) : Value := .agg #[.slice p n c, .nilIface, .slice none 0 0]
set_option maxHeartbeats 4000000 in
theorem run_holds (K b N : Nat) (nm : ByteArray) (ar : Int) (T : Fun → Option Nat) (c0 c1 c2 : Value) (a a2 : Addr) (X : Option Addr → Nat → Nat → World → Prop) (w : World) (hb : BuIn w b N T) (hk : okN (nm, ar)) (hT : T (nm, ar) = some K) (h0 : c0.oneCell' = true) (h1 : c1.oneCell' = true) (h2 : c2.oneCell' = true)
  (hg : w.cell? ⟨2, 0, none⟩ = some (erV a)) (hg2 : w.cell? ⟨3, 0, none⟩ = some (erV a2)) (HY : ∀ p n c V, X p n c V → Calls Tryz.prog 113 #[efV3 p n c] V fun e w' => e = .returned (.bool false) ∧ Below V.heap.size V w') (hE : ∀ W : World, (callFunc K #[.agg #[c0, c1, c2]]).run Tryz.prog W = .ok (.enter K #[.agg #[c0, c1, c2]]) W)
  (HF : ∀ W, Below w.heap.size w W → Calls Tryz.prog K #[.agg #[c0, c1, c2]] W fun e w' => ∃ p n c, e = .returned (.tuple #[efV3 p n c, .nilIface]) ∧ Below W.heap.size W w' ∧ ∀ V, KeepF W.heap.size w' V → X p n c V) :
  Calls Tryz.prog 32 #[.map (some b), .agg #[.string nm, .int .i64 ar], .agg #[c0, c1, c2]] w fun e w' => ∃ p n c, e = .returned (.tuple #[efV3 p n c, .int .i64 0]) ∧ Below w.heap.size w w' ∧ X p n c w' := by
 have HL : Hid (∀ W, Below w.heap.size w W → (Instr.lookup 73 (.map (some b)) (.agg #[.string nm, .int .i64 ar]) false).run Tryz.prog W = .ok (.func (.func K) #[] #[]) W) := fun W hW => (hb.below hW).getE (nm, ar) hk hT
 obtain ⟨w1, e1⟩ : ∃ w1, w1 = w.alloc (.cells #[.string nm, .int .i64 ar] 76) := ⟨_, rfl⟩
 obtain ⟨w2, e2⟩ : ∃ w2, w2 = w1.alloc (.cells #[c0, c1, c2] 83) := ⟨_, rfl⟩
 obtain ⟨w3, e3⟩ : ∃ w3, w3 = w2.alloc (.cells #[.slice none 0 0, .nilIface, .slice none 0 0] 86) := ⟨_, rfl⟩
 have hs1 : w1.heap.size = w.heap.size + 1 := by rw [e1]; simp
 have hs2 : w2.heap.size = w.heap.size + 1 + 1 := by rw [e2, ← hs1]; simp
 have hb1 : Below w.heap.size w w1 := by rw [e1]; exact (Below.refl _ _).alloc (Nat.le_refl _) _
 have hb2 : Below w1.heap.size w1 w2 := by rw [e2]; exact (Below.refl _ _).alloc (Nat.le_refl _) _
 have hb3 : Below w2.heap.size w2 w3 := by rw [e3]; exact (Below.refl _ _).alloc (Nat.le_refl _) _
 have hB3 : Below w.heap.size w w3 := Below.on hb1 (Below.on hb2 hb3)
 have k1 : w3.heap[w.heap.size]? = some (.cells #[.string nm, .int .i64 ar] 76) := by rw [hb3.block _ (by omega), hb2.block _ (by omega), e1]; exact heap_alloc_new _ _
 have k2 : w3.heap[w.heap.size + 1]? = some (.cells #[c0, c1, c2] 83) := by rw [hb3.block _ (by omega), e2, ← hs1]; exact heap_alloc_new _ _
 have k3 : w3.heap[w.heap.size + 1 + 1]? = some (.cells #[.slice none 0 0, .nilIface, .slice none 0 0] 86) := by rw [e3, ← hs2]; exact heap_alloc_new _ _
 have HS : Hid (∀ W, Below w3.heap.size w3 W → W.cell? ⟨w.heap.size, 0, none⟩ = some (.string nm) ∧ W.cell? ⟨w.heap.size, 1, none⟩ = some (.int .i64 ar) ∧ W.cell? ⟨w.heap.size + 1, 0, none⟩ = some c0 ∧ W.cell? ⟨w.heap.size + 1, 1, none⟩ = some c1 ∧ W.cell? ⟨w.heap.size + 1, 2, none⟩ = some c2 ∧ Below w3.heap.size w3 W) := fun W hW => by
  have q1 := (hW.block _ (Array.getElem?_eq_some_iff.1 k1).1).trans k1; have q2 := (hW.block _ (Array.getElem?_eq_some_iff.1 k2).1).trans k2; exact ⟨cell_of_row _ _ 0 _ _ _ q1, cell_of_row _ _ 1 _ _ _ q1, cell_of_row _ _ 0 _ _ _ q2, cell_of_row _ _ 1 _ _ _ q2, cell_of_row _ _ 2 _ _ _ q2, hW⟩
 have HC : Hid (∀ W, Below w3.heap.size w3 W → Calls Tryz.prog K #[.agg #[c0, c1, c2]] W fun e w' => ∃ p n c, e = .returned (.tuple #[efV3 p n c, .nilIface]) ∧ Below W.heap.size W w' ∧ ∀ V, KeepF W.heap.size w' V → X p n c V) := fun W hW => HF W (Below.on hB3 hW)
 have HL3 : Hid (∀ W, Below w3.heap.size w3 W → (Instr.lookup 73 (.map (some b)) (.agg #[.string nm, .int .i64 ar]) false).run Tryz.prog W = .ok (.func (.func K) #[] #[]) W) := fun W hW => HL.out W (Below.on hB3 hW)
 have HG : Hid (∀ W, Below w3.heap.size w3 W → W.cell? ⟨2, 0, none⟩ = some (erV a)) := fun W hW => ((Below.on hB3 hW).cell (World.block_lt_of_cell? _ _ hg)).trans hg
 have HG2 : Hid (∀ W, Below w3.heap.size w3 W → W.cell? ⟨3, 0, none⟩ = some (erV a2)) := fun W hW => ((Below.on hB3 hW).cell (World.block_lt_of_cell? _ _ hg2)).trans hg2
 have HS3 : Hid (w3.heap.size = w.heap.size + 1 + 1 + 1) := by show _ = _; rw [e3, ← hs2]; simp
 have HHY : Hid (∀ p n c V, X p n c V → Calls Tryz.prog 113 #[efV3 p n c] V fun e w' => e = .returned (.bool false) ∧ Below V.heap.size V w') := HY
 have HK3 : Hid (∀ W, Below w3.heap.size w3 W → W.heap[w.heap.size + 1 + 1]? = some (.cells #[.slice none 0 0, .nilIface, .slice none 0 0] 86)) := fun W hW => (hW.block _ (Array.getElem?_eq_some_iff.1 k3).1).trans k3
 have HB3 : Hid (Below w.heap.size w w3) := hB3; rw [e1] at e2; rw [e2] at e3; clear hg hg2 HY hB3 k3 hb hk hT e1 e2 hs1 hs2 hb1 hb2 hb3 k1 k2 HL HF
 go_enter Tryz.func32, Tryz.ntmps32
 go_wp2_with fail; rw [← e3]; clear e3; refine wp_region_held_drew (S := fun W => Below w3.heap.size w3 W) (by kernel_rfl) ?_ (fun hHeld => ?_)
 ·exact (Below.refl _ _).drew
 refine hTk (i := 0) (v := .map (some b)) (some 13) (fun o ho W hSw => ?y0) (by assumption) ?_
 case y0 => cases ho; simp [execOp, go_sem, Act.eval]
 simp only [Act.put, zzA, zzB, zzC]; refine hTk (i := 1) (v := .agg #[.string nm, .int .i64 ar]) (some 14) (fun o ho W hSw => ?y1) (by assumption) ?_
 case y1 => cases ho; obtain ⟨s0, s1, s2, s3, s4, s5⟩ := HS.out W hSw; simp [execOp, go_sem, Act.eval, s0, s1]
 simp only [Act.put, zzA, zzB, zzC]; refine hTk (i := 2) (v := .func (.func K) #[] #[]) (some 15) (fun o ho W hSw => ?y2) (by assumption) ?_
 case y2 =>
  cases ho
  have sL := HL3.out W hSw
  simp [execOp, go_sem, Act.eval, sL]
 simp only [Act.put, zzA, zzB, zzC]; refine hTk (i := 3) (v := .agg #[c0, c1, c2]) (some 16) (fun o ho W hSw => ?y3) (by assumption) ?_
 case y3 => cases ho; obtain ⟨s0, s1, s2, s3, s4, s5⟩ := HS.out W hSw; simp [execOp, go_sem, Act.eval, s2, s3, s4]
 simp only [Act.put, zzA, zzB, zzC]; refine hBoth (i := 4) (j := 8) (by kernel_rfl) ?zA ?zB
 case zA =>
  refine opCall (f := K) (args := #[.agg #[c0, c1, c2]]) (some 17) (by kernel_rfl) (by kernel_rfl) (fun o ho => ?cA) (HC.out _ (Below.refl _ _).drew) ?kA (fun ch w' h => by obtain ⟨_, _, _, h, _⟩ := h; cases h) (fun w' h => by obtain ⟨_, _, _, h, _⟩ := h; cases h)
  case cA => cases ho; simp [execOp, go_sem, Act.eval, hE]
  case kA =>
   rintro u w4 ⟨p, n1, c, hu, hb4, hX⟩; obtain rfl := Ending.returned.inj hu; have hB4 : Below w3.heap.size w3 w4 := (Below.refl _ _).drew.trans hb4; refine ⟨hB4, ?_⟩; simp only [Act.put, zzA, zzB, zzC]; refine hTk (i := 5) (v := .tuple #[efV3 p n1 c, .nilIface]) (some 12) (fun o ho W hSw => ?y20) (by assumption) ?_
   case y20 => cases ho; simp [execOp, go_sem, Act.eval]
   simp only [Act.put, zzA, zzB, zzC]; refine hTk (i := 6) (v := efV3 p n1 c) (some 18) (fun o ho W hSw => ?y21) (by assumption) ?_
   case y21 => cases ho; simp [execOp, go_sem, Act.eval]
   simp only [Act.put, zzA, zzB, zzC]; refine hTk (i := 7) (v := .nilIface) (some 19) (fun o ho W hSw => ?y22) (by assumption) ?_
   case y22 => cases ho; simp [execOp, go_sem, Act.eval]
   simp only [Act.put, zzA, zzB, zzC]; refine hStep (i := 8) (v := .pointer (some ⟨w4.heap.size, 0, none⟩)) (w' := w4.alloc (.cells #[.slice none 0 0, .nilIface, .slice none 0 0] 86)) (some 8) (by kernel_rfl) (by kernel_rfl) (by kernel_rfl) (fun o ho => ?y23) (hB4.alloc hB4.size _) ?_
   case y23 => cases ho; simp [execOp, go_sem, Act.eval]
   simp only [Act.put, zzA, zzB, zzC]
   obtain ⟨w5, e5⟩ : ∃ w5, w5 = w4.alloc (.cells #[.slice none 0 0, .nilIface, .slice none 0 0] 86) := ⟨_, rfl⟩
   have hB5 : Below w3.heap.size w3 w5 := by rw [e5]; exact hB4.alloc hB4.size _
   have HX : Box3 w5 w4.heap.size (.slice none 0 0) .nilIface (.slice none 0 0) := Box3.of_block (by rw [e5]; exact heap_alloc_new _ _)
   obtain ⟨T, eT⟩ : ∃ T, T = w4.heap.size := ⟨_, rfl⟩
   have hT : w3.heap.size ≤ T := by rw [eT]; exact hB4.size
   have HQ : Hid (∀ V, (∀ k, k ≠ T → k ≠ w.heap.size + 1 + 1 → k < w5.heap.size → V.heap[k]? = w5.heap[k]?) → w5.heap.size ≤ V.heap.size → X p n1 c V) := fun V h1 h2 => by
    have hs3 := HS3.out; refine hX V ⟨Nat.le_trans (by rw [e5]; simp) h2, fun k hk hl => ?_⟩; have hk' : w3.heap.size ≤ k := hk; rw [h1 k (by omega) (by omega) (by rw [e5]; simp; omega), e5, Go.heap_alloc_old _ _ hl]
   rw [← eT] at HX ⊢; rw [← e5]; clear hX eT e5; have hB6 : Below w3.heap.size w3 (wr3 w5 T (.slice p n1 c) .nilIface (.slice none 0 0)) := wr3_below hB5 hT; refine hStepS (i := 9) (w' := wr3 w5 T (.slice p n1 c) .nilIface (.slice none 0 0)) none (by kernel_rfl) (by kernel_rfl) (by kernel_rfl) (fun o ho => ?y9) hB6 ?_
   case y9 => cases ho; obtain ⟨b0, b1, b2, b3⟩ := HX; simp [execOp, go_sem, Act.eval, b0, b1, b2, b3]
   simp only [Act.put, zzA, zzB, zzC]; refine hTk (i := 10) (v := .nilIface) (some 9) (fun o ho W hSw => ?y24) (by assumption) ?_
   case y24 => cases ho; simp [execOp, go_sem, Act.eval]
   simp only [Act.put, zzA, zzB, zzC]; refine wpAnyH_done (by kernel_rfl) ?_ _
   change Exit.then _ _ _ _ (wr3 w5 T (.slice p n1 c) .nilIface (.slice none 0 0))
   obtain ⟨w6, e6⟩ : ∃ w6, w6 = wr3 w5 T (.slice p n1 c) .nilIface (.slice none 0 0) := ⟨_, rfl⟩
   rw [← e6] at hB6; rw [← e6]; have hB7 : Below w3.heap.size w3 (w6.alloc (.cells #[.nilIface] 57)) := hB6.alloc hB6.size _; have g7 := HG.out _ hB7; have hlT : T < w5.heap.size := World.block_lt_of_cell? _ _ HX.1
   have hs6 : w6.heap.size = w5.heap.size := by rw [e6]; simp
   have HBX : Box3 w6 T (.slice p n1 c) .nilIface (.slice none 0 0) := by rw [e6]; exact wr3_box HX _ _ _
   have hb67 : Below w6.heap.size w6 (w6.alloc (.cells #[.nilIface] 57)) := (Below.refl _ _).alloc (Nat.le_refl _) _
   obtain ⟨w7, e7⟩ : ∃ w7, w7 = w6.alloc (.cells #[.nilIface] 57) := ⟨_, rfl⟩
   rw [← e7] at hB7 hb67
   have HV : Hid (∀ V, (∀ k, k ≠ w.heap.size + 1 + 1 → k < w7.heap.size → V.heap[k]? = w7.heap[k]?) → w7.heap.size ≤ V.heap.size → X p n1 c V) := fun V h1 h2 => by
    have hs7 := hb67.size; refine HQ.out V (fun k a1 a3 a4 => ?_) (by omega); rw [h1 k a3 (by omega), hb67.block k (by omega), e6, wr3_heap a1]
   have hX7 : X p n1 c w7 := HV.out w7 (fun _ _ _ => rfl) (Nat.le_refl _); have HYC := HHY.out p n1 c w7 hX7; have g8 := HG2.out _ hB7; have HB7 : Hid (Below w3.heap.size w3 w7) := hB7; have HZ7 := HBX.below hb67 (by omega)
   have HZ : Hid (∀ W, Below w7.heap.size w7 W → Box3 W T (.slice p n1 c) .nilIface (.slice none 0 0)) := fun W hW => HZ7.below hW (by have := hb67.size; omega)
   obtain ⟨z0, z1, z2, z3⟩ := HZ7; clear hB6 hB7 hB5 hT HX e6 HQ hlT hs6 HBX hb67 hX7; go_wp2_with fail; rw [← e7] at *; clear e7 g7; refine (is_nil a w7).mono ?_; rintro e w8 ⟨rfl, h8⟩; rw [h8]; clear h8; go_wp2_with fail; refine (as_nilE _ w7).mono ?_; rintro e w8 ⟨rfl, h8⟩; rw [h8]; clear h8; go_wp2_with fail; refine (is_nil a2 w7).mono ?_; rintro e w8 ⟨rfl, h8⟩; rw [h8]; clear h8; go_wp2_with fail; refine HYC.mono ?_; rintro e w9 ⟨rfl, hb9⟩; have hB9 : Below w3.heap.size w3 w9 := Below.on HB7.out hb9; have HX9 := Box3.of_block (HK3.out _ hB9); have HP : Hid _ := wr3_box HX9 (.slice p n1 c) .nilIface (.slice none 0 0)
   have FIN : Hid (Below w.heap.size w (wr3 w9 (w.heap.size + 1 + 1) (.slice p n1 c) .nilIface (.slice none 0 0)) ∧ X p n1 c (wr3 w9 (w.heap.size + 1 + 1) (.slice p n1 c) .nilIface (.slice none 0 0))) :=
    ⟨wr3_below (Below.on HB3.out hB9) (by omega), HV.out _ (fun k h1 h2 => (wr3_heap h1).trans (hb9.block k h2)) (by simpa using hb9.size)⟩
   obtain ⟨b0, b1, b2, b3⟩ := HX9; obtain ⟨y0, y1, y2, y3⟩ := HZ.out w9 hb9; clear z0 z1 z2 z3 g8 hb9 hB9 HYC
   go_wp2
   obtain ⟨d0, d1, d2, _⟩ := HP.out; exact bodyPost_ret (v := .tuple #[efV3 p n1 c, .int .i64 0]) (by simp [results, Tryz.results32, go_sem, d0, d1, d2]) rfl ⟨p, n1, c, rfl, FIN.out⟩
 case zB =>
  obtain ⟨w4, e4⟩ : ∃ w4, w4 = w3.drew.alloc (.cells #[.slice none 0 0, .nilIface, .slice none 0 0] 86) := ⟨_, rfl⟩
  have hB4 : Below w3.heap.size w3 w4 := by rw [e4]; exact ((Below.refl _ _).drew).alloc (Nat.le_refl _) _
  have HX4 : Box3 w4 w3.heap.size (.slice none 0 0) .nilIface (.slice none 0 0) := Box3.of_block (by rw [e4]; exact heap_alloc_new _ _)
  have hl4 : w3.heap.size < w4.heap.size := by rw [e4]; simp
  refine opStep (v := .pointer (some ⟨w3.heap.size, 0, none⟩)) (w' := w4) (some 8) (by kernel_rfl) (by kernel_rfl) (fun o ho => ?y8) ⟨hB4, ?_⟩
  case y8 =>
   cases ho
   rw [e4]
   simp [execOp, go_sem, Act.eval]
  simp only [Act.put, zzA, zzB, zzC]; refine hCallE (i := 4) (f := K) (args := #[.agg #[c0, c1, c2]]) (some 17) (by kernel_rfl) (by kernel_rfl) (by kernel_rfl) (fun o ho => ?c60) (HC.out w4 hB4) ?k60 (fun ch w' h => by obtain ⟨_, _, _, h, _⟩ := h; cases h) (fun w' h => by obtain ⟨_, _, _, h, _⟩ := h; cases h)
  case c60 => cases ho; simp [execOp, go_sem, Act.eval, hE]
  case k60 =>
   rintro u w5 ⟨p, n1, c, hu, hb5, hX⟩; obtain rfl := Ending.returned.inj hu; have hB5 : Below w3.heap.size w3 w5 := Below.on hB4 hb5; have HX := HX4.below hb5 hl4; have hT : w3.heap.size ≤ w3.heap.size := Nat.le_refl _
   have HQ : Hid (∀ V, (∀ k, k ≠ w3.heap.size → k ≠ w.heap.size + 1 + 1 → k < w5.heap.size → V.heap[k]? = w5.heap[k]?) → w5.heap.size ≤ V.heap.size → X p n1 c V) := fun V h1 h2 => by
    have hs3 := HS3.out; exact hX V ⟨h2, fun k hk hl => h1 k (by omega) (by omega) hl⟩
   clear hb5 hB4 HX4 hl4 e4 hX; refine ⟨hB5, ?_⟩; simp only [Act.put, zzA, zzB, zzC]; refine hTk (i := 5) (v := .tuple #[efV3 p n1 c, .nilIface]) (some 12) (fun o ho W hSw => ?y61) (by assumption) ?_
   case y61 => cases ho; simp [execOp, go_sem, Act.eval]
   simp only [Act.put, zzA, zzB, zzC]; refine hTk (i := 6) (v := efV3 p n1 c) (some 18) (fun o ho W hSw => ?y62) (by assumption) ?_
   case y62 => cases ho; simp [execOp, go_sem, Act.eval]
   simp only [Act.put, zzA, zzB, zzC]; refine hTk (i := 7) (v := .nilIface) (some 19) (fun o ho W hSw => ?y63) (by assumption) ?_
   case y63 => cases ho; simp [execOp, go_sem, Act.eval]
   simp only [Act.put, zzA, zzB, zzC]; have hB6 : Below w3.heap.size w3 (wr3 w5 w3.heap.size (.slice p n1 c) .nilIface (.slice none 0 0)) := wr3_below hB5 hT; refine hStepS (i := 9) (w' := wr3 w5 w3.heap.size (.slice p n1 c) .nilIface (.slice none 0 0)) none (by kernel_rfl) (by kernel_rfl) (by kernel_rfl) (fun o ho => ?y9) hB6 ?_
   case y9 => cases ho; obtain ⟨b0, b1, b2, b3⟩ := HX; simp [execOp, go_sem, Act.eval, b0, b1, b2, b3]
   simp only [Act.put, zzA, zzB, zzC]; refine hTk (i := 10) (v := .nilIface) (some 9) (fun o ho W hSw => ?y64) (by assumption) ?_
   case y64 => cases ho; simp [execOp, go_sem, Act.eval]
   simp only [Act.put, zzA, zzB, zzC]; refine wpAnyH_done (by kernel_rfl) ?_ _
   change Exit.then _ _ _ _ (wr3 w5 w3.heap.size (.slice p n1 c) .nilIface (.slice none 0 0))
   obtain ⟨w6, e6⟩ : ∃ w6, w6 = wr3 w5 w3.heap.size (.slice p n1 c) .nilIface (.slice none 0 0) := ⟨_, rfl⟩
   rw [← e6] at hB6; rw [← e6]; have hB7 : Below w3.heap.size w3 (w6.alloc (.cells #[.nilIface] 57)) := hB6.alloc hB6.size _; have g7 := HG.out _ hB7; have hlT : w3.heap.size < w5.heap.size := World.block_lt_of_cell? _ _ HX.1
   have hs6 : w6.heap.size = w5.heap.size := by rw [e6]; simp
   have HBX : Box3 w6 w3.heap.size (.slice p n1 c) .nilIface (.slice none 0 0) := by rw [e6]; exact wr3_box HX _ _ _
   have hb67 : Below w6.heap.size w6 (w6.alloc (.cells #[.nilIface] 57)) := (Below.refl _ _).alloc (Nat.le_refl _) _
   obtain ⟨w7, e7⟩ : ∃ w7, w7 = w6.alloc (.cells #[.nilIface] 57) := ⟨_, rfl⟩
   rw [← e7] at hB7 hb67
   have HV : Hid (∀ V, (∀ k, k ≠ w.heap.size + 1 + 1 → k < w7.heap.size → V.heap[k]? = w7.heap[k]?) → w7.heap.size ≤ V.heap.size → X p n1 c V) := fun V h1 h2 => by
    have hs7 := hb67.size; refine HQ.out V (fun k a1 a3 a4 => ?_) (by omega); rw [h1 k a3 (by omega), hb67.block k (by omega), e6, wr3_heap a1]
   have hX7 : X p n1 c w7 := HV.out w7 (fun _ _ _ => rfl) (Nat.le_refl _); have HYC := HHY.out p n1 c w7 hX7; have g8 := HG2.out _ hB7; have HB7 : Hid (Below w3.heap.size w3 w7) := hB7; have HZ7 := HBX.below hb67 (by omega)
   have HZ : Hid (∀ W, Below w7.heap.size w7 W → Box3 W w3.heap.size (.slice p n1 c) .nilIface (.slice none 0 0)) := fun W hW => HZ7.below hW (by have := hb67.size; omega)
   obtain ⟨z0, z1, z2, z3⟩ := HZ7; clear hB6 hB7 hB5 hT HX e6 HQ hlT hs6 HBX hb67 hX7; go_wp2_with fail; rw [← e7] at *; clear e7 g7; refine (is_nil a w7).mono ?_; rintro e w8 ⟨rfl, h8⟩; rw [h8]; clear h8; go_wp2_with fail; refine (as_nilE _ w7).mono ?_; rintro e w8 ⟨rfl, h8⟩; rw [h8]; clear h8; go_wp2_with fail; refine (is_nil a2 w7).mono ?_; rintro e w8 ⟨rfl, h8⟩; rw [h8]; clear h8; go_wp2_with fail; refine HYC.mono ?_; rintro e w9 ⟨rfl, hb9⟩; have hB9 : Below w3.heap.size w3 w9 := Below.on HB7.out hb9; have HX9 := Box3.of_block (HK3.out _ hB9); have HP : Hid _ := wr3_box HX9 (.slice p n1 c) .nilIface (.slice none 0 0)
   have FIN : Hid (Below w.heap.size w (wr3 w9 (w.heap.size + 1 + 1) (.slice p n1 c) .nilIface (.slice none 0 0)) ∧ X p n1 c (wr3 w9 (w.heap.size + 1 + 1) (.slice p n1 c) .nilIface (.slice none 0 0))) :=
    ⟨wr3_below (Below.on HB3.out hB9) (by omega), HV.out _ (fun k h1 h2 => (wr3_heap h1).trans (hb9.block k h2)) (by simpa using hb9.size)⟩
   obtain ⟨b0, b1, b2, b3⟩ := HX9; obtain ⟨y0, y1, y2, y3⟩ := HZ.out w9 hb9; clear z0 z1 z2 z3 g8 hb9 hB9 HYC
   go_wp2
   obtain ⟨d0, d1, d2, _⟩ := HP.out; exact bodyPost_ret (v := .tuple #[efV3 p n1 c, .int .i64 0]) (by simp [results, Tryz.results32, go_sem, d0, d1, d2]) rfl ⟨p, n1, c, rfl, FIN.out⟩
end
end Go.Proofs.YtkklidpnkofipaaGreatDoor
