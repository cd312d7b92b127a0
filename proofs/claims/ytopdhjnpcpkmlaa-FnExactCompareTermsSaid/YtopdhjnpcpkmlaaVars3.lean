/- termOf, variablesOf, TermVars of the program. Own work of the verifier. -/
import Derived.Test.YtopdhjnpcpkmlaaVars2
namespace Go.Proofs.Ytopdhjnpcpkmlaa
open Go Go.RowKit Go.Maps
set_option linter.unusedVariables false

theorem infoInt : (Try.prog.info? 3).map (fun i => (i.zero, i.size, i.bytes)) = some (some (.int .i64 0), 1, 8) := by kernel_rfl

/-- What is valid is one tree. -/
theorem tree_of {cs : List Cel} (hb : ∀ i, i < cs.length → Byte (cs.getD i Cel.none).2.2) (hv : validB cs = true) : ∃ c k, cs = c :: k.cells ∧ (Fo.node c k .nil).ok ∧ cs.length ≤ 2000 := by
  simp only [validB, Bool.and_eq_true, decide_eq_true_eq] at hv
  obtain ⟨F, h1, h2, h3⟩ := forest_of cs 1 hb hv.2
  cases F with
  | nil => simp [Fo.count] at h1
  | node c k r =>
    cases r with
    | nil => exact ⟨c, k, by rw [← h2]; simp [Fo.cells], h3, hv.1⟩
    | node a b d => simp [Fo.count] at h1

set_option maxRecDepth 100000 in
theorem termOf_any (c : Cel) (k : Fo) (p : Option Addr) (n cap : Nat) (w : World) (hok : (Fo.node c k .nil).ok) (hn : n = k.cells.length + 1) (hc : n ≤ cap) (hm : cap ≤ 1000000000) (hin : CIn w p (c :: k.cells)) :
    Calls Try.prog 40 #[.slice p n cap] w fun e w' => ∃ v, e = .returned v ∧ FoIn w' w.heap.size (.node c k .nil) [v] ∧ Below w.heap.size w w' := by
  have HF : Calls Try.prog 60 #[.slice p n cap] w (FirstOut w w c k [] cap) := firstTerm_any k.cells.length c k p n cap [] w w (Below.refl _ _) (Nat.le_refl _) hok (by rw [hn]; rfl) hc hm (by rw [List.append_nil]; exact hin)
  clear hok hin hn
  go_enter Try.func40, Try.ntmps40
  go_wp2_with fail
  refine HF.mono ?_
  rintro e w1 ⟨v, q, l, cp, rfl, _, _, _, hfo, hb⟩
  obtain ⟨vt, vx, rfl⟩ := hfo.iface
  have HFO : Hid (FoIn w1 w.heap.size (.node c k .nil) [.iface vt vx]) := hfo
  have HB : Hid (Below w.heap.size w w1) := hb
  clear hfo hb HF
  go_wp2_with fail
  go_ret
  exact ⟨_, rfl, HFO.out, HB.out⟩

/-- A slice of numbers of the call's own. -/
def OwnI (w : World) (B : Nat) (t : TypeId) (p : Option Addr) (n c : Nat) (zs : List Int) : Prop := n = zs.length ∧ w.ownsRow B t 1 (.slice p n c) n (zs.map (Value.int .i64))
/-- How a slice of numbers lies. -/
def IIn (w : World) (p : Option Addr) (zs : List Int) : Prop := 0 < zs.length → ∃ b o, p = some ⟨b, o, none⟩ ∧ ∀ i, i < zs.length → w.cell? ⟨b, o + i, none⟩ = some (.int .i64 (zs.getD i 0))
theorem OwnI.iin {w : World} {B : Nat} {t : TypeId} {p : Option Addr} {n c : Nat} {zs : List Int} (h : OwnI w B t p n c zs) : IIn w p zs := fun hn => by
  obtain ⟨rfl, hr⟩ := h
  obtain ⟨g, cap, hv, hb, hg⟩ := hr.form hn
  simp only [Value.slice.injEq, true_and] at hv
  obtain ⟨rfl, rfl⟩ := hv
  exact ⟨g, 0, rfl, fun i hi => by rw [Nat.zero_add, hr.cellAt i (by omega)]; simp [List.getD, hi]⟩
theorem IIn.below {W W' : World} {p : Option Addr} {zs : List Int} (h : IIn W p zs) (hb : Below W.heap.size W W') : IIn W' p zs := fun hn => by
  obtain ⟨b, o, rfl, hc⟩ := h hn
  exact ⟨b, o, rfl, fun i hi => (hb.cell (World.block_lt_of_cell? _ _ (hc i hi))).trans (hc i hi)⟩
theorem OwnI.nil (w : World) (B : Nat) (t : TypeId) : OwnI w B t none 0 0 [] := ⟨rfl, World.ownsRow_nil _ _ _ _⟩
theorem OwnI.below {w w' : World} {B : Nat} {t : TypeId} {p : Option Addr} {n c : Nat} {zs : List Int} (h : OwnI w B t p n c zs) (hb : Below w.heap.size w w') : OwnI w' B t p n c zs := ⟨h.1, row_below h.2 hb⟩
theorem OwnI.mono {w : World} {B B' : Nat} {t : TypeId} {p : Option Addr} {n c : Nat} {zs : List Int} (h : OwnI w B t p n c zs) (hB : B' ≤ B) : OwnI w B' t p n c zs := ⟨h.1, ownsRow_down h.2 hB⟩

set_option maxRecDepth 100000 in
theorem variablesOf_any (c : Cel) (k : Fo) (v : Value) (Bt : Nat) (w : World) (hok : (Fo.node c k .nil).ok) (hfo : FoIn w Bt (.node c k .nil) [v]) (hl : k.cells.length ≤ 10000) :
    Calls Try.prog 43 #[v] w fun e w' => ∃ p n cp, e = .returned (.slice p n cp) ∧ OwnI w' w.heap.size 67 p n cp (visits [] (c :: k.cells)) ∧ Below w.heap.size w w' := by
  have hmm := @run_makeMap Try.prog
  obtain ⟨vt, vx, rfl⟩ := hfo.iface
  have hW : Below w.heap.size w (((w.alloc (Obj.cells #[Value.slice none 0 0] 65)).alloc (Obj.map #[] 0)).alloc (Obj.cells #[Value.map (some (w.heap.size + 1))] 92)) := (((Below.refl _ _).alloc (Nat.le_refl _) _).alloc (by simp) _).alloc (by simp; omega) _
  have hS : VState (((w.alloc (Obj.cells #[Value.slice none 0 0] 65)).alloc (Obj.map #[] 0)).alloc (Obj.cells #[Value.map (some (w.heap.size + 1))] 92)) w.heap.size w.heap.size (w.heap.size + 1 + 1) (w.heap.size + 1) [] none 0 0 := by
    have h0 : (((w.alloc (Obj.cells #[Value.slice none 0 0] 65)).alloc (Obj.map #[] 0)).alloc (Obj.cells #[Value.map (some (w.heap.size + 1))] 92)).heap[w.heap.size]? = some (Obj.cells #[Value.slice none 0 0] 65) := (Below.heap_alloc _ _ _ (by simp; omega)).trans ((Below.heap_alloc _ _ _ (by simp)).trans (heap_alloc_new _ _))
    have h3 := heap_three w (Obj.cells #[Value.slice none 0 0] 65) (Obj.map #[] 0) (Obj.cells #[Value.map (some (w.heap.size + 1))] 92)
    refine ⟨cell_of_row _ _ 0 _ _ _ h0, frozen_of_row _ _ 0 _ _ h0, cell_of_row _ _ 0 _ _ _ h3.2, rfl, World.ownsRow_nil _ _ _ _, ?_, Nat.le_refl _, by omega, by omega, fun g e => by cases e⟩
    have hm := NumMap.made (w.alloc (Obj.cells #[Value.slice none 0 0] 65))
    have e : (w.alloc (Obj.cells #[Value.slice none 0 0] 65)).heap.size = w.heap.size + 1 := by simp
    rw [e] at hm
    exact hm.of_block (Below.heap_alloc _ _ _ (by simp))
  have HWK := walk_any k.cells.length c k _ Bt w.heap.size w.heap.size (w.heap.size + 1 + 1) (w.heap.size + 1) [] none 0 0 w _ (Nat.le_refl _) hok hfo hW (Nat.le_refl _) hW.size hS (by simp; omega)
  have HW : Hid _ := hW
  clear hok hfo hS hW
  go_enter Try.func43, Try.ntmps43
  go_wp2_with fail
  refine HWK.mono ?_
  rintro e w1 ⟨rfl, ⟨p, n, cp, hst⟩, hb⟩
  have d0 := hst.vcell
  have HR : Hid (OwnI w1 w.heap.size 67 p n cp (visits [] (c :: k.cells))) := ⟨hst.len, hst.row⟩
  have HB : Hid (Below w.heap.size w w1) := HW.out.trans hb
  clear hst hb HWK
  go_wp2_with fail
  go_ret
  exact ⟨_, _, _, rfl, HR.out, HB.out⟩

/-- append of a number onto numbers of the call's own. -/
theorem app_int (w : World) {ops : Array Oper} {rest : List Oper} {o : Oper} {a : Act} {Q : Exit → Act → World → Prop} (hgd : o.guard = none) (s x : Operand)
    (ho : o.op = .call { callee := .builtin .append, args := #[s, x], argTypes := #[32, 32] }) (B : Nat) (p : Option Addr) (n c : Nat) (ys : List Int) (z : Int)
    (hs : a.eval s = .slice p n c) (hown : OwnI w B 3 p n c ys) (hx : a.eval x = .slice (some ⟨w.heap.size, 0, none⟩) 1 1)
    (hlen : n + 1 ≤ 1000000000) (hbase : B ≤ w.heap.size)
    (h : ∀ g n' cap w', OwnI w' B 3 (some ⟨g, 0, none⟩) n' cap (ys ++ [z]) → Below B (w.alloc (.cells #[.int .i64 z] 3)) w' → Hid (n' = n + 1) → wpList Try.prog ops Q rest (a.put o.dst (.slice (some ⟨g, 0, none⟩) n' cap)) w') : wpList Try.prog ops Q (o :: rest) a (w.alloc (.cells #[.int .i64 z] 3)) := by
  obtain ⟨i0, hi, hz0, hz1, hz2⟩ := info_parts infoInt
  refine wpList_append_lies _ hgd s x 32 ho B 3 i0 (.int .i64 0) 1 8 Try.underlying32 hi hz0 hz1 hz2 rfl (by decide) (.slice p n c) n (ys.map (Value.int .i64)) hs (hown.2.alloc _) ⟨w.heap.size, 0, none⟩ 1 1 [.int .i64 z] hx rfl (cell_one_new _ _ _) (ints_oneCell .i64 [z]) (by decide) (by unfold maxLen; omega) (by omega) (by simp; omega) _ rfl ?_
  intro g cap w' hown' hgrow hat hlt
  refine h g _ cap w' ⟨by have := hown.1; simp; omega, by rw [List.map_append]; exact hown'⟩ ((Below.refl _ _).grown hgrow (by simp; omega) (fun k hk => (hown.2.lt k hk).1)) rfl

set_option maxRecDepth 100000 in
theorem implVars_any (cs : List Cel) (p : Option Addr) (n cap : Nat) (w : World) (hb : ∀ i, i < cs.length → Byte (cs.getD i Cel.none).2.2) (hn : n = cs.length) (hc : n ≤ cap) (hm : cap ≤ 1000000000) (hin : CIn w p cs) :
    Calls Try.prog 17 #[.slice p n cap] w fun e w' => ∃ q m c2, e = .returned (.slice q m c2) ∧ OwnI w' w.heap.size 3 q m c2 (if validB cs = true then visits [] cs else []) ∧ Below w.heap.size w w' := by
  subst hn
  have HV := implValid_any p cap cs w (by omega) hin
  have HI : Hid (CIn w p cs) := hin
  clear hin
  by_cases hv : validB cs = true
  · rw [if_pos hv]
    rw [hv] at HV
    obtain ⟨c, k, ecs, hok, hlen⟩ := tree_of hb hv
    have HOK : Hid ((Fo.node c k .nil).ok ∧ cs = c :: k.cells ∧ cs.length ≤ 2000) := ⟨hok, ecs, hlen⟩
    clear hok hb hv ecs
    go_enter Try.func17, Try.ntmps17
    go_wp2_with fail
    refine HV.mono ?_
    rintro e w1 ⟨rfl, hb1⟩
    have HB1 : Hid (Below w.heap.size w w1) := hb1
    have HT := termOf_any c k p cs.length cap w1 HOK.out.1 (by rw [HOK.out.2.1]; simp) hc hm (by rw [← HOK.out.2.1]; exact HI.out.below hb1)
    clear hb1 HV
    go_wp2_with fail
    refine HT.mono ?_
    rintro e w2 ⟨v, rfl, hfo, hb2⟩
    have HB2 : Hid (Below w.heap.size w w2) := Below.on HB1.out hb2
    have HVS := variablesOf_any c k v _ w2 HOK.out.1 hfo (by have := HOK.out; rw [this.2.1] at this; simp at this; omega)
    obtain ⟨vt, vx, rfl⟩ := hfo.iface
    clear hfo hb2 HT
    go_wp2_with fail
    refine HVS.mono ?_
    rintro e w3 ⟨q, m, c3, rfl, ho3, hb3⟩
    have HB3 : Hid (Below w.heap.size w w3) := Below.on HB2.out hb3
    have HM : Hid (m = (visits [] cs).length) := by rw [HOK.out.2.1]; exact ho3.1
    have HI3 : Hid (IIn w3 q (visits [] cs)) := by rw [HOK.out.2.1]; exact ho3.iin
    have hm3 : m ≤ 2000 := by have := visits_len cs []; have := HM.out; have := HOK.out.2.2; simp at *; omega
    have hBs : w.heap.size ≤ w3.heap.size := HB3.out.size
    clear ho3 hb3 HVS
    go_wp2_with fail
    go_loopw [3, 13] (fun s i wr => ∃ (j : Nat) (p4 : Option Addr) (n4 c4 : Nat), j ≤ m ∧ n4 = j ∧ i = .int .i64 j ∧ s = .slice p4 n4 c4 ∧ Hid (OwnI wr w3.heap.size 3 p4 n4 c4 ((visits [] cs).take j)) ∧ Hid (Below w3.heap.size w3 wr)) (fun _ i _ => m - (intOf i).toNat)
    case atStart => exact ⟨0, none, 0, 0, Nat.zero_le _, rfl, rfl, rfl, OwnI.nil _ _ _, Below.refl _ _⟩
    case round =>
      obtain ⟨j, p4, n4, c4, hj, rfl, rfl, rfl, HO, HB⟩ := hrel
      by_cases hlt : n4 < m
      · obtain ⟨b, o, rfl, hcs⟩ := HI3.out (by rw [← HM.out]; omega)
        have hx : wr.cell? ⟨b, o + n4, none⟩ = some (.int .i64 ((visits [] cs).getD n4 0)) := (HB.out.cell (World.block_lt_of_cell? _ _ (hcs n4 (by rw [← HM.out]; exact hlt)))).trans (hcs n4 (by rw [← HM.out]; exact hlt))
        obtain ⟨x, ex⟩ : ∃ x, x = (visits [] cs).getD n4 0 := ⟨_, rfl⟩
        rw [← ex] at hx
        have HX : Hid ((visits [] cs).take n4 ++ [x] = (visits [] cs).take (n4 + 1)) := by
          show _ = _
          rw [List.take_succ_eq_append_getElem (by rw [← HM.out]; exact hlt), ex, List.getD, List.getElem?_eq_getElem (by rw [← HM.out]; exact hlt)]; rfl
        clear hcs ex
        go_wp2_with (at_builtin; refine app_int wr rfl _ _ rfl w3.heap.size p4 n4 c4 _ x rfl HO.out rfl (by omega) HB.out.size ?_; intro g n' cap' w5 hown5 hb5 hn5)
        have HB5 : Hid (Below w3.heap.size w3 w5) := (HB.out.alloc HB.out.size _).trans hb5
        have HO5 : Hid (OwnI w5 w3.heap.size 3 (some ⟨g, 0, none⟩) n' cap' ((visits [] cs).take (n4 + 1))) := by rw [← HX.out]; exact hown5
        clear hown5 hb5
        go_roundw
        case rel => exact ⟨n4 + 1, _, _, _, by omega, hn5, by go_num, rfl, HO5, HB5⟩
        case measure => simp [intOf]; omega
      · obtain rfl : n4 = m := by omega
        go_wp2_with fail
        go_ret
        refine ⟨_, _, _, rfl, ?_, HB3.out.trans (HB.out.mono hBs)⟩
        have := HO.out.mono hBs
        rwa [List.take_of_length_le (by rw [← HM.out]; exact Nat.le_refl _)] at this
  · have hv' : validB cs = false := by simpa using hv
    rw [if_neg hv]
    rw [hv'] at HV
    clear hv hv' hb
    go_enter Try.func17, Try.ntmps17
    go_wp2_with (go_at_call 12; refine HV.mono ?_; rintro e w1 ⟨rfl, hb1⟩)
    go_ret
    exact ⟨_, _, _, rfl, OwnI.nil _ _ _, hb1⟩

end Go.Proofs.Ytopdhjnpcpkmlaa
