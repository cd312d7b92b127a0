/- add: an operator put into the map. Own work of the verifier. -/
import Derived.Test.YtbfhpnacoigfkaaDoorOpsM3
namespace Go.Proofs.YtbfhpnacoigfkaaDoor
open Go Go.RowKit Go.Maps
set_option linter.unusedVariables false

def addCode (T : List Cel) (o : Cel) : Int :=
  match findK T (keyC o) with
  | some x => if (postB x.2.1 != postB o.2.1) = true then 4 else 0
  | none => if o.1 = 0 then 0 else if T.length = 200 then 3 else 0
def addT (T : List Cel) (o : Cel) : List Cel := if addCode T o ≠ 0 then T else if o.1 = 0 then dropK T (keyC o) else dropK T (keyC o) ++ [o]
theorem findK_some {T : List Cel} {k : List UInt8 × Int} {x : Cel} (h : findK T k = some x) : x ∈ T ∧ keyC x = k := ⟨List.mem_of_find?_eq_some h, by simpa using List.find?_some h⟩
theorem findK_none {T : List Cel} {k : List UInt8 × Int} (h : findK T k = none) : hasK T k = false := by
  rw [hasK, List.any_eq_false]
  intro x hx
  have := List.find?_eq_none.1 h x hx
  exact this
theorem six_below {W0 W w' : World} {a g : Nat} {u0 u1 u2 v0 v1 v2 : Value} (h : ((W.cell? ⟨a, 0, none⟩ = some u0 ∧ W.cell? ⟨a, 1, none⟩ = some u1 ∧ W.cell? ⟨a, 2, none⟩ = some u2) ∧ (W.cell? ⟨g, 0, none⟩ = some v0 ∧ W.cell? ⟨g, 1, none⟩ = some v1 ∧ W.cell? ⟨g, 2, none⟩ = some v2)) ∧ Below W0.heap.size W0 W) (hb : Below W.heap.size W w') :
    ((w'.cell? ⟨a, 0, none⟩ = some u0 ∧ w'.cell? ⟨a, 1, none⟩ = some u1 ∧ w'.cell? ⟨a, 2, none⟩ = some u2) ∧ (w'.cell? ⟨g, 0, none⟩ = some v0 ∧ w'.cell? ⟨g, 1, none⟩ = some v1 ∧ w'.cell? ⟨g, 2, none⟩ = some v2)) ∧ Below W0.heap.size W0 w' := by
  obtain ⟨⟨⟨h0, h1, h2⟩, h3, h4, h5⟩, h6⟩ := h
  exact ⟨⟨⟨(hb.cell (World.block_lt_of_cell? _ _ h0)).trans h0, (hb.cell (World.block_lt_of_cell? _ _ h1)).trans h1, (hb.cell (World.block_lt_of_cell? _ _ h2)).trans h2⟩, (hb.cell (World.block_lt_of_cell? _ _ h3)).trans h3, (hb.cell (World.block_lt_of_cell? _ _ h4)).trans h4, (hb.cell (World.block_lt_of_cell? _ _ h5)).trans h5⟩, Below.on h6 hb⟩
theorem zeroOp (w : World) : (zeroValue 46).run Tryd.prog w = .ok (.agg #[.string ⟨#[]⟩, .int .i64 0, .int .i64 0]) w := by kernel_rfl
theorem three_new (W : World) (a b c : Value) (t : TypeId) : (W.alloc (.cells #[a, b, c] t)).cell? ⟨W.heap.size, 0, none⟩ = some a ∧ (W.alloc (.cells #[a, b, c] t)).cell? ⟨W.heap.size, 1, none⟩ = some b ∧ (W.alloc (.cells #[a, b, c] t)).cell? ⟨W.heap.size, 2, none⟩ = some c :=
  ⟨by simp [World.cell?_alloc_new], by simp [World.cell?_alloc_new], by simp [World.cell?_alloc_new]⟩
def AddOut (w : World) (B b N : Nat) (T : List Cel) (o : Cel) (e : Ending) (w' : World) : Prop := e = .returned (.int .i64 (addCode T o)) ∧ (∃ N', N' ≤ N + 1 ∧ OpMap w' b N' (addT T o)) ∧ Below B w w' ∧ w.grownBy w' (some b)
theorem grown_after {w a c : World} {b : Nat} (h : Below w.heap.size w a) (g : a.grownBy c (some b)) : w.grownBy c (some b) := ⟨g.os.trans h.os, g.tape.trans h.tape, g.output.trans h.output, Nat.le_trans h.size g.size, fun k hk hne => (g.block k (Nat.lt_of_lt_of_le hk h.size) hne).trans (h.block k hk)⟩
theorem grown_of {w a : World} {b : Nat} (h : Below w.heap.size w a) : w.grownBy a (some b) := ⟨h.os, h.tape, h.output, h.size, fun k hk _ => h.block k hk⟩

set_option maxRecDepth 100000 in
set_option maxHeartbeats 4000000 in
theorem add_any (b N B : Nat) (T : List Cel) (p t : Int) (xs : List Int) (s : ByteArray) (w : World) (hs : s = strOfNums xs) (hm : OpMap w b N T) (ho : okT (p, t, xs)) (hN : N ≤ 1000000) (hB : B ≤ b) (hl : T.length ≤ 1000000) :
    Calls Tryd.prog 18 #[.map (some b), .agg #[.string s, .int .i64 p, .int .i64 t]] w (AddOut w B b N T (p, t, xs)) := by
  have HM : Hid (OpMap w b N T) := hm
  have HO : Hid (okT (p, t, xs)) := ho
  have HKY : keyOf Tryd.prog 69 (.agg #[.string s, .int .i64 (srt t)]) = some (okk (kO (p, t, xs))) := by rw [hs]; exact keyOf_kO ho
  have HEV : Hid (opElem (.agg #[.string s, .int .i64 p, .int .i64 t]) = some (encD (p, t, xs), [])) := by rw [hs]; exact opElem_enc (p, t, xs)
  have hK := fun W => key_any s p t W
  have hPo := fun W => isPost_any s p t W
  have hbw : b < w.heap.size := hm.lt
  have hB1 : Below w.heap.size w (w.alloc (Obj.cells #[.string s, .int .i64 p, .int .i64 t] 46)) := (Below.refl _ _).alloc (Nat.le_refl _) _
  obtain ⟨a0, a1, a2⟩ := three_new w (.string s) (.int .i64 p) (.int .i64 t) 46
  have HB1 : Hid _ := hB1
  have HK : Hid (∀ W, _) := hK
  have HPO : Hid (∀ W, _) := hPo
  have HBB : Hid (B ≤ b) := hB
  clear hm ho hs hK hPo hB1 hB
  go_enter Tryd.func18, Tryd.ntmps18
  go_wp2_with fail
  generalize w.alloc (Obj.cells #[.string s, .int .i64 p, .int .i64 t] 46) = W1 at *
  refine (HK.out _).mono ?_
  rintro e w1 ⟨rfl, hb1⟩
  have a0 := (hb1.cell (World.block_lt_of_cell? _ _ a0)).trans a0
  have a1 := (hb1.cell (World.block_lt_of_cell? _ _ a1)).trans a1
  have a2 := (hb1.cell (World.block_lt_of_cell? _ _ a2)).trans a2
  have HBw1 : Hid (Below w.heap.size w w1) := Below.on HB1.out hb1
  obtain ⟨D, hD⟩ := HM.out.below HBw1.out
  have hown := hD.1
  have HD : Hid _ := hD
  have hzo := zeroOp w1
  clear hD hb1
  go_wp2_with (at_lookup; refine wpList_lookup_own_ok _ rfl _ _ 43 rfl 69 46 lawOk Tryd.underlying43 opElem hzo zD [] rfl b N D rfl hown _ _ rfl HKY ?_; intro v ps hv; obtain ⟨⟨so, po, to⟩, rfl, hy⟩ := opElem_inv hv; simp only)
  obtain ⟨d0, d1, d2⟩ := three_new w1 (.string so) (.int .i64 po) (.int .i64 to) 46
  have hal : Below w1.heap.size w1 (w1.alloc (Obj.cells #[.string so, .int .i64 po, .int .i64 to] 46)) := (Below.refl _ _).alloc (Nat.le_refl _) _
  have a0 := (hal.cell (World.block_lt_of_cell? _ _ a0)).trans a0
  have a1 := (hal.cell (World.block_lt_of_cell? _ _ a1)).trans a1
  have a2 := (hal.cell (World.block_lt_of_cell? _ _ a2)).trans a2
  have HB3 : Hid (Below w.heap.size w (w1.alloc (Obj.cells #[.string so, .int .i64 po, .int .i64 to] 46))) := Below.on HBw1.out hal
  have HHAS : Hid (Maps.has D (okk (kO (p, t, xs))) = hasK T (keyC (p, t, xs))) := has_iff HD.out.2.2.2.2.1 HO.out
  have HOLD : Hid (∀ x, findK T (keyC (p, t, xs)) = some x → to = x.2.1) := fun x hx => by
    obtain ⟨hxT, hxk⟩ := findK_some hx
    have h1 := HD.out.2.2.2.2.2 x hxT
    rw [kO_key.2 hxk] at h1
    have h2 := hv
    rw [h1] at h2
    have h3 := opElem_at h2
    simp only [encV, Value.agg.injEq] at h3
    have h4 := congrArg Array.toList h3
    simp only [List.cons.injEq, Value.int.injEq, true_and, and_true] at h4
    exact h4.2.2
  obtain ⟨g, eg⟩ : ∃ g, g = w1.heap.size := ⟨_, rfl⟩
  rw [← eg] at d0 d1 d2 ⊢
  clear hal hv hy hown hzo HBw1 HB1 eg
  generalize w1.alloc (Obj.cells #[.string so, .int .i64 po, .int .i64 to] 46) = W3 at *
  rw [HHAS.out]
  have HM3 : Hid (OpMap W3 b N T) := HM.out.below HB3.out
  have HP1 : Hid (∀ W, Calls Tryd.prog 43 #[.agg #[.string so, .int .i64 po, .int .i64 to]] W fun e w' => e = .returned (.bool (postB to)) ∧ Below W.heap.size W w') := fun W => isPost_any so po to W
  have FIN : Hid (∀ (k : Int) (W : World) (N' : Nat), k = addCode T (p, t, xs) → N' ≤ N + 1 → OpMap W b N' (addT T (p, t, xs)) → Below B w W → w.grownBy W (some b) → AddOut w B b N T (p, t, xs) (.returned (.int .i64 k)) W) := fun k W N' hk h1 h2 h3 h4 => ⟨by rw [hk], ⟨N', h1, h2⟩, h3, h4⟩
  clear HHAS HD HM
  cases hfk : findK T (keyC (p, t, xs)) with
  | some x =>
    have eto := HOLD.out x hfk
    have hhk : hasK T (keyC (p, t, xs)) = true := by obtain ⟨h1, h2⟩ := findK_some hfk; exact hasK_iff.2 ⟨x, h1, h2⟩
    have HAC : Hid (addCode T (p, t, xs) = if (postB to != postB t) = true then 4 else 0) := by show _ = _; rw [addCode, hfk, eto]
    rw [hhk]
    clear hfk hhk HOLD eto
    clear HP1 HPO
    go_wp2_with fail
    go_region_held3 (fun W => ((W.cell? ⟨w.heap.size, 0, none⟩ = some (.string s) ∧ W.cell? ⟨w.heap.size, 1, none⟩ = some (.int .i64 p) ∧ W.cell? ⟨w.heap.size, 2, none⟩ = some (.int .i64 t)) ∧ (W.cell? ⟨g, 0, none⟩ = some (.string so) ∧ W.cell? ⟨g, 1, none⟩ = some (.int .i64 po) ∧ W.cell? ⟨g, 2, none⟩ = some (.int .i64 to))) ∧ Below W3.heap.size W3 W) (first | exact kk | exact ⟨⟨⟨a0, a1, a2⟩, d0, d1, d2⟩, (Below.refl _ _).drew⟩ | go_keep)
      ((go_at_call 43; refine (isPost_any _ _ _ _).mono ?_; rintro e w4 ⟨rfl, hb4⟩; have kk := six_below (W0 := W3) (a := w.heap.size) (g := g) (u0 := .string s) (u1 := .int .i64 p) (u2 := .int .i64 t) (v0 := .string so) (v1 := .int .i64 po) (v2 := .int .i64 to) (by assumption) hb4; clear hb4))
    all_goals
      obtain ⟨⟨⟨a0, a1, a2⟩, _⟩, hb4⟩ := kk
      have HB4 : Hid (Below w.heap.size w w4) := Below.on HB3.out hb4
      have HM4 : Hid (OpMap w4 b N T) := HM3.out.below hb4
      clear hb4 d0 d1 d2
      cases hbc : (postB to == postB t) with
      | false =>
        have hbb : (postB to != postB t) = true := by simp [bne, hbc]
        have HF : Hid (AddOut w B b N T (p, t, xs) (.returned (.int .i64 4)) w4) := FIN.out 4 w4 N (by rw [HAC.out, hbb]; rfl) (by omega) (by rw [addT, if_pos (by rw [HAC.out, hbb]; simp)]; exact HM4.out) (HB4.out.mono (by have := HBB.out; omega)) (grown_of HB4.out)
        clear HAC hbb
        go_wp2_with fail
        go_ret
        exact HF.out
      | true =>
        have hbb : (postB to != postB t) = false := by simp [bne, hbc]
        have HAC' : Hid (addCode T (p, t, xs) = 0) := by show _ = _; rw [HAC.out, hbb]; rfl
        clear HAC hbb
        by_cases hp : p = 0
        · have hp' : (p == 0) = true := by simpa using hp
          have HP0 : Hid (p = 0) := hp
          clear hp
          have HC0 : Hid ((0 : Int) = addCode T (p, t, xs)) := by show _ = _; rw [HAC'.out]
          have HT0 : Hid (dropK T (keyC (p, t, xs)) = addT T (p, t, xs)) := by show _ = _; rw [addT, ← HC0.out]; simp [HP0.out]
          go_wp2_with fail
          refine (HK.out _).mono ?_
          rintro e w5 ⟨rfl, hb5⟩
          obtain ⟨D5, hD5⟩ := HM4.out.below hb5
          have hown5 := hD5.1
          have HD5 : Hid (∀ w6, w6.ownsMap Tryd.prog 69 opElem b N (D5.del (okk (kO (p, t, xs)))) → OpMap w6 b N (dropK T (keyC (p, t, xs)))) := fun w6 h6 => OpMap.del HO.out hD5 h6
          have HB5 : Hid (Below w.heap.size w w5) := Below.on HB4.out hb5
          clear hD5 hb5
          go_wp2_with (at_delete; refine wpList_delete_own _ rfl _ _ 43 69 rfl 46 lawOk Tryd.underlying43 opElem b N D5 rfl hown5 _ _ rfl HKY ?_; intro w6 hown6 hturn6)
          have HF : Hid (AddOut w B b N T (p, t, xs) (.returned (.int .i64 0)) w6) := FIN.out 0 w6 N HC0.out (by omega) (by rw [← HT0.out]; exact HD5.out w6 hown6) ((HB5.out.mono (by have := HBB.out; omega)).grown hturn6.grown (by have := HBB.out; have := HB5.out.size; omega) (fun j hj => by cases hj; exact HBB.out)) (grown_after HB5.out hturn6.grown)
          clear hown6 hturn6 hown5
          go_wp2_with fail
          go_ret
          exact HF.out
        · have hp' : (p == 0) = false := by simpa using hp
          have HP0 : Hid (¬ p = 0) := hp
          clear hp
          have HC0 : Hid ((0 : Int) = addCode T (p, t, xs)) := by show _ = _; rw [HAC'.out]
          have HT0 : Hid (dropK T (keyC (p, t, xs)) ++ [(p, t, xs)] = addT T (p, t, xs)) := by show _ = _; rw [addT, ← HC0.out]; simp [HP0.out]
          go_wp2_with fail
          go_region_held3 (fun W => W.cell? ⟨w.heap.size, 0, none⟩ = some (.string s) ∧ W.cell? ⟨w.heap.size, 1, none⟩ = some (.int .i64 p) ∧ W.cell? ⟨w.heap.size, 2, none⟩ = some (.int .i64 t)) (first | exact kk5 | exact kk | go_keep)
            ((go_at_call 42; refine (HK.out _).mono ?_; rintro e w5 ⟨rfl, hb5⟩; have kk : w5.cell? ⟨w.heap.size, 0, none⟩ = some (.string s) ∧ w5.cell? ⟨w.heap.size, 1, none⟩ = some (.int .i64 p) ∧ w5.cell? ⟨w.heap.size, 2, none⟩ = some (.int .i64 t) := ⟨(hb5.cell (World.block_lt_of_cell? _ _ a0)).trans a0, (hb5.cell (World.block_lt_of_cell? _ _ a1)).trans a1, (hb5.cell (World.block_lt_of_cell? _ _ a2)).trans a2⟩; obtain ⟨D5, hD5⟩ := HM4.out.below ((Below.refl _ _).drew.trans hb5); obtain ⟨w6, hrun6, hown6, hg6⟩ := hD5.1.update lawOk Tryd.underlying43 (by unfold maxLen; omega) HKY HEV.out; have hM6 := OpMap.put HO.out hD5 hown6; have kk5 : w6.cell? ⟨w.heap.size, 0, none⟩ = some (.string s) ∧ w6.cell? ⟨w.heap.size, 1, none⟩ = some (.int .i64 p) ∧ w6.cell? ⟨w.heap.size, 2, none⟩ = some (.int .i64 t) := kkM hg6 kk (by omega)))
          all_goals
            have HF : Hid (AddOut w B b N T (p, t, xs) (.returned (.int .i64 0)) w6) := FIN.out 0 w6 (N + 1) HC0.out (by omega) (by rw [← HT0.out]; exact hM6) ((Below.mono (Below.on HB4.out ((Below.refl _ _).drew.trans hb5)) (by have := HBB.out; omega)).grown hg6 (by have := HBB.out; have := (Below.on HB4.out ((Below.refl _ _).drew.trans hb5)).size; omega) (fun j hj => by cases hj; exact HBB.out)) (grown_after (Below.on HB4.out ((Below.refl _ _).drew.trans hb5)) hg6)
            clear hown6 hg6 hM6 hrun6 hD5 kk kk5
            go_wp2_with fail
            go_ret
            exact HF.out
  | none =>
    have hhk := findK_none hfk
    have HAC : Hid (addCode T (p, t, xs) = if p = 0 then 0 else if T.length = 200 then 3 else 0) := by show _ = _; rw [addCode, hfk]
    rw [hhk]
    clear hfk hhk HOLD
    have HB4 : Hid (Below w.heap.size w W3.drew) := HB3.out.drew
    have HM4 : Hid (OpMap W3.drew b N T) := HM3.out.below (Below.refl _ _).drew
    go_wp2_with fail
    refine wp_region_held_drew (S := fun _ => True) (by kernel_rfl) ?_ (fun hHeld => ?_)
    · exact trivial
    refine hTake (i := 0) (v := .bool false) (some 19) (by kernel_rfl) (by kernel_rfl) (by kernel_rfl) (by kernel_rfl) (by kernel_rfl) (fun _ _ _ h => h) (fun o ho W hSw => ?y0) (by assumption) ?_
    case y0 =>
      cases ho
      simp [execOp, go_sem, Act.eval]
    simp only [Act.put, List.setIfInBounds_toArray, List.set_cons_zero, List.set_cons_succ]
    refine hTake (i := 1) (v := .bool false) (some 20) (by kernel_rfl) (by kernel_rfl) (by kernel_rfl) (by kernel_rfl) (by kernel_rfl) (fun _ _ _ h => h) (fun o ho W hSw => ?y1) (by assumption) ?_
    case y1 =>
      cases ho
      simp [execOp, go_sem, Act.eval]
    simp only [Act.put, List.setIfInBounds_toArray, List.set_cons_zero, List.set_cons_succ]
    refine hSkip (i := 2) (some 21) (by kernel_rfl) (by kernel_rfl) (by kernel_rfl) (by kernel_rfl) (by kernel_rfl) (fun _ _ _ h => h) (by assumption) ?_
    simp only [Act.put, List.setIfInBounds_toArray, List.set_cons_zero, List.set_cons_succ]
    refine hSkip (i := 3) (some 22) (by kernel_rfl) (by kernel_rfl) (by kernel_rfl) (by kernel_rfl) (by kernel_rfl) (fun _ _ _ h => h) (by assumption) ?_
    simp only [Act.put, List.setIfInBounds_toArray, List.set_cons_zero, List.set_cons_succ]
    refine hSkip (i := 4) (some 23) (by kernel_rfl) (by kernel_rfl) (by kernel_rfl) (by kernel_rfl) (by kernel_rfl) (fun _ _ _ h => h) (by assumption) ?_
    simp only [Act.put, List.setIfInBounds_toArray, List.set_cons_zero, List.set_cons_succ]
    refine hSkip (i := 5) (some 24) (by kernel_rfl) (by kernel_rfl) (by kernel_rfl) (by kernel_rfl) (by kernel_rfl) (fun _ _ _ h => h) (by assumption) ?_
    simp only [Act.put, List.setIfInBounds_toArray, List.set_cons_zero, List.set_cons_succ]
    refine hSkip (i := 6) (some 25) (by kernel_rfl) (by kernel_rfl) (by kernel_rfl) (by kernel_rfl) (by kernel_rfl) (fun _ _ _ h => h) (by assumption) ?_
    simp only [Act.put, List.setIfInBounds_toArray, List.set_cons_zero, List.set_cons_succ]
    refine hTake (i := 7) (v := .bool false) (some 26) (by kernel_rfl) (by kernel_rfl) (by kernel_rfl) (by kernel_rfl) (by kernel_rfl) (fun _ _ _ h => h) (fun o ho W hSw => ?y7) (by assumption) ?_
    case y7 =>
      cases ho
      simp [execOp, go_sem, Act.eval]
    simp only [Act.put, List.setIfInBounds_toArray, List.set_cons_zero, List.set_cons_succ]
    refine hTake (i := 8) (v := .bool false) (some 18) (by kernel_rfl) (by kernel_rfl) (by kernel_rfl) (by kernel_rfl) (by kernel_rfl) (fun _ _ _ h => h) (fun o ho W hSw => ?y8) (by assumption) ?_
    case y8 =>
      cases ho
      simp [execOp, go_sem, Act.eval]
    simp only [Act.put, List.setIfInBounds_toArray, List.set_cons_zero, List.set_cons_succ]
    refine wpAnyH_done (by kernel_rfl) ?_ _
    have a0 : W3.drew.cell? ⟨w.heap.size, 0, none⟩ = some (.string s) := a0
    have a1 : W3.drew.cell? ⟨w.heap.size, 1, none⟩ = some (.int .i64 p) := a1
    have a2 : W3.drew.cell? ⟨w.heap.size, 2, none⟩ = some (.int .i64 t) := a2
    clear d0 d1 d2 HP1 HPO
    generalize W3.drew = w4 at *
    by_cases hp : p = 0
    · have hp' : (p == 0) = true := by simpa using hp
      have HP0 : Hid (p = 0) := hp
      clear hp
      have HC0 : Hid ((0 : Int) = addCode T (p, t, xs)) := by show _ = _; rw [HAC.out, if_pos HP0.out]
      have HT0 : Hid (dropK T (keyC (p, t, xs)) = addT T (p, t, xs)) := by show _ = _; rw [addT, ← HC0.out]; simp [HP0.out]
      go_wp2_with fail
      refine (HK.out _).mono ?_
      rintro e w5 ⟨rfl, hb5⟩
      obtain ⟨D5, hD5⟩ := HM4.out.below hb5
      have hown5 := hD5.1
      have HD5 : Hid (∀ w6, w6.ownsMap Tryd.prog 69 opElem b N (D5.del (okk (kO (p, t, xs)))) → OpMap w6 b N (dropK T (keyC (p, t, xs)))) := fun w6 h6 => OpMap.del HO.out hD5 h6
      have HB5 : Hid (Below w.heap.size w w5) := Below.on HB4.out hb5
      clear hD5 hb5
      go_wp2_with (at_delete; refine wpList_delete_own _ rfl _ _ 43 69 rfl 46 lawOk Tryd.underlying43 opElem b N D5 rfl hown5 _ _ rfl HKY ?_; intro w6 hown6 hturn6)
      have HF : Hid (AddOut w B b N T (p, t, xs) (.returned (.int .i64 0)) w6) := FIN.out 0 w6 N HC0.out (by omega) (by rw [← HT0.out]; exact HD5.out w6 hown6) ((HB5.out.mono (by have := HBB.out; omega)).grown hturn6.grown (by have := HBB.out; have := HB5.out.size; omega) (fun j hj => by cases hj; exact HBB.out)) (grown_after HB5.out hturn6.grown)
      clear hown6 hturn6 hown5
      go_wp2_with fail
      go_ret
      exact HF.out
    · have hp' : (p == 0) = false := by simpa using hp
      have HP0 : Hid (¬ p = 0) := hp
      clear hp
      have hlen : ∀ ty, (Builtin.len_ #[43] ty #[.map (some b)]).run Tryd.prog w4 = .ok (.int .i64 T.length) w4 := fun ty => by obtain ⟨D4, h4⟩ := HM4.out; rw [← h4.2.2.2.1]; exact h4.1.len Tryd.underlying43 ty
      by_cases hT : T.length = 200
      · have hT' : ((T.length : Int) == 200) = true := by simp; omega
        have HF : Hid (AddOut w B b N T (p, t, xs) (.returned (.int .i64 3)) w4) := FIN.out 3 w4 N (by rw [HAC.out, if_neg HP0.out, if_pos hT]) (by omega) (by rw [addT, if_pos (by rw [HAC.out, if_neg HP0.out, if_pos hT]; simp)]; exact HM4.out) (HB4.out.mono (by have := HBB.out; omega)) (grown_of HB4.out)
        clear HAC
        rw [hT] at hlen
        clear hT hT' hl
        go_wp2_with fail
        go_ret
        exact HF.out
      · have hT' : ((T.length : Int) == 200) = false := by simp; omega
        have hT'' : ¬ ((T.length : Int) = 200) := by omega
        have HT9 : Hid (¬ T.length = 200) := hT
        clear hT
        have HC0 : Hid ((0 : Int) = addCode T (p, t, xs)) := by show _ = _; rw [HAC.out, if_neg HP0.out, if_neg HT9.out]
        have HT0 : Hid (dropK T (keyC (p, t, xs)) ++ [(p, t, xs)] = addT T (p, t, xs)) := by show _ = _; rw [addT, ← HC0.out]; simp [HP0.out]
        go_wp2_with fail
        go_region_held3 (fun W => W.cell? ⟨w.heap.size, 0, none⟩ = some (.string s) ∧ W.cell? ⟨w.heap.size, 1, none⟩ = some (.int .i64 p) ∧ W.cell? ⟨w.heap.size, 2, none⟩ = some (.int .i64 t)) (first | exact kk5 | exact kk | go_keep)
          ((go_at_call 42; refine (HK.out _).mono ?_; rintro e w5 ⟨rfl, hb5⟩; have kk : w5.cell? ⟨w.heap.size, 0, none⟩ = some (.string s) ∧ w5.cell? ⟨w.heap.size, 1, none⟩ = some (.int .i64 p) ∧ w5.cell? ⟨w.heap.size, 2, none⟩ = some (.int .i64 t) := ⟨(hb5.cell (World.block_lt_of_cell? _ _ a0)).trans a0, (hb5.cell (World.block_lt_of_cell? _ _ a1)).trans a1, (hb5.cell (World.block_lt_of_cell? _ _ a2)).trans a2⟩; obtain ⟨D5, hD5⟩ := HM4.out.below ((Below.refl _ _).drew.trans hb5); obtain ⟨w6, hrun6, hown6, hg6⟩ := hD5.1.update lawOk Tryd.underlying43 (by unfold maxLen; omega) HKY HEV.out; have hM6 := OpMap.put HO.out hD5 hown6; have kk5 : w6.cell? ⟨w.heap.size, 0, none⟩ = some (.string s) ∧ w6.cell? ⟨w.heap.size, 1, none⟩ = some (.int .i64 p) ∧ w6.cell? ⟨w.heap.size, 2, none⟩ = some (.int .i64 t) := kkM hg6 kk (by omega)))
        all_goals
          have HF : Hid (AddOut w B b N T (p, t, xs) (.returned (.int .i64 0)) w6) := FIN.out 0 w6 (N + 1) HC0.out (by omega) (by rw [← HT0.out]; exact hM6) ((Below.mono (Below.on HB4.out ((Below.refl _ _).drew.trans hb5)) (by have := HBB.out; omega)).grown hg6 (by have := HBB.out; have := (Below.on HB4.out ((Below.refl _ _).drew.trans hb5)).size; omega) (fun j hj => by cases hj; exact HBB.out)) (grown_after (Below.on HB4.out ((Below.refl _ _).drew.trans hb5)) hg6)
          clear hown6 hg6 hM6 hrun6 hD5 kk kk5
          go_wp2_with fail
          go_ret
          exact HF.out

end Go.Proofs.YtbfhpnacoigfkaaDoor
