/- Texts of StrI, GrI, GrJ, GrC. Own work of the verifier. -/
import Derived.Test.YtbnmmcegjlmdmaaGreatDoorUqad
import Derived.Test.YtbnmmcegjlmdmaaGreatDoorUqap
import Derived.Test.YtbnmmcegjlmdmaaGreatDoorUqaw
import Derived.Test.YtbnmmcegjlmdmaaGreatDoorUqav
import Derived.Test.YtbnmmcegjlmdmaaGreatDoorUqak
import Derived.Test.YtbnmmcegjlmdmaaGreatDoorUqao
import Derived.Lib.AppendZeros
import Derived.Deep.AppendLies
import Derived.Laws.AppendOwnNone
namespace Go.Proofs.YtbnmmcegjlmdmaaGreatDoor
open Go Go.RowKit
set_option linter.unusedVariables false
theorem str_inj {xs ys : List Int} (hx : Byte xs) (hy : Byte ys) : (strOfNums xs == strOfNums ys) = decide (xs = ys) := by
  have h1 := str_beq hx (strOfNums ys).toList
  have h2 := (str_eq hy (strOfNums ys).toList).1 rfl
  rw [← h2] at h1
  rw [← h1]
  congr 1
  rw [ByteArray.toList_eq]
theorem str_ne {xs ys : List Int} (hx : Byte xs) (hy : Byte ys) (h : strOfNums xs = strOfNums ys) : xs = ys := by
  have h1 := str_inj hx hy
  rw [h, str_inj hy hy] at h1
  simpa using h1.symm
end Go.Proofs.YtbnmmcegjlmdmaaGreatDoor

namespace Go.Proofs.YtbnmmcegjlmdmaaGreatDoor
open Go Go.RowKit Go.Maps Go.Shelf
set_option linter.unusedVariables false
set_option linter.unusedSimpArgs false
theorem foIn_at {w : World} {B : Nat} : ∀ (ts : List Tr) (vs : List Value), FoIn w B (itsF ts) vs → ∀ j (h : j < ts.length), FoIn w B (.node (ts[j]'h).1 (ts[j]'h).2 .nil) [vs.getD j .nilIface]
  | [], vs, _, j, h => absurd h (Nat.not_lt_zero _)
  | x :: r, vs, hf, j, h => by
    obtain ⟨v, vr, rfl, hn, hr⟩ := hf
    cases j with
    | zero => exact ⟨v, [], rfl, hn, rfl⟩
    | succ j => exact foIn_at r vr hr j (by simpa using h)
theorem foIn_len {w : World} {B : Nat} : ∀ (ts : List Tr) (vs : List Value), FoIn w B (itsF ts) vs → vs.length = ts.length
  | [], vs, h => by rw [show vs = [] from h]; rfl
  | x :: r, vs, hf => by
    obtain ⟨v, vr, rfl, hn, hr⟩ := hf
    simp [foIn_len r vr hr]
def pairV : Value → Nat × Value
  | .iface t x => (t, x)
  | _ => (0, .nilIface)
theorem listSp_any (ts : List Tr) (vs : List Value) (p : Option Addr) (n cp B Bt : Nat) (ev : Int) (w0 w : World) (hn : n = ts.length) (hrow : w.ownsRow B 49 1 (.slice p n cp) n vs) (hfo : FoIn w0 Bt (itsF ts) vs) (hw : Below w0.heap.size w0 w) (hl : ts.length ≤ 2000) (hpos : 0 < w0.heap.size) :
    Calls Tryz.prog 79 #[.slice p n cp, varV ev] w (TrOut w (lstT (vT ev) ts)) := by
  subst hn
  have hpw : 0 < w.heap.size := Nat.lt_of_lt_of_le hpos hw.size
  have hfw : FoIn w 0 (itsF ts) vs := FoIn.imp2 (Nat.zero_le _) (fun q v hq => (hw.cell (World.block_lt_of_cell? _ _ hq)).trans hq) hw.size _ _ hfo
  have hvl := foIn_len ts vs hfw
  have hzs : ∀ j, j < ts.length → Value.iface ((vs.map pairV)[j]?.getD (0, .nilIface)).1 ((vs.map pairV)[j]?.getD (0, .nilIface)).2 = vs.getD j .nilIface := fun j hj => by
    obtain ⟨t, x, e⟩ := (foIn_at ts vs hfw j hj).iface
    have hj' : j < vs.length := by omega
    have e' : vs[j] = .iface t x := by rw [List.getD_eq_getElem?_getD, List.getElem?_eq_getElem hj'] at e; exact e
    rw [e, List.getElem?_map, List.getElem?_eq_getElem hj', e']
    rfl
  obtain ⟨b, hpb, hb, hc⟩ : ∃ b, (0 < ts.length → p = some ⟨b, 0, none⟩) ∧ b < w.heap.size ∧ ∀ j, j < ts.length → w.cell? ⟨b, j, none⟩ = some (vs.getD j .nilIface) := by
    by_cases h0 : 0 < ts.length
    · obtain ⟨g, cap, e, _, _⟩ := hrow.form h0
      cases e
      have hc : ∀ j, j < ts.length → w.cell? ⟨g, j, none⟩ = some (vs.getD j .nilIface) := fun j hj => by
        rw [hrow.cellAt j (by omega), List.getElem?_eq_getElem (by omega), List.getD_eq_getElem?_getD, List.getElem?_eq_getElem (by omega)]
        rfl
      exact ⟨g, fun _ => rfl, World.block_lt_of_cell? _ _ (hc 0 h0), hc⟩
    · exact ⟨0, fun h => absurd h h0, hpw, fun j hj => absurd (Nat.lt_of_le_of_lt (Nat.zero_le j) hj) h0⟩
  refine (listVar_any ts (vs.map pairV) b cp 0 p hpb ev w hl hb (Nat.zero_le _) (fun j hj => by rw [hc j hj, hzs j hj]) (fun j hj => by rw [hzs j hj]; exact foIn_at ts vs hfw j hj)).mono ?_
  rintro e w' ⟨v, rfl, h1, h2⟩
  rw [listV_tr] at h1
  exact ⟨v, rfl, FoC.of _ _ h1, h2⟩
theorem sNilG : strOfNums [91, 93] = ⟨#[91, 93]⟩ := rfl
theorem nqN_atom (w : World) (a b : ByteArray) : (binOp .neq 49 (.iface 74 (.string a)) (.iface 74 (.string b))).run Tryz.prog w = .ok (.bool (!(a == b))) w := by kernel_rfl
theorem nqN_var (w : World) (x : Value) (b : ByteArray) : (binOp .neq 49 (.iface 84 x) (.iface 74 (.string b))).run Tryz.prog w = .ok (.bool true) w := by kernel_rfl
theorem nqN_num (w : World) (x : Value) (b : ByteArray) : (binOp .neq 49 (.iface 95 x) (.iface 74 (.string b))).run Tryz.prog w = .ok (.bool true) w := by kernel_rfl
theorem nqN_comp (w : World) (x : Value) (b : ByteArray) : (binOp .neq 49 (.iface 76 x) (.iface 74 (.string b))).run Tryz.prog w = .ok (.bool true) w := by kernel_rfl
theorem neqNil {w0 : World} {Bt : Nat} {c : Cel} {k : Fo} {u : Value} (hfu : FoIn w0 Bt (.node c k .nil) [u]) (hkk : cellB c.1 c.2.1 c.2.2.length = true) (hby : Byte c.2.2) : ∀ W, (binOp .neq 49 u (.iface 74 (.string ⟨#[91, 93]⟩))).run Tryz.prog W = .ok (.bool (!decide (c = nilC))) W := by
  intro W
  obtain ⟨u', ur, eu, hnode, _⟩ := hfu
  obtain ⟨rfl, rfl⟩ := List.cons.inj eu
  obtain ⟨c1, c2, c3⟩ := c
  simp only at hkk hby hnode
  have hne : ∀ z : Int, c1 = z → z ≠ 2 → decide ((c1, c2, c3) = nilC) = false := fun z hz hz2 => decide_eq_false (fun e => hz2 (by rw [← hz]; exact congrArg Prod.fst e))
  rcases hnode with ⟨hk, rfl⟩ | ⟨hk, rfl⟩ | ⟨hk, rfl⟩ | ⟨hk, b, g, us, rfl, _⟩
  · rw [nqN_var, hne 0 hk (by decide)]; rfl
  · rw [nqN_num, hne 1 hk (by decide)]; rfl
  · have hc : c2 = 0 := by
      simp only [cellB, decide_eq_true_eq] at hkk
      omega
    subst hk hc
    rw [nqN_atom, ← sNilG, str_inj hby (byte_small (by decide))]
    have : (decide (c3 = [91, 93])) = decide (((2 : Int), (0 : Int), c3) = nilC) := decide_eq_decide.2 ⟨fun h => by rw [h]; rfl, fun h => by injection h with _ h; injection h with _ h⟩
    rw [this]
  · rw [nqN_comp, hne 3 hk (by decide)]; rfl
theorem GOutI.from {w0 : World} {gp gb nb : Nat} {a a2 : Addr} {w w1 : World} {x : Tr × GSt} {e : Ending} {w' : World} (h : GOutI w0 gp gb nb a a2 w1 x e w') (hf : GFr gb nb w w1) : GOutI w0 gp gb nb a a2 w x e w' := by
  obtain ⟨v, h1, h2, h3, h4⟩ := h
  exact ⟨v, h1, h2, h3, hf.trans h4⟩
theorem GOutI.tree {w0 : World} {gp gb nb : Nat} {a a2 : Addr} {w : World} {st : GSt} {t : Tr} {e : Ending} {w' : World} (h : GMi w0 gp gb nb a a2 st w) (ht : TrOut w t e w') : GOutI w0 gp gb nb a a2 w (t, st) e w' := by
  obtain ⟨v, h1, h2, h3⟩ := ht
  exact ⟨v, h1, h2, h.below h3, GFr.of gb nb h3⟩
set_option maxRecDepth 100000 in
set_option maxHeartbeats 2000000 in
theorem terminals_any {w0 : World} {gp gb nb : Nat} {a a2 : Addr} {st : GSt} {w : World} (h : GMi w0 gp gb nb a a2 st w) (t : Tr) (v : Value) (Bt : Nat) (xa xb : Int) (ht : t.fo.ok) (hl : (itC t).length ≤ 2000) (hf : FoIn w0 Bt t.fo [v]) :
    Calls Tryz.prog 66 #[ptrV gb, v, varV xa, varV xb] w (GOutI w0 gp gb nb a a2 w (gTer failT t xa xb st)) := by
  have hlk : t.2.cells.length ≤ 10000 := by simp [itC] at hl; omega
  have hpos : 0 < w0.heap.size := Nat.lt_of_le_of_lt (Nat.zero_le _) (World.block_lt_of_cell? _ _ h.err.fail)
  have hsl : (splitF t.1 t.2).1.length ≤ 2000 := by
    have h1 := (split_all _ t.1 t.2 (Nat.le_refl _) ht).2.2
    have h2 := congrArg List.length h1
    have h3 : ∀ l : List Tr, l.length ≤ (l.flatMap (fun x => dot :: itC x)).length := by
      intro l
      induction l with
      | nil => simp
      | cons x r ih => simp only [List.flatMap_cons, List.length_append, List.length_cons]; omega
    have := h3 (splitF t.1 t.2).1
    simp only [List.length_append] at h2
    simp only [itC] at hl
    omega
  have HSP := splitList_any t.1 t.2 v Bt w0 w ht hf h.bel hlk
  obtain ⟨tv, xv, rfl⟩ := FoIn.iface hf
  have HH : Hid (GMi w0 gp gb nb a a2 st w) := h
  have HBADA : Hid (∀ w1, Below w.heap.size w w1 → Calls Tryz.prog 72 #[ptrV gb, efV a] w1 (GOutI w0 gp gb nb a a2 w1 (failT, flt 4 st)) ∧ w1.cell? ⟨1, 0, none⟩ = some (efV a)) := fun w1 hb => ⟨fail_any (h.below hb) 4 (.inr rfl), (h.below hb).errs.fail⟩
  have HFBA : Hid (∀ w1, Below w.heap.size w w1 → (splitF t.1 t.2).2.1 ≠ nilC → ∀ e w2, GOutI w0 gp gb nb a a2 w1 (failT, flt 4 st) e w2 → GOutI w0 gp gb nb a a2 w (gTer failT t xa xb st) e w2) := fun w1 hb hne e w2 h2 => by
    unfold gTer; rw [if_neg hne]; exact h2.from (GFr.of gb nb hb)
  have HGD : Hid (∀ w1 p n cp vs, Below w.heap.size w w1 → n = (splitF t.1 t.2).1.length → w1.ownsRow w.heap.size 49 1 (.slice p n cp) n vs → FoIn w0 Bt (itsF (splitF t.1 t.2).1) vs → Calls Tryz.prog 79 #[.slice p n cp, varV xb] w1 (TrOut w1 (lstT (vT xb) (splitF t.1 t.2).1))) := fun w1 p n cp vs hb hn hrow hfo =>
    listSp_any _ vs p n cp w.heap.size Bt xb w0 w1 hn hrow hfo (Below.on h.bel hb) hsl hpos
  have HEND : Hid (∀ w2, Below w.heap.size w w2 → (splitF t.1 t.2).2.1 = nilC → ∀ e w3, TrOut w2 (cmpT [61] [vT xa, lstT (vT xb) (splitF t.1 t.2).1]) e w3 → GOutI w0 gp gb nb a a2 w (gTer failT t xa xb st) e w3) := fun w2 hb he e w3 h3 => by
    unfold gTer; rw [if_pos he]; exact (GOutI.tree (h.below hb) h3).from (GFr.of gb nb hb)
  clear h hlk hpos hsl hl hf
  go_enter Tryz.func66, Tryz.ntmps66
  go_wp2_with fail
  refine HSP.mono ?_
  rintro e w1 ⟨p, n, cp, u, vs, rfl, hn, hrow, hfo, hfu, hok1, hok2, hb⟩
  obtain ⟨HBAD0, g0⟩ := HBADA.out w1 hb
  have HBAD : Hid (Calls Tryz.prog 72 #[ptrV gb, efV a] w1 (GOutI w0 gp gb nb a a2 w1 (failT, flt 4 st))) := HBAD0
  have HFB : Hid ((splitF t.1 t.2).2.1 ≠ nilC → ∀ e w2, GOutI w0 gp gb nb a a2 w1 (failT, flt 4 st) e w2 → GOutI w0 gp gb nb a a2 w (gTer failT t xa xb st) e w2) := HFBA.out w1 hb
  have HGOOD := HGD.out w1 p n cp vs hb hn hrow hfo
  have HB1 : Hid (Below w.heap.size w w1) := hb
  have hkk := hok2.1
  have hby := hok2.2.1
  obtain ⟨c, ec⟩ : ∃ c, c = (splitF t.1 t.2).2.1 := ⟨_, rfl⟩
  rw [← ec] at hfu hkk hby HFB HEND
  clear HBADA HFBA HGD HSP hn hrow hfo hok1 hok2 hb HBAD0 ec ht
  obtain ⟨tu, xu, rfl⟩ := FoIn.iface hfu
  have HNQ := neqNil hfu hkk hby
  clear hfu hkk hby
  by_cases hc : c = nilC
  · have HE2 : Hid (∀ w2, Below w.heap.size w w2 → ∀ e w3, TrOut w2 (cmpT [61] [vT xa, lstT (vT xb) (splitF t.1 t.2).1]) e w3 → GOutI w0 gp gb nb a a2 w (gTer failT t xa xb st) e w3) := fun w2 hb => HEND.out w2 hb hc
    have HNQ' : ∀ W, (binOp .neq 49 (.iface tu xu) (.iface 74 (.string ⟨#[91, 93]⟩))).run Tryz.prog W = .ok (.bool false) W := fun W => by rw [HNQ W]; simp [hc]
    clear HEND HFB HBAD hc HNQ g0
    go_wp2_with fail
    refine HGOOD.mono ?_
    rintro e w2 ⟨z, rfl, hz, hb2⟩
    obtain ⟨tz, xz, rfl⟩ := foC_if hz
    have HC := call2_any [61] ⟨#[61]⟩ rfl (vT xa) _ (varV xa) _ w2 (foC_var _ _) hz
    have HB2 : Hid (Below w.heap.size w w2) := Below.on HB1.out hb2
    clear hz hb2 HGOOD
    go_wp2_with fail
    refine HC.mono ?_
    rintro e w3 h3
    have HG : Hid (GOutI w0 gp gb nb a a2 w (gTer failT t xa xb st) e w3) := HE2.out w2 HB2.out e w3 h3
    obtain ⟨z3, rfl, _⟩ := h3
    clear HC HE2 HB2
    go_wp2_with fail
    go_ret
    exact HG.out
  · have HNE : Hid (c ≠ nilC) := hc
    have HNQ' : ∀ W, (binOp .neq 49 (.iface tu xu) (.iface 74 (.string ⟨#[91, 93]⟩))).run Tryz.prog W = .ok (.bool true) W := fun W => by rw [HNQ W]; simp [hc]
    clear hc HNQ HGOOD HEND
    go_wp2_with fail
    refine HBAD.out.mono ?_
    rintro e w2 HG2
    have HG : Hid (GOutI w0 gp gb nb a a2 w (gTer failT t xa xb st) e w2) := HFB.out HNE.out e w2 HG2
    obtain ⟨z, rfl, _⟩ := HG2
    clear HBAD HFB
    go_wp2_with fail
    go_ret
    exact HG.out
end Go.Proofs.YtbnmmcegjlmdmaaGreatDoor

namespace Go.Proofs.YtbnmmcegjlmdmaaGreatDoor
open Go Go.RowKit Go.Maps Go.Shelf
set_option linter.unusedVariables false
set_option linter.unusedSimpArgs false
theorem ite2_yes {α : Type} {P Q : Prop} [Decidable P] [Decidable Q] {a b : α} (h : P ∧ Q) : (if P then if Q then a else b else b) = a := by rw [if_pos h.1, if_pos h.2]
def olB (s : ByteArray) (n : Int) : Bool := decide (s.toList = [91, 93] ∧ n = 0 ∨ s.toList = [46] ∧ n = 2)
set_option maxRecDepth 100000 in
theorem ofList_any (s : ByteArray) (n : Int) (w : World) : Calls Tryz.prog 73 #[.agg #[.string s, .int .i64 n]] w fun e w' => e = .returned (.bool (olB s n)) ∧ Below w.heap.size w w' := by
  have HF := fun W => nbFunAtom ⟨#[91, 93]⟩ W
  obtain ⟨W0, eW⟩ : ∃ W0, W0 = w.alloc (.cells #[.string s, .int .i64 n] 52) := ⟨_, rfl⟩
  have HD : Hid (∀ W, Below W0.heap.size W0 W → W.cell? ⟨w.heap.size, 0, none⟩ = some (.string s) ∧ W.cell? ⟨w.heap.size, 1, none⟩ = some (.int .i64 n)) := fun W hW => by
    have hlt : w.heap.size < W0.heap.size := by rw [eW]; simp
    have k := (hW.block w.heap.size hlt)
    rw [eW, heap_alloc_new] at k
    obtain ⟨c0, c1, f0, f1⟩ := two_cells k
    exact ⟨c0, c1⟩
  have HB : Hid (∀ W, Below W0.heap.size W0 W → Below w.heap.size w W) := fun W hW => Below.on (by rw [eW]; exact below_new _ _) hW
  obtain ⟨d0, d1⟩ := HD.out W0 (Below.refl _ _)
  have HW : Hid (W0 = w.alloc (.cells #[.string s, .int .i64 n] 52)) := eW
  clear eW
  by_cases h1 : s.toList = [91, 93] ∧ n = 0
  · have HE : Hid (olB s n = true) := by
      show olB s n = true
      unfold olB
      exact decide_eq_true (.inl h1)
    have H1 : Hid (s.toList = [91, 93] ∧ n = 0) := h1
    clear h1
    go_enter Tryz.func73, Tryz.ntmps73
    go_wp2_with fail
    rw [← HW.out]
    refine wp_region_held_drew (S := fun W => W.cell? ⟨w.heap.size, 0, none⟩ = some (.string s) ∧ W.cell? ⟨w.heap.size, 1, none⟩ = some (.int .i64 n)) (by kernel_rfl) ?_ (fun hHeld => ?_)
    · exact ⟨d0, d1⟩
    refine hTake (i := 0) (v := .agg #[.string s, .int .i64 n]) (some 3) (by kernel_rfl) (by kernel_rfl) (by kernel_rfl) (by kernel_rfl) (by kernel_rfl) (fun _ _ _ h => h) (fun o ho W hSw => ?y0) (by assumption) ?_
    case y0 =>
      cases ho
      obtain ⟨s0, s1⟩ := hSw
      simp [execOp, go_sem, Act.eval, s0, s1]
    simp only [Act.put, List.setIfInBounds_toArray, List.set_cons_zero, List.set_cons_succ]
    refine hCallE (i := 1) (f := 42) (args := #[.string ⟨#[91, 93]⟩]) (some 4) (by kernel_rfl) (by kernel_rfl) (by kernel_rfl) (fun o ho => ?c1) (HF _) ?k1 (fun ch w' hh => by cases hh.1) (fun w' hh => by cases hh.1)
    case c1 =>
      cases ho
      simp [execOp, go_sem, Act.eval]
    case k1 =>
      rintro u w1 ⟨hu, hb1⟩
      obtain rfl := Ending.returned.inj hu
      have hb0 : Below W0.heap.size W0 w1 := ⟨hb1.os, hb1.tape, hb1.output, hb1.size, hb1.block⟩
      obtain ⟨k0, k1⟩ := HD.out w1 hb0
      have HB1 : Hid (Below w.heap.size w w1) := HB.out w1 hb0
      clear hu hb1 hb0
      have hS1 : w1.cell? ⟨w.heap.size, 0, none⟩ = some (.string s) ∧ w1.cell? ⟨w.heap.size, 1, none⟩ = some (.int .i64 n) := ⟨k0, k1⟩
      refine ⟨hS1, ?_⟩
      simp only [Act.put, List.setIfInBounds_toArray, List.set_cons_zero, List.set_cons_succ]
      refine hTake (i := 2) (v := .bool true) (some 5) (by kernel_rfl) (by kernel_rfl) (by kernel_rfl) (by kernel_rfl) (by kernel_rfl) (fun _ _ _ h => h) (fun o ho W hSw => ?y2) (by assumption) ?_
      case y2 =>
        cases ho
        simp [execOp, go_sem, Act.eval]
        exact ite2_yes H1.out
      simp only [Act.put, List.setIfInBounds_toArray, List.set_cons_zero, List.set_cons_succ]
      refine hTake (i := 3) (v := .bool true) (some 6) (by kernel_rfl) (by kernel_rfl) (by kernel_rfl) (by kernel_rfl) (by kernel_rfl) (fun _ _ _ h => h) (fun o ho W hSw => ?y3) (by assumption) ?_
      case y3 =>
        cases ho
        simp [execOp, go_sem, Act.eval]
      simp only [Act.put, List.setIfInBounds_toArray, List.set_cons_zero, List.set_cons_succ]
      refine hSkip (i := 4) (some 7) (by kernel_rfl) (by kernel_rfl) (by kernel_rfl) (by kernel_rfl) (by kernel_rfl) (fun _ _ _ h => h) (by assumption) ?_
      simp only [Act.put, List.setIfInBounds_toArray, List.set_cons_zero, List.set_cons_succ]
      refine hSkip (i := 5) (some 8) (by kernel_rfl) (by kernel_rfl) (by kernel_rfl) (by kernel_rfl) (by kernel_rfl) (fun _ _ _ h => h) (by assumption) ?_
      simp only [Act.put, List.setIfInBounds_toArray, List.set_cons_zero, List.set_cons_succ]
      refine hSkip (i := 6) (some 9) (by kernel_rfl) (by kernel_rfl) (by kernel_rfl) (by kernel_rfl) (by kernel_rfl) (fun _ _ _ h => h) (by assumption) ?_
      simp only [Act.put, List.setIfInBounds_toArray, List.set_cons_zero, List.set_cons_succ]
      refine hTake (i := 7) (v := .bool true) (some 10) (by kernel_rfl) (by kernel_rfl) (by kernel_rfl) (by kernel_rfl) (by kernel_rfl) (fun _ _ _ h => h) (fun o ho W hSw => ?y4) (by assumption) ?_
      case y4 =>
        cases ho
        simp [execOp, go_sem, Act.eval]
      simp only [Act.put, List.setIfInBounds_toArray, List.set_cons_zero, List.set_cons_succ]
      refine hTake (i := 8) (v := .bool true) (some 2) (by kernel_rfl) (by kernel_rfl) (by kernel_rfl) (by kernel_rfl) (by kernel_rfl) (fun _ _ _ h => h) (fun o ho W hSw => ?y5) (by assumption) ?_
      case y5 =>
        cases ho
        simp [execOp, go_sem, Act.eval]
      simp only [Act.put, List.setIfInBounds_toArray, List.set_cons_zero, List.set_cons_succ]
      refine wpAnyH_done (by kernel_rfl) ?_ _
      change Exit.then _ _ _ _ w1
      go_wp2_with fail
      go_ret
      exact ⟨ret_bool (by rw [HE.out]), HB1.out⟩
  · by_cases h2 : s.toList = [46] ∧ n = 2
    · have HE : Hid (olB s n = true) := by
        show olB s n = true
        unfold olB
        exact decide_eq_true (.inr h2)
      have H1 : Hid (¬ (s.toList = [91, 93] ∧ n = 0)) := h1
      have H2 : Hid (s.toList = [46] ∧ n = 2) := h2
      clear h1 h2
      go_enter Tryz.func73, Tryz.ntmps73
      go_wp2_with fail
      rw [← HW.out]
      refine wp_region_held_drew (S := fun W => W.cell? ⟨w.heap.size, 0, none⟩ = some (.string s) ∧ W.cell? ⟨w.heap.size, 1, none⟩ = some (.int .i64 n)) (by kernel_rfl) ?_ (fun hHeld => ?_)
      · exact ⟨d0, d1⟩
      refine hTake (i := 0) (v := .agg #[.string s, .int .i64 n]) (some 3) (by kernel_rfl) (by kernel_rfl) (by kernel_rfl) (by kernel_rfl) (by kernel_rfl) (fun _ _ _ h => h) (fun o ho W hSw => ?y0) (by assumption) ?_
      case y0 =>
        cases ho
        obtain ⟨s0, s1⟩ := hSw
        simp [execOp, go_sem, Act.eval, s0, s1]
      simp only [Act.put, List.setIfInBounds_toArray, List.set_cons_zero, List.set_cons_succ]
      refine hCallE (i := 1) (f := 42) (args := #[.string ⟨#[91, 93]⟩]) (some 4) (by kernel_rfl) (by kernel_rfl) (by kernel_rfl) (fun o ho => ?c1) (HF _) ?k1 (fun ch w' hh => by cases hh.1) (fun w' hh => by cases hh.1)
      case c1 =>
        cases ho
        simp [execOp, go_sem, Act.eval]
      case k1 =>
        rintro u w1 ⟨hu, hb1⟩
        obtain rfl := Ending.returned.inj hu
        have hb0 : Below W0.heap.size W0 w1 := ⟨hb1.os, hb1.tape, hb1.output, hb1.size, hb1.block⟩
        obtain ⟨k0, k1⟩ := HD.out w1 hb0
        have HB1 : Hid (Below w.heap.size w w1) := HB.out w1 hb0
        clear hu hb1 hb0
        have hS1 : w1.cell? ⟨w.heap.size, 0, none⟩ = some (.string s) ∧ w1.cell? ⟨w.heap.size, 1, none⟩ = some (.int .i64 n) := ⟨k0, k1⟩
        refine ⟨hS1, ?_⟩
        simp only [Act.put, List.setIfInBounds_toArray, List.set_cons_zero, List.set_cons_succ]
        refine hTake (i := 2) (v := .bool false) (some 5) (by kernel_rfl) (by kernel_rfl) (by kernel_rfl) (by kernel_rfl) (by kernel_rfl) (fun _ _ _ h => h) (fun o ho W hSw => ?y2) (by assumption) ?_
        case y2 =>
          cases ho
          simp [execOp, go_sem, Act.eval]
          exact fun x y => H1.out ⟨x, y⟩
        simp only [Act.put, List.setIfInBounds_toArray, List.set_cons_zero, List.set_cons_succ]
        refine hTake (i := 3) (v := .bool false) (some 6) (by kernel_rfl) (by kernel_rfl) (by kernel_rfl) (by kernel_rfl) (by kernel_rfl) (fun _ _ _ h => h) (fun o ho W hSw => ?y3) (by assumption) ?_
        case y3 =>
          cases ho
          simp [execOp, go_sem, Act.eval]
        simp only [Act.put, List.setIfInBounds_toArray, List.set_cons_zero, List.set_cons_succ]
        refine hTake (i := 4) (v := .agg #[.string s, .int .i64 n]) (some 7) (by kernel_rfl) (by kernel_rfl) (by kernel_rfl) (by kernel_rfl) (by kernel_rfl) (fun _ _ _ h => h) (fun o ho W hSw => ?y4) (by assumption) ?_
        case y4 =>
          cases ho
          obtain ⟨s0, s1⟩ := hSw
          simp [execOp, go_sem, Act.eval, s0, s1]
        simp only [Act.put, List.setIfInBounds_toArray, List.set_cons_zero, List.set_cons_succ]
        refine hTake (i := 5) (v := .agg #[.string ⟨#[46]⟩, .int .i64 2]) (some 8) (by kernel_rfl) (by kernel_rfl) (by kernel_rfl) (by kernel_rfl) (by kernel_rfl) (fun _ _ _ h => h) (fun o ho W hSw => ?y5) (by assumption) ?_
        case y5 =>
          cases ho
          simp [execOp, go_sem, Act.eval]
        simp only [Act.put, List.setIfInBounds_toArray, List.set_cons_zero, List.set_cons_succ]
        refine hTake (i := 6) (v := .bool true) (some 9) (by kernel_rfl) (by kernel_rfl) (by kernel_rfl) (by kernel_rfl) (by kernel_rfl) (fun _ _ _ h => h) (fun o ho W hSw => ?y6) (by assumption) ?_
        case y6 =>
          cases ho
          simp [execOp, go_sem, Act.eval]
          exact ite2_yes H2.out
        simp only [Act.put, List.setIfInBounds_toArray, List.set_cons_zero, List.set_cons_succ]
        refine hTake (i := 7) (v := .bool true) (some 10) (by kernel_rfl) (by kernel_rfl) (by kernel_rfl) (by kernel_rfl) (by kernel_rfl) (fun _ _ _ h => h) (fun o ho W hSw => ?y7) (by assumption) ?_
        case y7 =>
          cases ho
          simp [execOp, go_sem, Act.eval]
        simp only [Act.put, List.setIfInBounds_toArray, List.set_cons_zero, List.set_cons_succ]
        refine hTake (i := 8) (v := .bool true) (some 2) (by kernel_rfl) (by kernel_rfl) (by kernel_rfl) (by kernel_rfl) (by kernel_rfl) (fun _ _ _ h => h) (fun o ho W hSw => ?y8) (by assumption) ?_
        case y8 =>
          cases ho
          simp [execOp, go_sem, Act.eval]
        simp only [Act.put, List.setIfInBounds_toArray, List.set_cons_zero, List.set_cons_succ]
        refine wpAnyH_done (by kernel_rfl) ?_ _
        change Exit.then _ _ _ _ w1
        go_wp2_with fail
        go_ret
        exact ⟨ret_bool (by rw [HE.out]), HB1.out⟩
    · have HE : Hid (olB s n = false) := by
        show olB s n = false
        unfold olB
        exact decide_eq_false (fun h => h.elim h1 h2)
      have H1 : Hid (¬ (s.toList = [91, 93] ∧ n = 0)) := h1
      have H2 : Hid (¬ (s.toList = [46] ∧ n = 2)) := h2
      clear h1 h2
      go_enter Tryz.func73, Tryz.ntmps73
      go_wp2_with fail
      rw [← HW.out]
      refine wp_region_held_drew (S := fun W => W.cell? ⟨w.heap.size, 0, none⟩ = some (.string s) ∧ W.cell? ⟨w.heap.size, 1, none⟩ = some (.int .i64 n)) (by kernel_rfl) ?_ (fun hHeld => ?_)
      · exact ⟨d0, d1⟩
      refine hTake (i := 0) (v := .agg #[.string s, .int .i64 n]) (some 3) (by kernel_rfl) (by kernel_rfl) (by kernel_rfl) (by kernel_rfl) (by kernel_rfl) (fun _ _ _ h => h) (fun o ho W hSw => ?y0) (by assumption) ?_
      case y0 =>
        cases ho
        obtain ⟨s0, s1⟩ := hSw
        simp [execOp, go_sem, Act.eval, s0, s1]
      simp only [Act.put, List.setIfInBounds_toArray, List.set_cons_zero, List.set_cons_succ]
      refine hCallE (i := 1) (f := 42) (args := #[.string ⟨#[91, 93]⟩]) (some 4) (by kernel_rfl) (by kernel_rfl) (by kernel_rfl) (fun o ho => ?c1) (HF _) ?k1 (fun ch w' hh => by cases hh.1) (fun w' hh => by cases hh.1)
      case c1 =>
        cases ho
        simp [execOp, go_sem, Act.eval]
      case k1 =>
        rintro u w1 ⟨hu, hb1⟩
        obtain rfl := Ending.returned.inj hu
        have hb0 : Below W0.heap.size W0 w1 := ⟨hb1.os, hb1.tape, hb1.output, hb1.size, hb1.block⟩
        obtain ⟨k0, k1⟩ := HD.out w1 hb0
        have HB1 : Hid (Below w.heap.size w w1) := HB.out w1 hb0
        clear hu hb1 hb0
        have hS1 : w1.cell? ⟨w.heap.size, 0, none⟩ = some (.string s) ∧ w1.cell? ⟨w.heap.size, 1, none⟩ = some (.int .i64 n) := ⟨k0, k1⟩
        refine ⟨hS1, ?_⟩
        simp only [Act.put, List.setIfInBounds_toArray, List.set_cons_zero, List.set_cons_succ]
        refine hTake (i := 2) (v := .bool false) (some 5) (by kernel_rfl) (by kernel_rfl) (by kernel_rfl) (by kernel_rfl) (by kernel_rfl) (fun _ _ _ h => h) (fun o ho W hSw => ?y2) (by assumption) ?_
        case y2 =>
          cases ho
          simp [execOp, go_sem, Act.eval]
          exact fun x y => H1.out ⟨x, y⟩
        simp only [Act.put, List.setIfInBounds_toArray, List.set_cons_zero, List.set_cons_succ]
        refine hTake (i := 3) (v := .bool false) (some 6) (by kernel_rfl) (by kernel_rfl) (by kernel_rfl) (by kernel_rfl) (by kernel_rfl) (fun _ _ _ h => h) (fun o ho W hSw => ?y3) (by assumption) ?_
        case y3 =>
          cases ho
          simp [execOp, go_sem, Act.eval]
        simp only [Act.put, List.setIfInBounds_toArray, List.set_cons_zero, List.set_cons_succ]
        refine hTake (i := 4) (v := .agg #[.string s, .int .i64 n]) (some 7) (by kernel_rfl) (by kernel_rfl) (by kernel_rfl) (by kernel_rfl) (by kernel_rfl) (fun _ _ _ h => h) (fun o ho W hSw => ?y4) (by assumption) ?_
        case y4 =>
          cases ho
          obtain ⟨s0, s1⟩ := hSw
          simp [execOp, go_sem, Act.eval, s0, s1]
        simp only [Act.put, List.setIfInBounds_toArray, List.set_cons_zero, List.set_cons_succ]
        refine hTake (i := 5) (v := .agg #[.string ⟨#[46]⟩, .int .i64 2]) (some 8) (by kernel_rfl) (by kernel_rfl) (by kernel_rfl) (by kernel_rfl) (by kernel_rfl) (fun _ _ _ h => h) (fun o ho W hSw => ?y5) (by assumption) ?_
        case y5 =>
          cases ho
          simp [execOp, go_sem, Act.eval]
        simp only [Act.put, List.setIfInBounds_toArray, List.set_cons_zero, List.set_cons_succ]
        refine hTake (i := 6) (v := .bool false) (some 9) (by kernel_rfl) (by kernel_rfl) (by kernel_rfl) (by kernel_rfl) (by kernel_rfl) (fun _ _ _ h => h) (fun o ho W hSw => ?y6) (by assumption) ?_
        case y6 =>
          cases ho
          simp [execOp, go_sem, Act.eval]
          exact fun x y => H2.out ⟨x, y⟩
        simp only [Act.put, List.setIfInBounds_toArray, List.set_cons_zero, List.set_cons_succ]
        refine hTake (i := 7) (v := .bool false) (some 10) (by kernel_rfl) (by kernel_rfl) (by kernel_rfl) (by kernel_rfl) (by kernel_rfl) (fun _ _ _ h => h) (fun o ho W hSw => ?y7) (by assumption) ?_
        case y7 =>
          cases ho
          simp [execOp, go_sem, Act.eval]
        simp only [Act.put, List.setIfInBounds_toArray, List.set_cons_zero, List.set_cons_succ]
        refine hTake (i := 8) (v := .bool false) (some 2) (by kernel_rfl) (by kernel_rfl) (by kernel_rfl) (by kernel_rfl) (by kernel_rfl) (fun _ _ _ h => h) (fun o ho W hSw => ?y8) (by assumption) ?_
        case y8 =>
          cases ho
          simp [execOp, go_sem, Act.eval]
        simp only [Act.put, List.setIfInBounds_toArray, List.set_cons_zero, List.set_cons_succ]
        refine wpAnyH_done (by kernel_rfl) ?_ _
        change Exit.then _ _ _ _ w1
        go_wp2_with fail
        go_ret
        exact ⟨ret_bool (by rw [HE.out]), HB1.out⟩
end Go.Proofs.YtbnmmcegjlmdmaaGreatDoor

namespace Go.Proofs.YtbnmmcegjlmdmaaGreatDoor
open Go Go.RowKit
set_option linter.unusedVariables false
set_option linter.unusedSimpArgs false
set_option maxRecDepth 100000 in
set_option maxHeartbeats 1000000 in
theorem grow_any (n : Nat) (h0 : 0 < n) (h1 : n ≤ 1000) (w : World) : Calls Tryz.prog 83 #[.slice none 0 0, .int .i64 n] w fun e w' => ∃ cap, e = .returned (.slice (some ⟨w.heap.size, 0, none⟩) 0 cap) ∧ w'.ownsRow w.heap.size 49 1 (.slice (some ⟨w.heap.size, 0, none⟩) 0 cap) 0 [] ∧ Below w.heap.size w w' := by
  obtain ⟨i0, hi, hz0, hz1, hz2⟩ := info_parts infoTerm
  have hr := fun (ty : TypeId) => Lib.run_append_nil_zeros (P := Tryz.prog) w 55 3 ty 49 i0 .nilIface .i64 .i64 Tryz.underlying55 Tryz.underlying3 hi hz0 n h0 (by rw [hz1]; decide) (by omega) (by rw [hz2]; omega)
  obtain ⟨cap, ecap⟩ : ∃ cap, cap = grownCap w n 0 49 := ⟨_, rfl⟩
  have hge : n ≤ cap := by rw [ecap]; exact grownCap_ge w n 0 _
  have hcm : cap ≤ maxLen := by rw [ecap]; exact grownCap_le_maxLen w n 0 _ (by unfold maxLen; omega)
  rw [← ecap] at hr
  have hb : Below w.heap.size w (w.drew.alloc (.cells (Builtin.zeroCells (Value.nilIface).cells n ++ Builtin.zeroCells (Value.nilIface).cells (cap - n)) 49)) := ((Below.refl _ _).drew).alloc (Nat.le_refl _) _
  have hrow : (w.drew.alloc (.cells (Builtin.zeroCells (Value.nilIface).cells n ++ Builtin.zeroCells (Value.nilIface).cells (cap - n)) 49)).ownsRow w.heap.size 49 1 (.slice (some ⟨w.heap.size, 0, none⟩) 0 cap) 0 [] := by
    refine ⟨rfl, .inr ⟨w.heap.size, cap, _, rfl, Nat.le_refl _, heap_alloc_new w.drew _, Nat.zero_le _, hcm, ?_, by simp⟩⟩
    have hz : (Value.nilIface).cells.size = 1 := rfl
    simp only [Array.size_append, size_zeroCells, hz]
    omega
  have hci : (cap : Int) ≤ 9223372036854775807 := by unfold maxLen at hcm; omega
  generalize (w.drew.alloc (.cells (Builtin.zeroCells (Value.nilIface).cells n ++ Builtin.zeroCells (Value.nilIface).cells (cap - n)) 49)) = W at hr hb hrow
  have HB : Hid (Below w.heap.size w W) := hb
  have HR : Hid (W.ownsRow w.heap.size 49 1 (.slice (some ⟨w.heap.size, 0, none⟩) 0 cap) 0 []) := hrow
  clear hi hz0 hz1 hz2 ecap hb hrow
  go_enter Tryz.func83, Tryz.ntmps83
  go_wp2_with (at_builtin; refine Lib.wpList_append_run _ rfl _ _ _ _ rfl _ _ rfl rfl _ _ (hr _) ?_)
  go_ret
  exact ⟨cap, rfl, HR.out, HB.out⟩
theorem app_terms (w : World) {ops : Array Oper} {rest : List Oper} {o : Oper} {a : Act} {Q : Exit → Act → World → Prop} (hgd : o.guard = none) (s x : Operand)
    (ho : o.op = .call { callee := .builtin .append, args := #[s, x], argTypes := #[55, 55] }) (B : Nat) (g0 n c : Nat) (xs ys : List Value) (pb : Option Addr) (m cb : Nat)
    (hs : a.eval s = .slice (some ⟨g0, 0, none⟩) n c) (hown : w.ownsRow B 49 1 (.slice (some ⟨g0, 0, none⟩) n c) n xs) (hx : a.eval x = .slice pb m cb) (hm : m = ys.length) (hy : ∀ u ∈ ys, ∃ t v, u = .iface t v) (hpb : 0 < m → ∃ b, pb = some ⟨b, 0, none⟩ ∧ ∀ j, j < m → w.cell? ⟨b, j, none⟩ = some (ys.getD j .nilIface)) (hpz : m = 0 → pb = none ∧ cb = 0) (hlen : n + m ≤ 1000000) (hbase : B ≤ w.heap.size)
    (h : ∀ g n' cap w', w'.ownsRow B 49 1 (.slice (some ⟨g, 0, none⟩) n' cap) n' (xs ++ ys) → Below B w w' → Hid (n' = n + m) → wpList Tryz.prog ops Q rest (a.put o.dst (.slice (some ⟨g, 0, none⟩) n' cap)) w') : wpList Tryz.prog ops Q (o :: rest) a w := by
  obtain ⟨i0, hi, hz0, hz1, hz2⟩ := info_parts infoTerm
  by_cases h0 : 0 < m
  · obtain ⟨b, rfl, hc⟩ := hpb h0
    refine wpList_append_lies _ hgd s x 55 ho B 49 i0 .nilIface 1 16 Tryz.underlying55 hi hz0 hz1 hz2 rfl (by decide) (.slice (some ⟨g0, 0, none⟩) n c) n xs hs hown ⟨b, 0, none⟩ m cb ys hx (by omega) (fun j u hj => ?_) (fun u hu => ?_) h0 (by unfold maxLen; omega) (by omega) hbase _ rfl ?_
    · have hl := (List.getElem?_eq_some_iff.1 hj).1
      rw [show (⟨b, 0, none⟩ : Addr).add j = ⟨b, j, none⟩ from by simp [Addr.add]; omega, hc j (by omega)]
      rw [List.getD, hj]
      rfl
    · obtain ⟨t, v, rfl⟩ := hy u hu
      rfl
    · intro g cap w' hown' hgrow hat hlt
      exact h g _ cap w' hown' ((Below.refl _ _).grown hgrow hbase (fun k hk => (hown.lt k hk).1)) rfl
  · have hm0 : m = 0 := by omega
    obtain ⟨rfl, rfl⟩ := hpz hm0
    have hye : ys = [] := List.eq_nil_of_length_eq_zero (by omega)
    subst hye
    subst hm0
    refine wpList_append_own_none hgd s x 55 ho B 49 i0 1 Tryz.underlying55 hi (.slice (some ⟨g0, 0, none⟩) n c) n xs hs hown hx ?_
    exact h g0 n c w (by simpa using hown) (Below.refl _ _) rfl
set_option maxRecDepth 100000 in
set_option maxHeartbeats 2000000 in
theorem concat_any (sb : Nat) (pa pb : Option Addr) (na ca cb : Nat) (xs ys : List Value) (w : World) (hna : na = xs.length) (hys : ys.length = 2) (hn20 : na ≤ 20) (d0 : w.cell? ⟨sb, 0, none⟩ = some (.slice pa na ca)) (d1 : w.cell? ⟨sb, 1, none⟩ = some (.slice pb 2 cb))
    (hx : ∀ u ∈ xs, ∃ t v, u = .iface t v) (hy : ∀ u ∈ ys, ∃ t v, u = .iface t v) (hpa : 0 < na → ∃ b, pa = some ⟨b, 0, none⟩ ∧ ∀ j, j < na → w.cell? ⟨b, j, none⟩ = some (xs.getD j .nilIface)) (hpz : na = 0 → pa = none ∧ ca = 0) (hpb : ∃ b, pb = some ⟨b, 0, none⟩ ∧ ∀ j, j < 2 → w.cell? ⟨b, j, none⟩ = some (ys.getD j .nilIface)) :
    Calls Tryz.prog 81 #[.slice (some ⟨sb, 0, none⟩) 2 2] w fun e w' => ∃ g cap, e = .returned (.slice (some ⟨g, 0, none⟩) (na + 2 : Nat) cap) ∧ w'.ownsRow w.heap.size 49 1 (.slice (some ⟨g, 0, none⟩) (na + 2) cap) (na + 2) (xs ++ ys) ∧ Below w.heap.size w w' := by
  have HD : Hid (∀ W, Below w.heap.size w W → W.cell? ⟨sb, 0, none⟩ = some (.slice pa na ca) ∧ W.cell? ⟨sb, 1, none⟩ = some (.slice pb 2 cb)) := fun W hW => ⟨(hW.cell (World.block_lt_of_cell? _ _ d0)).trans d0, (hW.cell (World.block_lt_of_cell? _ _ d1)).trans d1⟩
  have HXY : Hid (na = xs.length ∧ ys.length = 2 ∧ (∀ u ∈ xs, ∃ t v, u = .iface t v) ∧ (∀ u ∈ ys, ∃ t v, u = .iface t v)) := ⟨hna, hys, hx, hy⟩
  have HPA : Hid (∀ W, Below w.heap.size w W → 0 < na → ∃ b, pa = some ⟨b, 0, none⟩ ∧ ∀ j, j < na → W.cell? ⟨b, j, none⟩ = some (xs.getD j .nilIface)) := fun W hW h0 => by
    obtain ⟨b, e, h⟩ := hpa h0
    exact ⟨b, e, fun j hj => (hW.cell (World.block_lt_of_cell? _ _ (h j hj))).trans (h j hj)⟩
  have HPB : Hid (∀ W, Below w.heap.size w W → ∃ b, pb = some ⟨b, 0, none⟩ ∧ ∀ j, j < 2 → W.cell? ⟨b, j, none⟩ = some (ys.getD j .nilIface)) := fun W hW => by
    obtain ⟨b, e, h⟩ := hpb
    exact ⟨b, e, fun j hj => (hW.cell (World.block_lt_of_cell? _ _ (h j hj))).trans (h j hj)⟩
  have HPZ : Hid (na = 0 → pa = none ∧ ca = 0) := hpz
  have HGR := fun W => grow_any (na + 2) (by omega) (by omega) W
  clear hna hys hx hy hpa hpb hpz
  go_enter Tryz.func81, Tryz.ntmps81
  go_wp2_with fail
  go_loopw [3, 11] (fun z i wr => ∃ (j s : Nat), j ≤ 2 ∧ s ≤ 22 ∧ i = .int .i64 j ∧ z = .int .i64 s ∧ w = wr ∧ Hid (s = if j = 0 then 0 else if j = 1 then na else na + 2)) (fun _ i _ => 2 - (intOf i).toNat)
  case atStart => exact ⟨0, 0, by omega, by omega, rfl, rfl, rfl, rfl⟩
  case round =>
    obtain ⟨j, s, hj, hs22, rfl, rfl, rfl, HS⟩ := hrel
    by_cases h0 : j = 0
    · subst h0
      have hs0 : s = 0 := HS.out
      subst hs0
      go_wp2_with fail
      go_roundw
      case rel => exact ⟨1, na, by omega, by omega, by go_num, by go_num, by trivial, by first | trivial | simp [Hid]⟩
      case measure => simp [intOf]
    · by_cases h1 : j = 1
      · subst h1
        have hs0 : s = na := HS.out
        subst hs0
        go_wp2_with fail
        go_roundw
        case rel => exact ⟨2, s + 2, by omega, by omega, by go_num, by go_num, by trivial, by first | trivial | simp [Hid]⟩
        case measure => simp [intOf]
      · have h2 : j = 2 := by omega
        subst h2
        have hs0 : s = na + 2 := HS.out
        subst hs0
        clear HS h0 h1 hj d0 d1
        have HG := HGR w
        go_wp2_with fail
        refine HG.mono ?_
        rintro e w1 ⟨cap, rfl, hrow, hb1⟩
        have HR1 : Hid (w1.ownsRow w.heap.size 49 1 (.slice (some ⟨w.heap.size, 0, none⟩) 0 cap) 0 []) := hrow
        have HB1 : Hid (Below w.heap.size w w1) := hb1
        clear hrow hb1 HG HGR
        go_wp2_with fail
        go_loopw [6, 27] (fun v i W => ∃ (j g n cap : Nat), j ≤ 2 ∧ n ≤ 22 ∧ i = .int .i64 j ∧ v = .slice (some ⟨g, 0, none⟩) n cap ∧ Hid (W.ownsRow w.heap.size 49 1 (.slice (some ⟨g, 0, none⟩) n cap) n (if j = 0 then [] else if j = 1 then xs else xs ++ ys)) ∧ Hid (Below w.heap.size w W)) (fun _ i _ => 2 - (intOf i).toNat)
        case atStart => exact ⟨0, w.heap.size, 0, cap, by omega, by omega, rfl, rfl, HR1, HB1⟩
        case round =>
          obtain ⟨j, g, n, cap', hj, hn22, rfl, rfl, HR, HB⟩ := hrel
          have HL : Hid (w.heap.size ≤ wr.heap.size) := HB.out.size
          obtain ⟨D0, D1⟩ := HD.out wr HB.out
          by_cases h0 : j = 0
          · subst h0
            have HRo : Hid (wr.ownsRow w.heap.size 49 1 (.slice (some ⟨g, 0, none⟩) n cap') n []) := HR.out
            have hn0 : n = 0 := by have h := HRo.out.1; simpa using h.symm
            subst hn0
            go_wp2_with (at_builtin; refine app_terms _ rfl _ _ rfl w.heap.size g 0 cap' [] xs pa na ca rfl HRo.out rfl HXY.out.1 HXY.out.2.2.1 (HPA.out _ HB.out) HPZ.out (by omega) HL.out ?_; intro g' n' cap2 W2 hown2 hb2 hn2)
            have hn2' : n' = na := by have := hn2.out; omega
            subst hn2'
            have HR2 : Hid (W2.ownsRow w.heap.size 49 1 (.slice (some ⟨g', 0, none⟩) n' cap2) n' xs) := by simp only [List.nil_append] at hown2; exact hown2
            have HB2 : Hid (Below w.heap.size w W2) := HB.out.trans hb2
            clear hown2 hb2 hn2 D0 D1
            go_wp2_with fail
            go_roundw
            case rel => exact ⟨1, g', n', cap2, by omega, by omega, by go_num, rfl, HR2, HB2⟩
            case measure => simp [intOf]
          · by_cases h1 : j = 1
            · subst h1
              have HRo : Hid (wr.ownsRow w.heap.size 49 1 (.slice (some ⟨g, 0, none⟩) n cap') n xs) := HR.out
              have hn0 : n = na := by have h := HRo.out.1; have h2 := HXY.out.1; simp at h; omega
              subst hn0
              go_wp2_with (at_builtin; refine app_terms _ rfl _ _ rfl w.heap.size g n cap' xs ys pb 2 cb rfl HRo.out rfl HXY.out.2.1.symm HXY.out.2.2.2 (fun _ => HPB.out _ HB.out) (fun h => absurd h (by omega)) (by omega) HL.out ?_; intro g' n' cap2 W2 hown2 hb2 hn2)
              have hn2' : n' = n + 2 := hn2.out
              subst hn2'
              have HR2 : Hid (W2.ownsRow w.heap.size 49 1 (.slice (some ⟨g', 0, none⟩) (n + 2) cap2) (n + 2) (xs ++ ys)) := hown2
              have HB2 : Hid (Below w.heap.size w W2) := HB.out.trans hb2
              clear hown2 hb2 hn2 D0 D1
              go_wp2_with fail
              go_roundw
              case rel => exact ⟨2, g', n + 2, cap2, by omega, by omega, by go_num, rfl, HR2, HB2⟩
              case measure => simp [intOf]
            · have h2 : j = 2 := by omega
              subst h2
              have HRo : Hid (wr.ownsRow w.heap.size 49 1 (.slice (some ⟨g, 0, none⟩) n cap') n (xs ++ ys)) := HR.out
              have hn0 : n = na + 2 := by have h := HRo.out.1; have h2 := HXY.out.1; have h3 := HXY.out.2.1; simp at h; omega
              subst hn0
              go_wp2_with fail
              go_ret
              exact ⟨g, cap', rfl, HRo.out, HB.out⟩
end Go.Proofs.YtbnmmcegjlmdmaaGreatDoor

