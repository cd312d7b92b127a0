/- Texts of ItP, PrP, OpsS1. Own work of the verifier. -/
import Derived.Test.YtgonpnnlpkjkcaaGreatDoorUqao
import Derived.Test.YtgonpnnlpkjkcaaGreatDoorUqal
import Derived.Test.YtgonpnnlpkjkcaaGreatDoorUqah
namespace Go.Proofs.YtgonpnnlpkjkcaaGreatDoor
open Go Go.RowKit
set_option linter.unusedVariables false

/-- The cell of a pair of a list. -/
def dot : Cel := (3, 2, [46])
/-- The items that a tree begins with as a list, and what stands at its end. -/
def splitF : Cel → Fo → List (Cel × Fo) × (Cel × Fo)
  | c, .node c1 k1 (.node c2 k2 .nil) => if c = dot then ((c1, k1) :: (splitF c2 k2).1, (splitF c2 k2).2) else ([], (c, .node c1 k1 (.node c2 k2 .nil)))
  | c, k => ([], (c, k))
theorem splitF_dot (c1 : Cel) (k1 : Fo) (c2 : Cel) (k2 : Fo) : splitF dot (.node c1 k1 (.node c2 k2 .nil)) = ((c1, k1) :: (splitF c2 k2).1, (splitF c2 k2).2) := by
  rw [splitF, if_pos rfl]
theorem splitF_other (c : Cel) (k : Fo) (h : c ≠ dot) : splitF c k = ([], (c, k)) := by
  unfold splitF
  split
  · rw [if_neg h]
  · rfl
/-- The items as a forest. -/
def itsF : List (Cel × Fo) → Fo
  | [] => .nil
  | x :: r => .node x.1 x.2 (itsF r)
theorem itsF_snoc : ∀ (a : List (Cel × Fo)) (x : Cel × Fo), itsF (a ++ [x]) = (itsF a).cat (.node x.1 x.2 .nil)
  | [], x => rfl
  | y :: r, x => by simp only [List.cons_append, itsF, Fo.cat, itsF_snoc r x]
/-- Two parts. -/
theorem two_of {k : Fo} (h : k.count = 2) : ∃ c1 k1 c2 k2, k = .node c1 k1 (.node c2 k2 .nil) := by
  cases k with
  | nil => simp [Fo.count] at h
  | node c1 k1 r =>
    cases r with
    | nil => simp [Fo.count] at h
    | node c2 k2 r =>
      cases r with
      | nil => exact ⟨c1, k1, c2, k2, rfl⟩
      | node a b d => simp [Fo.count] at h
theorem itsF_ok_at : ∀ (its : List (Cel × Fo)), (itsF its).ok → ∀ i (h : i < its.length), (Fo.node its[i].1 its[i].2 .nil).ok
  | [], _, i, h => by simp at h
  | a :: r, ⟨h1, h2, h3, h4, h5, h6⟩, 0, _ => ⟨h1, h2, h3, h4, h5, trivial⟩
  | a :: r, ⟨h1, h2, h3, h4, h5, h6⟩, i + 1, h => by simpa using itsF_ok_at r h6 i (by simpa using h)
theorem itsF_count : ∀ its : List (Cel × Fo), (itsF its).count = its.length
  | [] => rfl
  | a :: r => by simp [itsF, Fo.count, itsF_count r]

/-- The cells of an item. -/
def itC (x : Cel × Fo) : List Cel := x.1 :: x.2.cells
/-- The empty list. -/
def nilC : Cel := (2, 0, [91, 93])
/-- All that stands in the items and behind them is there. -/
theorem split_size : ∀ (N : Nat) (c : Cel) (k : Fo), k.cells.length ≤ N → ((splitF c k).1.map (fun x => (itC x).length)).sum + (itC (splitF c k).2).length ≤ k.cells.length + 1 ∧ (∀ x ∈ (splitF c k).1, x.2.cells.length ≤ k.cells.length)
  | N, c, .nil, _ => by simp [splitF, itC, Fo.cells]
  | N, c, .node c1 k1 .nil, _ => by simp [splitF, itC, Fo.cells]
  | N, c, .node c1 k1 (.node c2 k2 (.node a b d)), _ => by simp [splitF, itC, Fo.cells]
  | 0, c, .node c1 k1 (.node c2 k2 .nil), h => by simp [Fo.cells] at h
  | N + 1, c, .node c1 k1 (.node c2 k2 .nil), h => by
    by_cases e : c = dot
    · subst e
      have ih := split_size N c2 k2 (by simp [Fo.cells] at h; omega)
      rw [splitF_dot]
      simp only [List.map_cons, List.sum_cons, itC, List.length_cons, Fo.cells, List.length_append, List.length_nil] at ih ⊢
      refine ⟨by omega, fun x hx => ?_⟩
      rcases List.mem_cons.1 hx with rfl | hx
      · simp; omega
      · have := ih.2 x hx; omega
    · rw [splitF_other _ _ e]
      simp [itC]

def lenOf : Value → Nat
  | .slice _ n _ => n
  | _ => 0

end Go.Proofs.YtgonpnnlpkjkcaaGreatDoor

namespace Go.Proofs.YtgonpnnlpkjkcaaGreatDoor
open Go Go.RowKit
set_option linter.unusedVariables false

/-- A tree: its cell, and what is below it. -/
abbrev Tr := Cel × Fo
abbrev TT := Tr × Tr
def Tr.fo (t : Tr) : Fo := .node t.1 t.2 .nil
def trs : Fo → List Tr
  | .nil => []
  | .node c k r => (c, k) :: trs r
theorem trs_len : ∀ F : Fo, (trs F).length = F.count
  | .nil => rfl
  | .node c k r => by simp [trs, Fo.count, trs_len r]
def eqFo : Fo → Fo → Bool
  | .nil, .nil => true
  | .node c k r, .node c' k' r' => decide (c = c') && eqFo k k' && eqFo r r'
  | .nil, .node _ _ _ => false
  | .node _ _ _, .nil => false
theorem eqFo_iff : ∀ a b : Fo, eqFo a b = true ↔ a = b
  | .nil, .nil => by simp [eqFo]
  | .node c k r, .node c' k' r' => by simp [eqFo, eqFo_iff k k', eqFo_iff r r', and_assoc]
  | .nil, .node _ _ _ => by simp [eqFo]
  | .node _ _ _, .nil => by simp [eqFo]
def eqT (x : TT) : Bool := decide (x.1.1 = x.2.1) && eqFo x.1.2 x.2.2
theorem eqT_iff (x : TT) : eqT x = true ↔ x.1 = x.2 := by
  obtain ⟨⟨c, k⟩, ⟨c', k'⟩⟩ := x
  simp [eqT, eqFo_iff]
def sames (st : List TT) : Bool := st.all eqT
theorem eqFo_zip : ∀ a b : Fo, a.count = b.count → eqFo a b = ((trs a).zip (trs b)).all eqT
  | .nil, .nil, _ => rfl
  | .node c k r, .node c' k' r', h => by
    have := eqFo_zip r r' (by simpa [Fo.count] using h)
    simp [eqFo, trs, eqT, this]
  | .nil, .node _ _ _, h => by simp [Fo.count] at h
  | .node _ _ _, .nil, h => by simp [Fo.count] at h
/-- The pairs of arguments, the first of them at the end. -/
def argPairs (x : TT) : List TT := ((trs x.1.2).zip (trs x.2.2)).reverse
/-- The pairs that an opening puts on the others. -/
def opened (x : TT) : List TT := if x.1.1 = x.2.1 then argPairs x else []
theorem sames_open (st : List TT) (x : TT) (h : x.1.1 = x.2.1) (hc : x.1.2.count = x.2.2.count) : sames (st ++ opened x) = sames (st ++ [x]) := by
  simp [sames, opened, argPairs, h, eqT, eqFo_zip _ _ hc]
theorem sames_no (st : List TT) (x : TT) (h : x.1.1 ≠ x.2.1) : sames (st ++ [x]) = false := by
  simp [sames, eqT, h]
def load : List TT → Nat
  | [] => 0
  | x :: r => x.1.2.cells.length + 1 + load r
theorem load_append : ∀ a b : List TT, load (a ++ b) = load a + load b
  | [], b => by simp [load]
  | x :: r, b => by simp [load, load_append r b]; omega
theorem load_reverse : ∀ a : List TT, load a.reverse = load a
  | [] => rfl
  | x :: r => by simp [load_append, load, load_reverse r]; omega
theorem load_zip : ∀ a b : Fo, load ((trs a).zip (trs b)) ≤ a.cells.length
  | .nil, b => by simp [trs, load]
  | .node c k r, .nil => by simp [trs, load]
  | .node c k r, .node c' k' r' => by
    have := load_zip r r'
    simp [trs, load, Fo.cells]; omega
theorem load_opened (x : TT) : load (opened x) ≤ x.1.2.cells.length := by
  unfold opened argPairs
  split
  · rw [load_reverse]; exact load_zip _ _
  · simp [load]
theorem len_load : ∀ st : List TT, st.length ≤ load st
  | [] => Nat.le_refl _
  | x :: r => by have := len_load r; simp [load]; omega
/-- Trees that are valid. -/
def Tr.ok (t : Tr) : Prop := t.fo.ok
theorem trs_ok : ∀ F : Fo, F.ok → ∀ t ∈ trs F, Tr.ok t
  | .nil, _, t, h => by simp [trs] at h
  | .node c k r, ⟨h1, h2, h3, h4, h5, h6⟩, t, h => by
    rcases List.mem_cons.1 (show t ∈ (c, k) :: trs r from h) with rfl | h'
    · exact ⟨h1, h2, h3, h4, h5, trivial⟩
    · exact trs_ok r h6 t h'
theorem opened_ok {x : TT} (h1 : x.1.ok) (h2 : x.2.ok) : ∀ y ∈ opened x, y.1.ok ∧ y.2.ok := fun y hy => by
  unfold opened argPairs at hy
  split at hy
  · have hz := List.of_mem_zip (List.mem_reverse.1 hy)
    exact ⟨trs_ok _ h1.2.2.2.2.1 _ hz.1, trs_ok _ h2.2.2.2.2.1 _ hz.2⟩
  · cases hy
theorem ok_count {x : TT} (h1 : x.1.ok) (h2 : x.2.ok) (h : x.1.1 = x.2.1) : x.1.2.count = x.2.2.count := by
  obtain ⟨⟨c, k⟩, ⟨c', k'⟩⟩ := x
  simp only at h
  subst h
  by_cases h3 : c.1 = 3
  · have e1 := h1.2.2.1 h3
    have e2 := h2.2.2.1 h3
    simp only at e1 e2 ⊢
    omega
  · have e1 : k = .nil := h1.2.2.2.1 h3
    have e2 : k' = .nil := h2.2.2.2.1 h3
    rw [e1, e2]
/-- A forest is told by its cells. -/
theorem Fo.cells_inj : ∀ (a b : Fo) (x y : List Cel), a.ok → b.ok → a.count = b.count → a.cells ++ x = b.cells ++ y → a = b ∧ x = y
  | .nil, .nil, x, y, _, _, _, h => ⟨rfl, by simpa [Fo.cells] using h⟩
  | .nil, .node _ _ _, _, _, _, _, h, _ => by simp [Fo.count] at h
  | .node _ _ _, .nil, _, _, _, _, h, _ => by simp [Fo.count] at h
  | .node c k r, .node c' k' r', x, y, h1, h2, hc, h => by
    simp only [Fo.cells, List.cons_append, List.cons.injEq, List.append_assoc] at h
    obtain ⟨rfl, h⟩ := h
    have hk : k.count = k'.count := ok_count (x := ((c, k), (c, k'))) ⟨h1.1, h1.2.1, h1.2.2.1, h1.2.2.2.1, h1.2.2.2.2.1, trivial⟩ ⟨h2.1, h2.2.1, h2.2.2.1, h2.2.2.2.1, h2.2.2.2.2.1, trivial⟩ rfl
    obtain ⟨rfl, h'⟩ := Fo.cells_inj k k' _ _ h1.2.2.2.2.1 h2.2.2.2.2.1 hk h
    obtain ⟨rfl, rfl⟩ := Fo.cells_inj r r' x y h1.2.2.2.2.2 h2.2.2.2.2.2 (by simpa [Fo.count] using hc) h'
    exact ⟨rfl, rfl⟩
theorem eqT_cells {x : TT} (h1 : x.1.ok) (h2 : x.2.ok) : eqT x = decide (x.1.1 :: x.1.2.cells = x.2.1 :: x.2.2.cells) := by
  rw [Bool.eq_iff_iff, eqT_iff, decide_eq_true_eq]
  obtain ⟨⟨c, k⟩, ⟨c', k'⟩⟩ := x
  constructor
  · intro h
    obtain ⟨rfl, rfl⟩ := Prod.mk.inj h
    rfl
  · intro h
    have := Fo.cells_inj (.node c k .nil) (.node c' k' .nil) [] [] h1 h2 rfl (by simpa [Fo.cells] using h)
    have h3 := this.1
    injection h3 with e1 e2
    rw [e1, e2]

end Go.Proofs.YtgonpnnlpkjkcaaGreatDoor

namespace Go.Proofs.YtgonpnnlpkjkcaaGreatDoor
open Go Go.RowKit
set_option linter.unusedVariables false

theorem l3infix_any (t : Int) (w : World) : Calls Tryz.prog 66 #[.int .i64 t] w fun e w' => e = .returned (.bool (decide (t ≤ 2))) ∧ w' = w := by
  cases h : decide (t ≤ 2)
  all_goals
    go_enter Tryz.func66, Tryz.ntmps66
    go_wp2_with fail
    go_ret
    exact ⟨rfl, rfl⟩

def hitB (s : List UInt8) (pf : Bool) (x : Cel) : Bool := ((strOfNums x.2.2).toList == s) && (preB x.2.1 == pf)
def fIdx (s : List UInt8) (pf : Bool) : Nat → List Cel → Int
  | _, [] => -1
  | k, x :: r => if hitB s pf x then k else fIdx s pf (k + 1) r
theorem fIdx_at (s : List UInt8) (pf : Bool) (cs : List Cel) (k : Nat) (h : k < cs.length) : fIdx s pf k (cs.drop k) = if hitB s pf (cs.getD k Cel.none) then (k : Int) else fIdx s pf (k + 1) (cs.drop (k + 1)) := by
  rw [drop_at cs k h, fIdx]

set_option maxRecDepth 100000 in
set_option maxHeartbeats 2000000 in
theorem l3find_any (p : Option Addr) (c : Nat) (cs : List Cel) (q : Option Addr) (l cq : Nat) (xs : List Int) (pf : Bool) (w : World) (hl : l = xs.length) (hn : cs.length ≤ 1000000) (hin : OIn w p cs) (hx : BIn w q xs) :
    Calls Tryz.prog 87 #[.slice p cs.length c, .slice q l cq, .bool pf] w fun e w' => e = .returned (.int .i64 (fIdx (strOfNums xs).toList pf 0 cs)) ∧ ∃ m, w' = w.drewN m := by
  have HIN : Hid (OIn w p cs) := hin
  have HX : Hid (BIn w q xs) := hx
  have HL : Hid (l = xs.length) := hl
  obtain ⟨sn, esn⟩ : ∃ s, s = strOfNums xs := ⟨_, rfl⟩
  rw [← esn]
  have HSN : Hid (sn = strOfNums xs) := esn
  clear hin hx hl esn
  have HF : Hid (∀ b, b = fIdx sn.toList pf 0 cs → Ending.returned (.int .i64 b) = .returned (.int .i64 (fIdx sn.toList pf 0 cs))) := fun b h => ret_int h
  go_enter Tryz.func87, Tryz.ntmps87
  go_wp2_with fail
  go_loopw [7] (fun i wr => ∃ k m : Nat, k ≤ cs.length ∧ i = .int .i64 k ∧ Hid (wr = w.drewN m) ∧ Hid (fIdx sn.toList pf 0 cs = fIdx sn.toList pf k (cs.drop k))) (fun i _ => cs.length - (intOf i).toNat)
  case atStart => exact ⟨0, 0, Nat.zero_le _, rfl, rfl, rfl⟩
  case round =>
    obtain ⟨k, m, hk, rfl, HW, HQ⟩ := hrel
    by_cases hlt : k < cs.length
    · obtain ⟨g, o, rfl, hcs⟩ := HIN.out (by omega)
      have hat : OAt wr g (o + k * 3) (cs.getD k Cel.none) := by rw [HW.out]; exact hcs k hlt
      have HFI : Hid _ := fIdx_at sn.toList pf cs k hlt
      have HHB : Hid (hitB sn.toList pf (cs.getD k Cel.none) = (((strOfNums (cs.getD k Cel.none).2.2).toList == sn.toList) && (preB (cs.getD k Cel.none).2.1 == pf))) := rfl
      obtain ⟨x, ex⟩ : ∃ x, x = cs.getD k Cel.none := ⟨_, rfl⟩
      rw [← ex] at hat HFI HHB
      obtain ⟨qx, qc, h0, h1, h2, h3⟩ := hat
      obtain ⟨x0, x1, x2⟩ := x
      simp only at h0 h1 h2 h3 HHB
      obtain ⟨l2, el2⟩ : ∃ l, l = x2.length := ⟨_, rfl⟩
      obtain ⟨sx, esx⟩ : ∃ s, s = strOfNums x2 := ⟨_, rfl⟩
      rw [← el2] at h2
      rw [← esx] at HHB
      have HLX : Hid (l2 = x2.length) := el2
      have HSX : Hid (sx = strOfNums x2) := esx
      have H3 : Hid (BIn wr qx x2) := h3
      have HXW : Hid (BIn wr q xs) := by rw [HW.out]; exact HX.out
      have cvx : (convert 28 9 (.slice qx l2 qc)).run Tryz.prog wr.drew = .ok (.string sx) wr.drew := by rw [HSX.out]; exact conv_str (w := wr.drew) H3.out l2 qc HLX.out 9 Tryz.underlying9
      have cvn : (convert 28 9 (.slice q l cq)).run Tryz.prog wr.drew = .ok (.string sn) wr.drew := by rw [HSN.out]; exact conv_str (w := wr.drew) HXW.out l cq HL.out 9 Tryz.underlying9
      clear el2 esx ex h3 hcs h0
      cases hs : (sx.toList == sn.toList) with
      | true =>
        cases hp : (preB x1 == pf) with
        | true =>
          have HR : Hid (fIdx sn.toList pf 0 cs = (k : Int)) := by show _ = _; rw [HQ.out, HFI.out, HHB.out, hs, hp]; rfl
          clear HFI HHB
          go_wp2_with fail
          go_region_held3 (fun W => W = wr.drew) (rfl)
            ((go_at_call 38; refine (l3prefix_any _ _).mono ?_; rintro e w' ⟨rfl, rfl⟩))
          all_goals go_wp2_with fail
          all_goals go_ret
          all_goals exact ⟨HF.out _ HR.out.symm, m + 1, by rw [HW.out]; rfl⟩
        | false =>
          have HR : Hid (fIdx sn.toList pf 0 cs = fIdx sn.toList pf (k + 1) (cs.drop (k + 1))) := by show _ = _; rw [HQ.out, HFI.out, HHB.out, hs, hp]; rfl
          clear HFI HHB
          go_wp2_with fail
          go_region_held3 (fun W => W = wr.drew) (rfl)
            ((go_at_call 38; refine (l3prefix_any _ _).mono ?_; rintro e w' ⟨rfl, rfl⟩))
          all_goals go_wp2_with fail
          all_goals go_roundw
          all_goals first
            | (simp [intOf]; omega)
            | exact ⟨k + 1, m + 1, by omega, by go_num, by rw [HW.out]; rfl, HR⟩
      | false =>
        have HR : Hid (fIdx sn.toList pf 0 cs = fIdx sn.toList pf (k + 1) (cs.drop (k + 1))) := by show _ = _; rw [HQ.out, HFI.out, HHB.out, hs]; rfl
        have HH2 : Hid (wr.cell? ⟨g, o + k * 3, none⟩ = some (.slice qx l2 qc)) := h2
        have hk0 : (0 : Int) ≤ (k : Int) := by omega
        have hk1 : (k : Int) < (cs.length : Int) := by omega
        clear HFI HHB
        go_wp2_with fail
        refine wp_region_held_drew (S := fun W => W = wr.drew) (by kernel_rfl) ?_ (fun hHeld => ?_)
        · exact rfl
        refine hTake (i := 0) (v := .slice (some ⟨g, o, none⟩) cs.length c) (some 14) (by kernel_rfl) (by kernel_rfl) (by kernel_rfl) (by kernel_rfl) (by kernel_rfl) (fun _ _ _ h => h) (fun o ho W hSw => ?y0) (by assumption) ?_
        case y0 =>
          cases ho
          simp [execOp, go_sem, Act.eval]
        simp only [Act.put, List.setIfInBounds_toArray, List.set_cons_zero, List.set_cons_succ]
        refine hTake (i := 1) (v := .int .i64 k) (some 15) (by kernel_rfl) (by kernel_rfl) (by kernel_rfl) (by kernel_rfl) (by kernel_rfl) (fun _ _ _ h => h) (fun o ho W hSw => ?y1) (by assumption) ?_
        case y1 =>
          cases ho
          simp [execOp, go_sem, Act.eval]
        simp only [Act.put, List.setIfInBounds_toArray, List.set_cons_zero, List.set_cons_succ]
        refine hTake (i := 2) (v := .pointer (some ⟨g, o + k * 3, none⟩)) (some 16) (by kernel_rfl) (by kernel_rfl) (by kernel_rfl) (by kernel_rfl) (by kernel_rfl) (fun _ _ _ h => h) (fun o ho W hSw => ?y2) (by assumption) ?_
        case y2 =>
          cases ho
          simp [execOp, go_sem, Act.eval, hk0, hk1]
        simp only [Act.put, List.setIfInBounds_toArray, List.set_cons_zero, List.set_cons_succ]
        refine hTake (i := 3) (v := .pointer (some ⟨g, o + k * 3, none⟩)) (some 17) (by kernel_rfl) (by kernel_rfl) (by kernel_rfl) (by kernel_rfl) (by kernel_rfl) (fun _ _ _ h => h) (fun o ho W hSw => ?y3) (by assumption) ?_
        case y3 =>
          cases ho
          simp [execOp, go_sem, Act.eval]
        simp only [Act.put, List.setIfInBounds_toArray, List.set_cons_zero, List.set_cons_succ]
        refine hTake (i := 4) (v := .slice qx l2 qc) (some 18) (by kernel_rfl) (by kernel_rfl) (by kernel_rfl) (by kernel_rfl) (by kernel_rfl) (fun _ _ _ h => h) (fun o ho W hSw => ?y4) (by assumption) ?_
        case y4 =>
          cases ho
          subst hSw
          simp [execOp, go_sem, Act.eval, h2]
        simp only [Act.put, List.setIfInBounds_toArray, List.set_cons_zero, List.set_cons_succ]
        refine hTake (i := 5) (v := .string sx) (some 19) (by kernel_rfl) (by kernel_rfl) (by kernel_rfl) (by kernel_rfl) (by kernel_rfl) (fun _ _ _ h => h) (fun o ho W hSw => ?y5) (by assumption) ?_
        case y5 =>
          cases ho
          subst hSw
          simp [execOp, go_sem, Act.eval, cvx]
        simp only [Act.put, List.setIfInBounds_toArray, List.set_cons_zero, List.set_cons_succ]
        refine hTake (i := 6) (v := .slice q l cq) (some 20) (by kernel_rfl) (by kernel_rfl) (by kernel_rfl) (by kernel_rfl) (by kernel_rfl) (fun _ _ _ h => h) (fun o ho W hSw => ?y6) (by assumption) ?_
        case y6 =>
          cases ho
          simp [execOp, go_sem, Act.eval]
        simp only [Act.put, List.setIfInBounds_toArray, List.set_cons_zero, List.set_cons_succ]
        refine hTake (i := 7) (v := .string sn) (some 21) (by kernel_rfl) (by kernel_rfl) (by kernel_rfl) (by kernel_rfl) (by kernel_rfl) (fun _ _ _ h => h) (fun o ho W hSw => ?y7) (by assumption) ?_
        case y7 =>
          cases ho
          subst hSw
          simp [execOp, go_sem, Act.eval, cvn]
        simp only [Act.put, List.setIfInBounds_toArray, List.set_cons_zero, List.set_cons_succ]
        refine hTake (i := 8) (v := .bool false) (some 22) (by kernel_rfl) (by kernel_rfl) (by kernel_rfl) (by kernel_rfl) (by kernel_rfl) (fun _ _ _ h => h) (fun o ho W hSw => ?y8) (by assumption) ?_
        case y8 =>
          cases ho
          simp [execOp, go_sem, Act.eval, hs]
        simp only [Act.put, List.setIfInBounds_toArray, List.set_cons_zero, List.set_cons_succ]
        refine hTake (i := 9) (v := .bool false) (some 23) (by kernel_rfl) (by kernel_rfl) (by kernel_rfl) (by kernel_rfl) (by kernel_rfl) (fun _ _ _ h => h) (fun o ho W hSw => ?y9) (by assumption) ?_
        case y9 =>
          cases ho
          simp [execOp, go_sem, Act.eval]
        simp only [Act.put, List.setIfInBounds_toArray, List.set_cons_zero, List.set_cons_succ]
        refine hSkip (i := 10) (some 24) (by kernel_rfl) (by kernel_rfl) (by kernel_rfl) (by kernel_rfl) (by kernel_rfl) (fun _ _ _ h => h) (by assumption) ?_
        simp only [Act.put, List.setIfInBounds_toArray, List.set_cons_zero, List.set_cons_succ]
        refine hSkip (i := 11) (some 25) (by kernel_rfl) (by kernel_rfl) (by kernel_rfl) (by kernel_rfl) (by kernel_rfl) (fun _ _ _ h => h) (by assumption) ?_
        simp only [Act.put, List.setIfInBounds_toArray, List.set_cons_zero, List.set_cons_succ]
        refine hSkip (i := 12) (some 26) (by kernel_rfl) (by kernel_rfl) (by kernel_rfl) (by kernel_rfl) (by kernel_rfl) (fun _ _ _ h => h) (by assumption) ?_
        simp only [Act.put, List.setIfInBounds_toArray, List.set_cons_zero, List.set_cons_succ]
        refine hSkip (i := 13) (some 27) (by kernel_rfl) (by kernel_rfl) (by kernel_rfl) (by kernel_rfl) (by kernel_rfl) (fun _ _ _ h => h) (by assumption) ?_
        simp only [Act.put, List.setIfInBounds_toArray, List.set_cons_zero, List.set_cons_succ]
        refine hSkip (i := 14) (some 28) (by kernel_rfl) (by kernel_rfl) (by kernel_rfl) (by kernel_rfl) (by kernel_rfl) (fun _ _ _ h => h) (by assumption) ?_
        simp only [Act.put, List.setIfInBounds_toArray, List.set_cons_zero, List.set_cons_succ]
        refine hSkip (i := 15) (some 29) (by kernel_rfl) (by kernel_rfl) (by kernel_rfl) (by kernel_rfl) (by kernel_rfl) (fun _ _ _ h => h) (by assumption) ?_
        simp only [Act.put, List.setIfInBounds_toArray, List.set_cons_zero, List.set_cons_succ]
        refine hSkip (i := 16) (some 30) (by kernel_rfl) (by kernel_rfl) (by kernel_rfl) (by kernel_rfl) (by kernel_rfl) (fun _ _ _ h => h) (by assumption) ?_
        simp only [Act.put, List.setIfInBounds_toArray, List.set_cons_zero, List.set_cons_succ]
        refine hSkip (i := 17) (some 31) (by kernel_rfl) (by kernel_rfl) (by kernel_rfl) (by kernel_rfl) (by kernel_rfl) (fun _ _ _ h => h) (by assumption) ?_
        simp only [Act.put, List.setIfInBounds_toArray, List.set_cons_zero, List.set_cons_succ]
        refine hTake (i := 18) (v := .bool false) (some 32) (by kernel_rfl) (by kernel_rfl) (by kernel_rfl) (by kernel_rfl) (by kernel_rfl) (fun _ _ _ h => h) (fun o ho W hSw => ?y18) (by assumption) ?_
        case y18 =>
          cases ho
          simp [execOp, go_sem, Act.eval]
        simp only [Act.put, List.setIfInBounds_toArray, List.set_cons_zero, List.set_cons_succ]
        refine wpAnyH_done (by kernel_rfl) ?_ _
        go_wp2_with fail
        go_roundw
        case rel => exact ⟨k + 1, m + 1, by omega, by go_num, by rw [HW.out]; rfl, HR⟩
        case measure => simp [intOf]; omega
    · obtain rfl : k = cs.length := by omega
      have HR : Hid (fIdx sn.toList pf 0 cs = -1) := by have := HQ.out; rw [List.drop_length] at this; exact this
      clear HIN
      go_wp2_with fail
      go_ret
      exact ⟨HF.out _ HR.out.symm, m, HW.out⟩

end Go.Proofs.YtgonpnnlpkjkcaaGreatDoor

