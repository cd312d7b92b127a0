/- How cells are ordered: l2compare. Own work of the verifier. -/
import Derived.Test.YtjbckdmlogjggaaCell3
import Derived.Test.YtjbckdmlogjggaaStr0
import Derived.Test.YtjbckdmlogjggaaValid2
namespace Go.Proofs.Ytjbckdmlogjggaa
open Go Go.RowKit
set_option linter.unusedVariables false

def sgn (b : Bool) : Int := if b then -1 else 1
theorem sgn_ne (b : Bool) : sgn b ≠ 0 := by cases b <;> decide
/-- How two cells are ordered. -/
def cellCmp (x y : Cel) : Int := if x.1 ≠ y.1 then sgn (decide (x.1 < y.1)) else if x.2.1 ≠ y.2.1 then sgn (decide (x.2.1 < y.2.1)) else if (strOfNums x.2.2).toList == (strOfNums y.2.2).toList then 0 else sgn (Op.bytesLess (strOfNums x.2.2).toList (strOfNums y.2.2).toList)
def cmpC : List Cel → List Cel → Int
  | x :: xs, y :: ys => if cellCmp x y ≠ 0 then cellCmp x y else cmpC xs ys
  | _, _ => 0
/-- From the k-th on. -/
theorem cmpC_drop (xs ys : List Cel) (k : Nat) (h1 : k < xs.length) (h2 : k < ys.length) : cmpC (xs.drop k) (ys.drop k) = if cellCmp (xs.getD k Cel.none) (ys.getD k Cel.none) ≠ 0 then cellCmp (xs.getD k Cel.none) (ys.getD k Cel.none) else cmpC (xs.drop (k + 1)) (ys.drop (k + 1)) := by
  rw [List.drop_eq_getElem_cons h1, List.drop_eq_getElem_cons h2, cmpC, List.getD, List.getD, List.getElem?_eq_getElem h1, List.getElem?_eq_getElem h2]; rfl
theorem cmpC_nil (xs ys : List Cel) (k : Nat) (h : xs.length ≤ k ∨ ys.length ≤ k) : cmpC (xs.drop k) (ys.drop k) = 0 := by
  rcases h with h | h
  · rw [List.drop_eq_nil_of_le h, cmpC]; simp
  · rw [List.drop_eq_nil_of_le h]
    cases xs.drop k <;> simp [cmpC]
theorem l2sign_any (b : Bool) (w : World) : Calls Try.prog 59 #[.bool b] w fun e w' => e = .returned (.int .i64 (sgn b)) ∧ w' = w := by
  cases b
  · go_enter Try.func59, Try.ntmps59
    go_wp2_with fail
    go_ret
    exact ⟨rfl, rfl⟩
  · go_enter Try.func59, Try.ntmps59
    go_wp2_with fail
    go_ret
    exact ⟨rfl, rfl⟩
set_option maxRecDepth 100000 in
set_option maxHeartbeats 1000000 in
theorem l2compare_any (xs ys : List Cel) (p q : Option Addr) (n m c1 c2 : Nat) (w : World) (hn : n = xs.length) (hm : m = ys.length) (hnb : n ≤ 1000000000) (hmb : m ≤ 1000000000) (hx : CIn w p xs) (hy : CIn w q ys) :
    Calls Try.prog 29 #[.slice p n c1, .slice q m c2] w fun e w' => e = .returned (.int .i64 (cmpC xs ys)) ∧ Below w.heap.size w w' := by
  have HX : Hid (CIn w p xs) := hx
  have HY : Hid (CIn w q ys) := hy
  have HL : Hid (n = xs.length ∧ m = ys.length) := ⟨hn, hm⟩
  clear hx hy hn hm
  go_enter Try.func29, Try.ntmps29
  go_wp2_with fail
  go_loopw [5] (fun i wr => ∃ k : Nat, k ≤ n ∧ i = .int .i64 k ∧ Hid (cmpC xs ys = cmpC (xs.drop k) (ys.drop k)) ∧ Hid (Below w.heap.size w wr)) (fun i _ => n - (intOf i).toNat)
  case atStart => exact ⟨0, Nat.zero_le _, rfl, rfl, Below.refl _ _⟩
  case round =>
    obtain ⟨k, hk, rfl, HC, HB⟩ := hrel
    by_cases h1 : k < n
    · by_cases h2 : k < m
      · have hkx : k < xs.length := by rw [← HL.out.1]; exact h1
        have hky : k < ys.length := by rw [← HL.out.2]; exact h2
        have HD : Hid _ := cmpC_drop xs ys k hkx hky
        obtain ⟨b, o, rfl, hcx⟩ := (HX.out.below HB.out) (by omega)
        obtain ⟨b', o', rfl, hcy⟩ := (HY.out.below HB.out) (by omega)
        obtain ⟨px, qx, x0, x1, x2, x3⟩ := hcx k hkx
        obtain ⟨py, qy, y0, y1, y2, y3⟩ := hcy k hky
        obtain ⟨X, eX⟩ : ∃ X, X = xs.getD k Cel.none := ⟨_, rfl⟩
        obtain ⟨Y, eY⟩ : ∃ Y, Y = ys.getD k Cel.none := ⟨_, rfl⟩
        rw [← eX, ← eY] at HD
        rw [← eX] at x0 x1 x2 x3
        rw [← eY] at y0 y1 y2 y3
        obtain ⟨lx, elx⟩ : ∃ l, l = X.2.2.length := ⟨_, rfl⟩
        obtain ⟨ly, ely⟩ : ∃ l, l = Y.2.2.length := ⟨_, rfl⟩
        rw [← elx] at x2
        rw [← ely] at y2
        obtain ⟨sx, esx⟩ : ∃ s, s = strOfNums X.2.2 := ⟨_, rfl⟩
        obtain ⟨sy, esy⟩ : ∃ s, s = strOfNums Y.2.2 := ⟨_, rfl⟩
        have cvx : ∀ W, Below wr.heap.size wr W → (convert 41 9 (.slice px lx qx)).run Try.prog W = .ok (.string sx) W := fun W hW => by rw [esx]; exact conv_str (x3.below hW) lx qx elx 9 Try.underlying9
        have cvy : ∀ W, Below wr.heap.size wr W → (convert 41 9 (.slice py ly qy)).run Try.prog W = .ok (.string sy) W := fun W hW => by rw [esy]; exact conv_str (y3.below hW) ly qy ely 9 Try.underlying9
        obtain ⟨a1, ea1⟩ : ∃ a, a = X.1 := ⟨_, rfl⟩
        obtain ⟨a2, ea2⟩ : ∃ a, a = X.2.1 := ⟨_, rfl⟩
        obtain ⟨d1, ed1⟩ : ∃ a, a = Y.1 := ⟨_, rfl⟩
        obtain ⟨d2, ed2⟩ : ∃ a, a = Y.2.1 := ⟨_, rfl⟩
        have HCC : Hid (cellCmp X Y = if a1 ≠ d1 then sgn (decide (a1 < d1)) else if a2 ≠ d2 then sgn (decide (a2 < d2)) else if sx.toList == sy.toList then 0 else sgn (Op.bytesLess sx.toList sy.toList)) := by
          show _ = _
          rw [ea1, ea2, ed1, ed2, esx, esy]; rfl
        rw [← ea1] at x0
        rw [← ea2] at x1
        rw [← ed1] at y0
        rw [← ed2] at y1
        clear hcx hcy x3 y3 eX eY elx ely esx esy ea1 ea2 ed1 ed2
        have hW2 : Below wr.heap.size wr ((wr.alloc (Obj.cells #[.int .i64 a1, .int .i64 a2, .slice px lx qx] 47)).alloc (Obj.cells #[.int .i64 d1, .int .i64 d2, .slice py ly qy] 47)) := ((Below.refl _ wr).alloc (Nat.le_refl _) _).alloc (by simp) _
        have cx := cvx _ hW2
        have cy := cvy _ hW2
        have HB2 : Hid (Below w.heap.size w ((wr.alloc (Obj.cells #[.int .i64 a1, .int .i64 a2, .slice px lx qx] 47)).alloc (Obj.cells #[.int .i64 d1, .int .i64 d2, .slice py ly qy] 47))) := Below.on HB.out hW2
        clear cvx cvy hW2
        have hW1 : Below wr.heap.size wr (wr.alloc (Obj.cells #[.int .i64 a1, .int .i64 a2, .slice px lx qx] 47)) := (Below.refl _ wr).alloc (Nat.le_refl _) _
        have z0 := (hW1.cell (World.block_lt_of_cell? _ _ y0)).trans y0
        have z1 := (hW1.cell (World.block_lt_of_cell? _ _ y1)).trans y1
        have z2 := (hW1.cell (World.block_lt_of_cell? _ _ y2)).trans y2
        clear hW1 y0 y1 y2
        by_cases e1 : a1 = d1
        · subst e1
          by_cases e2 : a2 = d2
          · subst e2
            cases e3 : (sx.toList == sy.toList) with
            | true =>
              have HZ : Hid (cellCmp X Y = 0) := by show _ = _; rw [HCC.out, if_neg (by simp), if_neg (by simp), if_pos e3]
              go_wp2_with fail
              go_roundw
              case rel => exact ⟨k + 1, by omega, by go_num, by show _ = _; rw [HC.out, HD.out, if_neg (by rw [HZ.out]; simp)], HB2⟩
              case measure => simp [intOf]; omega
            | false =>
              have HZ : Hid (cellCmp X Y = sgn (Op.bytesLess sx.toList sy.toList)) := by show _ = _; rw [HCC.out, if_neg (by simp), if_neg (by simp), if_neg (by rw [e3]; simp)]
              go_wp2_with fail
              refine (l2sign_any _ _).mono ?_
              rintro e w9 ⟨rfl, rfl⟩
              go_wp2_with fail
              go_ret
              exact ⟨ret_int (by rw [HC.out, HD.out, if_pos (by rw [HZ.out]; exact sgn_ne _), HZ.out]), HB2.out⟩
          · have HZ : Hid (cellCmp X Y = sgn (decide (a2 < d2))) := by show _ = _; rw [HCC.out, if_neg (by simp), if_pos e2]
            go_wp2_with fail
            refine (l2sign_any _ _).mono ?_
            rintro e w9 ⟨rfl, rfl⟩
            go_wp2_with fail
            go_ret
            exact ⟨ret_int (by rw [HC.out, HD.out, if_pos (by rw [HZ.out]; exact sgn_ne _), HZ.out]), HB2.out⟩
        · have HZ : Hid (cellCmp X Y = sgn (decide (a1 < d1))) := by show _ = _; rw [HCC.out, if_pos e1]
          go_wp2_with fail
          refine (l2sign_any _ _).mono ?_
          rintro e w9 ⟨rfl, rfl⟩
          go_wp2_with fail
          go_ret
          exact ⟨ret_int (by rw [HC.out, HD.out, if_pos (by rw [HZ.out]; exact sgn_ne _), HZ.out]), HB2.out⟩
      · have HF : Hid (cmpC xs ys = 0) := by show _ = _; rw [HC.out]; exact cmpC_nil _ _ _ (.inr (by rw [← HL.out.2]; omega))
        go_wp2_with fail
        go_ret
        exact ⟨ret_int HF.out.symm, HB.out⟩
    · have HF : Hid (cmpC xs ys = 0) := by show _ = _; rw [HC.out]; exact cmpC_nil _ _ _ (.inl (by rw [← HL.out.1]; omega))
      go_wp2_with fail
      go_ret
      exact ⟨ret_int HF.out.symm, HB.out⟩

end Go.Proofs.Ytjbckdmlogjggaa
