/- Texts of EvA, PrP, EvP. Own work of the verifier. -/
import Derived.Test.YtemohfhblpejmaaDoorUqaa
import Derived.Test.YtemohfhblpejmaaDoorUqaf
namespace Go.Proofs.YtemohfhblpejmaaDoor
open Go Go.RowKit
set_option linter.unusedVariables false

/-- Within the bounds. -/
def InB (v : Int) : Prop := -1000000000000000 ≤ v ∧ v ≤ 1000000000000000
instance (v : Int) : Decidable (InB v) := inferInstanceAs (Decidable (_ ∧ _))
/-- v' stands for v: it is v, or both are beyond the bounds. -/
def Sat (v' v : Int) : Prop := (InB v ∧ v' = v) ∨ (¬ InB v ∧ ¬ InB v' ∧ -4000000000000000 ≤ v' ∧ v' ≤ 4000000000000000)
theorem bits_wrap (r : BitVec 64) : IntKind.i64.wrap (r.toNat : Int) = r.toInt := by
  rw [IntKind.wrap_i64, BitVec.toInt_eq_toNat_cond]
  have h := r.isLt
  simp only [Nat.reducePow] at h ⊢
  split <;> omega
theorem near_of {a : BitVec 64} (h : a.sshiftRight 50 = 0#64 ∨ a.sshiftRight 50 = BitVec.allOnes 64) : -1125899906842624 ≤ a.toInt ∧ a.toInt < 1125899906842624 := by
  have ht := BitVec.toInt_sshiftRight (x := a) (n := 50)
  rw [Int.shiftRight_eq_div_pow] at ht
  rcases h with h | h
  · rw [h] at ht
    have e : (0#64 : BitVec 64).toInt = 0 := by decide
    rw [e] at ht
    have : ((2 ^ 50 : Nat) : Int) = 1125899906842624 := by decide
    rw [this] at ht
    omega
  · rw [h] at ht
    have e : (BitVec.allOnes 64).toInt = -1 := by decide
    rw [e] at ht
    have : ((2 ^ 50 : Nat) : Int) = 1125899906842624 := by decide
    rw [this] at ht
    omega
theorem near_to {x : Int} (h : InB x) : (BitVec.ofInt 64 x).sshiftRight 50 = 0#64 ∨ (BitVec.ofInt 64 x).sshiftRight 50 = BitVec.allOnes 64 := by
  have ht := BitVec.toInt_sshiftRight (x := BitVec.ofInt 64 x) (n := 50)
  have hx : (BitVec.ofInt 64 x).toInt = x := by
    rw [BitVec.toInt_ofInt]
    unfold InB at h
    unfold Int.bmod
    simp only [Nat.reducePow]
    split <;> omega
  rw [hx, Int.shiftRight_eq_div_pow] at ht
  have hp : ((2 ^ 50 : Nat) : Int) = 1125899906842624 := by decide
  rw [hp] at ht
  unfold InB at h
  by_cases h0 : 0 ≤ x
  · left
    apply BitVec.eq_of_toInt_eq
    rw [ht, show (0#64 : BitVec 64).toInt = 0 by decide]
    omega
  · right
    apply BitVec.eq_of_toInt_eq
    rw [ht, show (BitVec.allOnes 64).toInt = -1 by decide]
    omega
def near (v : Int) : Prop := -1125899906842624 ≤ v ∧ v < 1125899906842624
theorem bits_and_near {x y : Int} (hx : InB x) (hy : InB y) : near (bits .and .i64 x y) := by
  show near (IntKind.i64.wrap ((BitVec.ofInt 64 x &&& BitVec.ofInt 64 y).toNat : Int))
  rw [bits_wrap]
  apply near_of
  rw [BitVec.sshiftRight_and_distrib]
  rcases near_to hx with h | h <;> rcases near_to hy with h' | h' <;> rw [h, h'] <;> decide
theorem bits_or_near {x y : Int} (hx : InB x) (hy : InB y) : near (bits .or .i64 x y) := by
  show near (IntKind.i64.wrap ((BitVec.ofInt 64 x ||| BitVec.ofInt 64 y).toNat : Int))
  rw [bits_wrap]
  apply near_of
  rw [BitVec.sshiftRight_or_distrib]
  rcases near_to hx with h | h <;> rcases near_to hy with h' | h' <;> rw [h, h'] <;> decide
theorem bits_xor_near {x y : Int} (hx : InB x) (hy : InB y) : near (bits .xor .i64 x y) := by
  show near (IntKind.i64.wrap ((BitVec.ofInt 64 x ^^^ BitVec.ofInt 64 y).toNat : Int))
  rw [bits_wrap]
  apply near_of
  rw [BitVec.sshiftRight_xor_distrib]
  rcases near_to hx with h | h <;> rcases near_to hy with h' | h' <;> rw [h, h'] <;> decide
theorem bits_not {x : Int} (hx : InB x) : bits .xor .i64 (-1) x = -x - 1 := by
  show IntKind.i64.wrap ((BitVec.ofInt 64 (-1) ^^^ BitVec.ofInt 64 x).toNat : Int) = _
  rw [bits_wrap, show BitVec.ofInt 64 (-1) = BitVec.allOnes 64 by decide, BitVec.allOnes_xor, BitVec.toInt_not, BitVec.toNat_ofInt]
  unfold InB at hx
  unfold Int.bmod
  simp only [Nat.reducePow]
  split <;> omega
theorem inB_abs (v : Int) : InB v ↔ v.natAbs ≤ 1000000000000000 := by unfold InB; omega
theorem inB_mul (a b : Int) : InB (a * b) ↔ a.natAbs * b.natAbs ≤ 1000000000000000 := by rw [inB_abs, Int.natAbs_mul]
/-- How product looks ahead. -/
theorem prod_ahead {a b : Int} (h0 : a ≠ 0) : ((1000000000000000 : Int) / (a.natAbs : Int) < (b.natAbs : Int)) ↔ ¬ InB (a * b) := by
  have hp : 0 < a.natAbs := by omega
  rw [inB_mul, show (1000000000000000 : Int) / (a.natAbs : Int) = ((1000000000000000 / a.natAbs : Nat) : Int) by rfl]
  have := Nat.le_div_iff_mul_le (x := b.natAbs) (y := 1000000000000000) hp
  rw [Nat.mul_comm] at this
  omega
/-- How l6times looks back. -/
theorem times_back {a b p : Int} (hb : b ≠ 0) (hp : p = IntKind.i64.wrap (a * b)) : (p.tdiv b ≠ a ∨ ¬ InB p) ↔ ¬ InB (a * b) := by
  constructor
  · intro h hin
    have e : p = a * b := by
      rw [hp, IntKind.wrap_i64]
      unfold InB at hin
      omega
    rcases h with h | h
    · rw [e, Int.mul_tdiv_cancel _ hb] at h
      exact h rfl
    · rw [e] at h
      exact h hin
  · intro h
    by_cases hq : p.tdiv b = a
    · right
      intro hin
      apply h
      rw [inB_mul, ← hq, Int.natAbs_tdiv]
      rw [inB_abs] at hin
      exact Nat.le_trans (Nat.div_mul_le_self _ _) hin
    · exact .inl hq
theorem pow_abs (x : Int) (n : Nat) : (x ^ n).natAbs = x.natAbs ^ n := Int.natAbs_pow x n
theorem pow_grows {x : Int} (hx : 2 ≤ x.natAbs) {i j : Nat} (h : i ≤ j) (hi : ¬ InB (x ^ i)) : ¬ InB (x ^ j) := by
  rw [inB_abs, pow_abs] at hi ⊢
  have := Nat.pow_le_pow_right (n := x.natAbs) (by omega) h
  omega
theorem pow_one_abs {x : Int} (hx : x.natAbs = 1) (y : Nat) : x ^ y = if y % 2 = 0 then 1 else x := by
  have h : x = 1 ∨ x = -1 := by omega
  rcases h with rfl | rfl
  · rw [Int.one_pow]; split <;> rfl
  · induction y with
    | zero => rfl
    | succ n ih =>
      rw [Int.pow_succ, ih]
      by_cases h : n % 2 = 0
      · rw [if_pos h, if_neg (by omega)]; rfl
      · rw [if_neg h, if_pos (by omega)]; rfl
theorem two_pow_big {n : Nat} (h : 50 ≤ n) : (1000000000000000 : Int) < 2 ^ n := by
  have h1 : (2 : Nat) ^ 50 ≤ 2 ^ n := Nat.pow_le_pow_right (by decide) h
  have h2 : ((2 ^ n : Nat) : Int) = (2 : Int) ^ n := by simp
  rw [← h2]
  have h3 : (2 : Nat) ^ 50 = 1125899906842624 := by decide
  omega
theorem mul_far {x b : Int} (hx : x ≠ 0) (hb : 1000000000000000 < b) : ¬ InB (x * b) := by
  rw [inB_mul]
  have h1 : 1 ≤ x.natAbs := by omega
  have h2 : 1000000000000000 < b.natAbs := by omega
  have := Nat.mul_le_mul h1 (Nat.le_refl b.natAbs)
  omega
/-- A shift to the left by no more than fifty. -/
theorem shl_same {x : Int} {y : Nat} : (InB (x * 2 ^ min y 50) ↔ InB (x * 2 ^ y)) ∧ (InB (x * 2 ^ y) → x * 2 ^ min y 50 = x * 2 ^ y) := by
  by_cases h : y ≤ 50
  · rw [Nat.min_eq_left h]; exact ⟨Iff.rfl, fun _ => rfl⟩
  · rw [Nat.min_eq_right (by omega)]
    by_cases hx : x = 0
    · subst hx; simp
    · have h1 := mul_far hx (two_pow_big (Nat.le_refl 50))
      have h2 := mul_far hx (two_pow_big (n := y) (by omega))
      exact ⟨⟨fun h => absurd h h1, fun h => absurd h h2⟩, fun h => absurd h h2⟩

end Go.Proofs.YtemohfhblpejmaaDoor

namespace Go.Proofs.YtemohfhblpejmaaDoor
open Go Go.RowKit
set_option linter.unusedVariables false

/-- A tree: its cell, and what is below it. -/
abbrev Tr := Cel × Fo
abbrev TT := Tr × Tr
def Tr.fo (t : Tr) : Fo := .node t.1 t.2 .nil
def trs : Fo → List Tr
  | .nil => []
  | .node c k r => (c, k) :: trs r
theorem trs_len : ∀ F : Fo, (trs F).length = F.count
  | .nil => rfl
  | .node c k r => by simp [trs, Fo.count, trs_len r]
def eqFo : Fo → Fo → Bool
  | .nil, .nil => true
  | .node c k r, .node c' k' r' => decide (c = c') && eqFo k k' && eqFo r r'
  | .nil, .node _ _ _ => false
  | .node _ _ _, .nil => false
theorem eqFo_iff : ∀ a b : Fo, eqFo a b = true ↔ a = b
  | .nil, .nil => by simp [eqFo]
  | .node c k r, .node c' k' r' => by simp [eqFo, eqFo_iff k k', eqFo_iff r r', and_assoc]
  | .nil, .node _ _ _ => by simp [eqFo]
  | .node _ _ _, .nil => by simp [eqFo]
def eqT (x : TT) : Bool := decide (x.1.1 = x.2.1) && eqFo x.1.2 x.2.2
theorem eqT_iff (x : TT) : eqT x = true ↔ x.1 = x.2 := by
  obtain ⟨⟨c, k⟩, ⟨c', k'⟩⟩ := x
  simp [eqT, eqFo_iff]
def sames (st : List TT) : Bool := st.all eqT
theorem eqFo_zip : ∀ a b : Fo, a.count = b.count → eqFo a b = ((trs a).zip (trs b)).all eqT
  | .nil, .nil, _ => rfl
  | .node c k r, .node c' k' r', h => by
    have := eqFo_zip r r' (by simpa [Fo.count] using h)
    simp [eqFo, trs, eqT, this]
  | .nil, .node _ _ _, h => by simp [Fo.count] at h
  | .node _ _ _, .nil, h => by simp [Fo.count] at h
/-- The pairs of arguments, the first of them at the end. -/
def argPairs (x : TT) : List TT := ((trs x.1.2).zip (trs x.2.2)).reverse
/-- The pairs that an opening puts on the others. -/
def opened (x : TT) : List TT := if x.1.1 = x.2.1 then argPairs x else []
theorem sames_open (st : List TT) (x : TT) (h : x.1.1 = x.2.1) (hc : x.1.2.count = x.2.2.count) : sames (st ++ opened x) = sames (st ++ [x]) := by
  simp [sames, opened, argPairs, h, eqT, eqFo_zip _ _ hc]
theorem sames_no (st : List TT) (x : TT) (h : x.1.1 ≠ x.2.1) : sames (st ++ [x]) = false := by
  simp [sames, eqT, h]
def load : List TT → Nat
  | [] => 0
  | x :: r => x.1.2.cells.length + 1 + load r
theorem load_append : ∀ a b : List TT, load (a ++ b) = load a + load b
  | [], b => by simp [load]
  | x :: r, b => by simp [load, load_append r b]; omega
theorem load_reverse : ∀ a : List TT, load a.reverse = load a
  | [] => rfl
  | x :: r => by simp [load_append, load, load_reverse r]; omega
theorem load_zip : ∀ a b : Fo, load ((trs a).zip (trs b)) ≤ a.cells.length
  | .nil, b => by simp [trs, load]
  | .node c k r, .nil => by simp [trs, load]
  | .node c k r, .node c' k' r' => by
    have := load_zip r r'
    simp [trs, load, Fo.cells]; omega
theorem load_opened (x : TT) : load (opened x) ≤ x.1.2.cells.length := by
  unfold opened argPairs
  split
  · rw [load_reverse]; exact load_zip _ _
  · simp [load]
theorem len_load : ∀ st : List TT, st.length ≤ load st
  | [] => Nat.le_refl _
  | x :: r => by have := len_load r; simp [load]; omega
/-- Trees that are valid. -/
def Tr.ok (t : Tr) : Prop := t.fo.ok
theorem trs_ok : ∀ F : Fo, F.ok → ∀ t ∈ trs F, Tr.ok t
  | .nil, _, t, h => by simp [trs] at h
  | .node c k r, ⟨h1, h2, h3, h4, h5, h6⟩, t, h => by
    rcases List.mem_cons.1 (show t ∈ (c, k) :: trs r from h) with rfl | h'
    · exact ⟨h1, h2, h3, h4, h5, trivial⟩
    · exact trs_ok r h6 t h'
theorem opened_ok {x : TT} (h1 : x.1.ok) (h2 : x.2.ok) : ∀ y ∈ opened x, y.1.ok ∧ y.2.ok := fun y hy => by
  unfold opened argPairs at hy
  split at hy
  · have hz := List.of_mem_zip (List.mem_reverse.1 hy)
    exact ⟨trs_ok _ h1.2.2.2.2.1 _ hz.1, trs_ok _ h2.2.2.2.2.1 _ hz.2⟩
  · cases hy
theorem ok_count {x : TT} (h1 : x.1.ok) (h2 : x.2.ok) (h : x.1.1 = x.2.1) : x.1.2.count = x.2.2.count := by
  obtain ⟨⟨c, k⟩, ⟨c', k'⟩⟩ := x
  simp only at h
  subst h
  by_cases h3 : c.1 = 3
  · have e1 := h1.2.2.1 h3
    have e2 := h2.2.2.1 h3
    simp only at e1 e2 ⊢
    omega
  · have e1 : k = .nil := h1.2.2.2.1 h3
    have e2 : k' = .nil := h2.2.2.2.1 h3
    rw [e1, e2]
/-- A forest is told by its cells. -/
theorem Fo.cells_inj : ∀ (a b : Fo) (x y : List Cel), a.ok → b.ok → a.count = b.count → a.cells ++ x = b.cells ++ y → a = b ∧ x = y
  | .nil, .nil, x, y, _, _, _, h => ⟨rfl, by simpa [Fo.cells] using h⟩
  | .nil, .node _ _ _, _, _, _, _, h, _ => by simp [Fo.count] at h
  | .node _ _ _, .nil, _, _, _, _, h, _ => by simp [Fo.count] at h
  | .node c k r, .node c' k' r', x, y, h1, h2, hc, h => by
    simp only [Fo.cells, List.cons_append, List.cons.injEq, List.append_assoc] at h
    obtain ⟨rfl, h⟩ := h
    have hk : k.count = k'.count := ok_count (x := ((c, k), (c, k'))) ⟨h1.1, h1.2.1, h1.2.2.1, h1.2.2.2.1, h1.2.2.2.2.1, trivial⟩ ⟨h2.1, h2.2.1, h2.2.2.1, h2.2.2.2.1, h2.2.2.2.2.1, trivial⟩ rfl
    obtain ⟨rfl, h'⟩ := Fo.cells_inj k k' _ _ h1.2.2.2.2.1 h2.2.2.2.2.1 hk h
    obtain ⟨rfl, rfl⟩ := Fo.cells_inj r r' x y h1.2.2.2.2.2 h2.2.2.2.2.2 (by simpa [Fo.count] using hc) h'
    exact ⟨rfl, rfl⟩
theorem eqT_cells {x : TT} (h1 : x.1.ok) (h2 : x.2.ok) : eqT x = decide (x.1.1 :: x.1.2.cells = x.2.1 :: x.2.2.cells) := by
  rw [Bool.eq_iff_iff, eqT_iff, decide_eq_true_eq]
  obtain ⟨⟨c, k⟩, ⟨c', k'⟩⟩ := x
  constructor
  · intro h
    obtain ⟨rfl, rfl⟩ := Prod.mk.inj h
    rfl
  · intro h
    have := Fo.cells_inj (.node c k .nil) (.node c' k' .nil) [] [] h1 h2 rfl (by simpa [Fo.cells] using h)
    have h3 := this.1
    injection h3 with e1 e2
    rw [e1, e2]

end Go.Proofs.YtemohfhblpejmaaDoor

namespace Go.Proofs.YtemohfhblpejmaaDoor
open Go Go.RowKit
set_option linter.unusedVariables false

def sInst : List Int := [105, 110, 115, 116, 97, 110, 116, 105, 97, 116, 105, 111, 110, 95, 101, 114, 114, 111, 114]
def sType : List Int := [116, 121, 112, 101, 95, 101, 114, 114, 111, 114]
def sEval : List Int := [101, 118, 97, 108, 117, 97, 116, 105, 111, 110, 95, 101, 114, 114, 111, 114]
def sOvf : List Int := [105, 110, 116, 95, 111, 118, 101, 114, 102, 108, 111, 119]
def sZero : List Int := [122, 101, 114, 111, 95, 100, 105, 118, 105, 115, 111, 114]
def sUnd : List Int := [117, 110, 100, 101, 102, 105, 110, 101, 100]
def sFloat : List Int := [102, 108, 111, 97, 116]
def sEvb : List Int := [101, 118, 97, 108, 117, 97, 98, 108, 101]
def instT : Tr := ((2, 0, sInst), .nil)
def numT (n : Int) : Tr := ((1, n, []), .nil)
def atomT (s : List Int) : Tr := ((2, 0, s), .nil)
def typeT (s : List Int) (t : Tr) : Tr := ((3, 2, sType), .node (2, 0, s) .nil (.node t.1 t.2 .nil))
def evalT (s : List Int) : Tr := ((3, 1, sEval), .node (2, 0, s) .nil .nil)
def indT (s : List Int) (n : Int) : Tr := ((3, 2, [47]), .node (2, 0, s) .nil (.node (1, n, []) .nil .nil))
def ovfT : Tr := evalT sOvf
def zeroT : Tr := evalT sZero
def undT : Tr := evalT sUnd
def floatT (x : Int) : Tr := typeT sFloat (numT x)
def evbT (s : List Int) (n : Int) : Tr := typeT sEvb (indT s n)
abbrev ER := Except Tr Int
def ones : List (List Int) := [[45], [43], [97, 98, 115], [115, 105, 103, 110], [92]]
def twos : List (List Int) := [[43], [45], [42], [109, 105, 110], [109, 97, 120], [47, 47], [114, 101, 109], [109, 111, 100], [62, 62], [60, 60], [47, 92], [92, 47], [120, 111, 114], [42, 42], [94]]
def knownB (s : List Int) (n : Int) : Bool := (decide (n = 1) && decide (s ∈ ones)) || (decide (n = 2) && decide (s ∈ twos))
def op1 (s : List Int) (x : Int) : Int :=
  if s = [45] then -x else if s = [92] then -x - 1 else if s = [97, 98, 115] then (x.natAbs : Int) else if s = [115, 105, 103, 110] then (if 0 < x then 1 else if x < 0 then -1 else 0) else x
def powE (x y : Int) : ER := if 0 ≤ y then .ok (x ^ y.toNat) else if x = 0 then .error zeroT else if x.natAbs = 1 then .ok (if y % 2 = 0 then 1 else x) else .error (floatT x)
def op2 (s : List Int) (x y : Int) : ER :=
  if s = [43] then .ok (x + y) else if s = [45] then .ok (x - y) else if s = [42] then .ok (x * y) else if s = [109, 105, 110] then .ok (if x < y then x else y) else if s = [109, 97, 120] then .ok (if x < y then y else x)
  else if s = [47, 47] then (if y = 0 then .error zeroT else .ok (x.tdiv y)) else if s = [114, 101, 109] then (if y = 0 then .error zeroT else .ok (x.tmod y)) else if s = [109, 111, 100] then (if y = 0 then .error zeroT else .ok ((x.tmod y + y).tmod y))
  else if s = [62, 62] then (if y < 0 then .error undT else .ok (x / 2 ^ min y.toNat 64)) else if s = [60, 60] then (if y < 0 then .error undT else .ok (x * 2 ^ y.toNat))
  else if s = [47, 92] then .ok (bits .and .i64 x y) else if s = [92, 47] then .ok (bits .or .i64 x y) else if s = [120, 111, 114] then .ok (bits .xor .i64 x y) else powE x y
def opV (s : List Int) : List Int → ER
  | [x] => .ok (op1 s x)
  | [x, y] => op2 s x y
  | _ => .ok 0
def bndE : ER → ER
  | .ok v => if InB v then .ok v else .error ovfT
  | .error t => .error t
/-- The first error, or all values. -/
def seqE : List ER → Except Tr (List Int)
  | [] => .ok []
  | .error t :: _ => .error t
  | .ok v :: r => match seqE r with
    | .error t => .error t
    | .ok vs => .ok (v :: vs)
def evC (c : Cel) (vs : List ER) : ER :=
  if c.1 = 1 then .ok c.2.1 else if c.1 = 0 then .error instT else if c.1 = 2 ∨ knownB c.2.2 c.2.1 = false then .error (evbT c.2.2 c.2.1) else match seqE vs with
    | .error t => .error t
    | .ok xs => bndE (opV c.2.2 xs)
def evF : Fo → List ER
  | .nil => []
  | .node c k r => evC c (evF k) :: evF r
/-- The value of a tree, or its error. -/
def evT (t : Tr) : ER := evC t.1 (evF t.2)
theorem evF_len : ∀ F : Fo, (evF F).length = F.count
  | .nil => rfl
  | .node c k r => by simp only [evF, List.length_cons, Fo.count, evF_len r]
theorem evF_cons (c : Cel) (k r : Fo) : evF (.node c k r) = evT (c, k) :: evF r := rfl
theorem bndE_in {r : ER} {v : Int} (h : bndE r = .ok v) : InB v := by
  cases r with
  | error t => cases h
  | ok u =>
    simp only [bndE] at h
    by_cases hu : InB u
    · rw [if_pos hu] at h; cases h; exact hu
    · rw [if_neg hu] at h; cases h
theorem evT_in {c : Cel} {k : Fo} {v : Int} (hok : (Fo.node c k .nil).ok) (h : evT (c, k) = .ok v) : InB v := by
  unfold evT evC at h
  split at h
  · rename_i h1
    injection h with h
    have := hok.1
    simp only [cellB, decide_eq_true_eq] at this
    simp only at h1 h
    unfold InB
    omega
  split at h
  · cases h
  split at h
  · cases h
  · split at h
    · cases h
    · exact bndE_in h

end Go.Proofs.YtemohfhblpejmaaDoor

