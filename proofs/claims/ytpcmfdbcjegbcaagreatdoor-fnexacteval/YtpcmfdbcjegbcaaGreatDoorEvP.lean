/- Evaluating, as a function of trees. Own work of the verifier. Made by wip/draft/evp.py. -/
import Derived.Test.YtpcmfdbcjegbcaaGreatDoorEvA
import Derived.Test.YtpcmfdbcjegbcaaGreatDoorPrP
namespace Go.Proofs.YtpcmfdbcjegbcaaGreatDoor
open Go Go.RowKit
set_option linter.unusedVariables false

def sInst : List Int := [105, 110, 115, 116, 97, 110, 116, 105, 97, 116, 105, 111, 110, 95, 101, 114, 114, 111, 114]
def sType : List Int := [116, 121, 112, 101, 95, 101, 114, 114, 111, 114]
def sEval : List Int := [101, 118, 97, 108, 117, 97, 116, 105, 111, 110, 95, 101, 114, 114, 111, 114]
def sOvf : List Int := [105, 110, 116, 95, 111, 118, 101, 114, 102, 108, 111, 119]
def sZero : List Int := [122, 101, 114, 111, 95, 100, 105, 118, 105, 115, 111, 114]
def sUnd : List Int := [117, 110, 100, 101, 102, 105, 110, 101, 100]
def sFloat : List Int := [102, 108, 111, 97, 116]
def sEvb : List Int := [101, 118, 97, 108, 117, 97, 98, 108, 101]
def instT : Tr := ((2, 0, sInst), .nil)
def numT (n : Int) : Tr := ((1, n, []), .nil)
def atomT (s : List Int) : Tr := ((2, 0, s), .nil)
def typeT (s : List Int) (t : Tr) : Tr := ((3, 2, sType), .node (2, 0, s) .nil (.node t.1 t.2 .nil))
def evalT (s : List Int) : Tr := ((3, 1, sEval), .node (2, 0, s) .nil .nil)
def indT (s : List Int) (n : Int) : Tr := ((3, 2, [47]), .node (2, 0, s) .nil (.node (1, n, []) .nil .nil))
def ovfT : Tr := evalT sOvf
def zeroT : Tr := evalT sZero
def undT : Tr := evalT sUnd
def floatT (x : Int) : Tr := typeT sFloat (numT x)
def evbT (s : List Int) (n : Int) : Tr := typeT sEvb (indT s n)
abbrev ER := Except Tr Int
def ones : List (List Int) := [[45], [43], [97, 98, 115], [115, 105, 103, 110], [92]]
def twos : List (List Int) := [[43], [45], [42], [109, 105, 110], [109, 97, 120], [47, 47], [114, 101, 109], [109, 111, 100], [62, 62], [60, 60], [47, 92], [92, 47], [120, 111, 114], [42, 42], [94]]
def knownB (s : List Int) (n : Int) : Bool := (decide (n = 1) && decide (s ∈ ones)) || (decide (n = 2) && decide (s ∈ twos))
def op1 (s : List Int) (x : Int) : Int :=
  if s = [45] then -x else if s = [92] then -x - 1 else if s = [97, 98, 115] then (x.natAbs : Int) else if s = [115, 105, 103, 110] then (if 0 < x then 1 else if x < 0 then -1 else 0) else x
def powE (x y : Int) : ER := if 0 ≤ y then .ok (x ^ y.toNat) else if x = 0 then .error zeroT else if x.natAbs = 1 then .ok (if y % 2 = 0 then 1 else x) else .error (floatT x)
def op2 (s : List Int) (x y : Int) : ER :=
  if s = [43] then .ok (x + y) else if s = [45] then .ok (x - y) else if s = [42] then .ok (x * y) else if s = [109, 105, 110] then .ok (if x < y then x else y) else if s = [109, 97, 120] then .ok (if x < y then y else x)
  else if s = [47, 47] then (if y = 0 then .error zeroT else .ok (x.tdiv y)) else if s = [114, 101, 109] then (if y = 0 then .error zeroT else .ok (x.tmod y)) else if s = [109, 111, 100] then (if y = 0 then .error zeroT else .ok ((x.tmod y + y).tmod y))
  else if s = [62, 62] then (if y < 0 then .error undT else .ok (x / 2 ^ min y.toNat 64)) else if s = [60, 60] then (if y < 0 then .error undT else .ok (x * 2 ^ y.toNat))
  else if s = [47, 92] then .ok (bits .and .i64 x y) else if s = [92, 47] then .ok (bits .or .i64 x y) else if s = [120, 111, 114] then .ok (bits .xor .i64 x y) else powE x y
def opV (s : List Int) : List Int → ER
  | [x] => .ok (op1 s x)
  | [x, y] => op2 s x y
  | _ => .ok 0
def bndE : ER → ER
  | .ok v => if InB v then .ok v else .error ovfT
  | .error t => .error t
/-- The first error, or all values. -/
def seqE : List ER → Except Tr (List Int)
  | [] => .ok []
  | .error t :: _ => .error t
  | .ok v :: r => match seqE r with
    | .error t => .error t
    | .ok vs => .ok (v :: vs)
def evC (c : Cel) (vs : List ER) : ER :=
  if c.1 = 1 then .ok c.2.1 else if c.1 = 0 then .error instT else if c.1 = 2 ∨ knownB c.2.2 c.2.1 = false then .error (evbT c.2.2 c.2.1) else match seqE vs with
    | .error t => .error t
    | .ok xs => bndE (opV c.2.2 xs)
def evF : Fo → List ER
  | .nil => []
  | .node c k r => evC c (evF k) :: evF r
/-- The value of a tree, or its error. -/
def evT (t : Tr) : ER := evC t.1 (evF t.2)
theorem evF_len : ∀ F : Fo, (evF F).length = F.count
  | .nil => rfl
  | .node c k r => by simp only [evF, List.length_cons, Fo.count, evF_len r]
theorem evF_cons (c : Cel) (k r : Fo) : evF (.node c k r) = evT (c, k) :: evF r := rfl
theorem bndE_in {r : ER} {v : Int} (h : bndE r = .ok v) : InB v := by
  cases r with
  | error t => cases h
  | ok u =>
    simp only [bndE] at h
    by_cases hu : InB u
    · rw [if_pos hu] at h; cases h; exact hu
    · rw [if_neg hu] at h; cases h
theorem evT_in {c : Cel} {k : Fo} {v : Int} (hok : (Fo.node c k .nil).ok) (h : evT (c, k) = .ok v) : InB v := by
  unfold evT evC at h
  split at h
  · rename_i h1
    injection h with h
    have := hok.1
    simp only [cellB, decide_eq_true_eq] at this
    simp only at h1 h
    unfold InB
    omega
  split at h
  · cases h
  split at h
  · cases h
  · split at h
    · cases h
    · exact bndE_in h

end Go.Proofs.YtpcmfdbcjegbcaaGreatDoor
