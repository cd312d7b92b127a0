/- Texts of PrP, EvP, Tree2, Tree3, Tree4, Tree5, TermG, EvI1. Own work of the verifier. -/
import Derived.Test.YtkklidpnkofipaaGreatDoorUqab
import Derived.Test.YtkklidpnkofipaaGreatDoorUqac
import Derived.Deep.RegionLaw
import Derived.Deep.Cut
import Derived.Laws.CopyOwn
namespace Go.Proofs.YtkklidpnkofipaaGreatDoor
set_option maxRecDepth 100000
open Go Go.RowKit
set_option linter.unusedVariables false
abbrev Tr := Cel × Fo
abbrev TT := Tr × Tr
def Tr.fo (t : Tr) : Fo := .node t.1 t.2 .nil
def trs : Fo → List Tr
 | .nil => []
 | .node c k r => (c, k) :: trs r
def argPairs (x : TT) : List TT := ((trs x.1.2).zip (trs x.2.2)).reverse
def opened (x : TT) : List TT := if x.1.1 = x.2.1 then argPairs x else []
def Tr.ok (t : Tr) : Prop := t.fo.ok
def sInst : List Int := [105, 110, 115, 116, 97, 110, 116, 105, 97, 116, 105, 111, 110, 95, 101, 114, 114, 111, 114]
def sType : List Int := [116, 121, 112, 101, 95, 101, 114, 114, 111, 114]
def sEval : List Int := [101, 118, 97, 108, 117, 97, 116, 105, 111, 110, 95, 101, 114, 114, 111, 114]
def sOvf : List Int := [105, 110, 116, 95, 111, 118, 101, 114, 102, 108, 111, 119]
def sZero : List Int := [122, 101, 114, 111, 95, 100, 105, 118, 105, 115, 111, 114]
def sUnd : List Int := [117, 110, 100, 101, 102, 105, 110, 101, 100]
def sFloat : List Int := [102, 108, 111, 97, 116]
def sEvb : List Int := [101, 118, 97, 108, 117, 97, 98, 108, 101]
def instT : Tr := ((2, 0, sInst), .nil)
def numT (n : Int) : Tr := ((1, n, []), .nil)
def typeT (s : List Int) (t : Tr) : Tr := ((3, 2, sType), .node (2, 0, s) .nil (.node t.1 t.2 .nil))
def evalT (s : List Int) : Tr := ((3, 1, sEval), .node (2, 0, s) .nil .nil)
def indT (s : List Int) (n : Int) : Tr := ((3, 2, [47]), .node (2, 0, s) .nil (.node (1, n, []) .nil .nil))
def ovfT : Tr := evalT sOvf
def zeroT : Tr := evalT sZero
def undT : Tr := evalT sUnd
def floatT (x : Int) : Tr := typeT sFloat (numT x)
def evbT (s : List Int) (n : Int) : Tr := typeT sEvb (indT s n)
abbrev ER := Except Tr Int
def ones : List (List Int) := [[45], [43], [97, 98, 115], [115, 105, 103, 110], [92]]
def twos : List (List Int) := [[43], [45], [42], [109, 105, 110], [109, 97, 120], [47, 47], [114, 101, 109], [109, 111, 100], [62, 62], [60, 60], [47, 92], [92, 47], [120, 111, 114], [42, 42], [94]]
def knownB (s : List Int) (n : Int) : Bool := (decide (n = 1) && decide (s ∈ ones)) || (decide (n = 2) && decide (s ∈ twos))
def op1 (s : List Int) (x : Int) : Int :=
 if s = [45] then -x else if s = [92] then -x - 1 else if s = [97, 98, 115] then (x.natAbs : Int) else if s = [115, 105, 103, 110] then (if 0 < x then 1 else if x < 0 then -1 else 0) else x
def powE (x y : Int) : ER := if 0 ≤ y then .ok (x ^ y.toNat) else if x = 0 then .error zeroT else if x.natAbs = 1 then .ok (if y % 2 = 0 then 1 else x) else .error (floatT x)
def op2 (s : List Int) (x y : Int) : ER :=
 if s = [43] then .ok (x + y) else if s = [45] then .ok (x - y) else if s = [42] then .ok (x * y) else if s = [109, 105, 110] then .ok (if x < y then x else y) else if s = [109, 97, 120] then .ok (if x < y then y else x)
 else if s = [47, 47] then (if y = 0 then .error zeroT else .ok (x.tdiv y)) else if s = [114, 101, 109] then (if y = 0 then .error zeroT else .ok (x.tmod y)) else if s = [109, 111, 100] then (if y = 0 then .error zeroT else .ok ((x.tmod y + y).tmod y))
 else if s = [62, 62] then (if y < 0 then .error undT else .ok (x / 2 ^ min y.toNat 64)) else if s = [60, 60] then (if y < 0 then .error undT else .ok (x * 2 ^ y.toNat))
 else if s = [47, 92] then .ok (bits .and .i64 x y) else if s = [92, 47] then .ok (bits .or .i64 x y) else if s = [120, 111, 114] then .ok (bits .xor .i64 x y) else powE x y
def opV (s : List Int) : List Int → ER
 | [x] => .ok (op1 s x)
 | [x, y] => op2 s x y
 | _ => .ok 0
def bndE : ER → ER
 | .ok v => if InB v then .ok v else .error ovfT
 | .error t => .error t
def seqE : List ER → Except Tr (List Int)
 | [] => .ok []
 | .error t :: _ => .error t
 | .ok v :: r => match seqE r with
   | .error t => .error t
   | .ok vs => .ok (v :: vs)
def evC (c : Cel) (vs : List ER) : ER :=
 if c.1 = 1 then .ok c.2.1 else if c.1 = 0 then .error instT else if c.1 = 2 ∨ knownB c.2.2 c.2.1 = false then .error (evbT c.2.2 c.2.1) else match seqE vs with
  | .error t => .error t
  | .ok xs => bndE (opV c.2.2 xs)
def evF : Fo → List ER
 | .nil => []
 | .node c k r => evC c (evF k) :: evF r
def evT (t : Tr) : ER := evC t.1 (evF t.2)
theorem evF_cons (c : Cel) (k r : Fo) : evF (.node c k r) = evT (c, k) :: evF r := rfl
theorem bndE_in {r : ER} {v : Int} (h : bndE r = .ok v) : InB v := by
 cases r with
 | error t => cases h
 | ok u =>
   simp only [bndE] at h
   by_cases hu : InB u
   ·rw [if_pos hu] at h; cases h; exact hu
   ·rw [if_neg hu] at h; cases h
theorem evT_in {c : Cel} {k : Fo} {v : Int} (hok : (Fo.node c k .nil).ok) (h : evT (c, k) = .ok v) : InB v := by
 unfold evT evC at h
 split at h
 ·rename_i h1
  injection h with h
  have := hok.1; simp only [cellB, decide_eq_true_eq] at this; simp only at h1 h
  unfold InB
  omega
 split at h
 ·cases h
 split at h
 ·cases h
 ·split at h
  ·cases h
  ·exact bndE_in h
theorem infoTerm : (Tryz.prog.info? 54).map (fun i => (i.zero, i.size, i.bytes)) = some (some .nilIface, 1, 16) := by kernel_rfl
theorem firstLeaf_any (c : Cel) (p : Option Addr) (cap : Nat) (tail : List Cel) (w0 w : World) (hw : Below w0.heap.size w0 w) (h3 : c.1 ≠ 3) (hcell : cellB c.1 c.2.1 c.2.2.length = true) (hcap : tail.length + 1 ≤ cap) (hn : cap ≤ 9223372036854775807) (hc : CIn w0 p (c :: tail)) :
  Calls Tryz.prog 55 #[.slice p (tail.length + 1) cap] w fun e w' => ∃ v q, e = .returned (.tuple #[v, .slice q tail.length (cap - 1)]) ∧ CIn w0 q tail ∧ FoIn w' w.heap.size (.node c .nil .nil) [v] ∧ Below w.heap.size w w' := by
 obtain ⟨b, o, rfl, hcs⟩ := hc (by simp); obtain ⟨p0, q0, h0, h1, h2, h4⟩ := (hcs 0 (by simp)).below hw; simp only [List.getD_cons_zero, Nat.zero_mul, Nat.add_zero] at h0 h1 h2 h4
 have HT : Hid (∀ A, (tail.length ≠ 0 → A = some ⟨b, o + 3, none⟩) → CIn w0 A tail) := fun A hA hl => ⟨b, o + 3, hA (by omega), fun i hi => by
  have := hcs (i + 1) (by simpa using hi); rw [show o + (i + 1) * 3 = o + 3 + i * 3 by omega] at this
  simpa using this⟩
 clear hcs hw; obtain ⟨k, n, xs⟩ := c; simp only at h3 hcell h0 h1 h2 h4
 have hk : k = 0 ∨ k = 1 ∨ k = 2 := by simp [cellB] at hcell; omega
 clear h3; have HC : Hid _ := hcell; clear hcell
 obtain ⟨t, et⟩ : ∃ t, t = tail.length := ⟨_, rfl⟩
 rw [← et] at hcap HT ⊢
 obtain ⟨m, hm⟩ : ∃ m, m = xs.length := ⟨_, rfl⟩
 rw [← hm] at h2
 have hle : (1 : Int) ≤ (t : Int) + 1 := by omega
 have hlt : (0 : Int) < (t : Int) + 1 := by omega
 have H4 : Hid (BIn w p0 xs) := h4; have HM : Hid (m = xs.length) := hm; clear hc et h4 hm
 rcases hk with rfl | rfl | rfl
 ·have a0 : ∀ x, (w.alloc x).cell? ⟨b, o, none⟩ = some (.int .i64 0) := fun x => Lib.cell?_alloc_marked x h0
  have a1 : ∀ x, (w.alloc x).cell? ⟨b, o + 1, none⟩ = some (.int .i64 n) := fun x => Lib.cell?_alloc_marked x h1
  have a2 : ∀ x, (w.alloc x).cell? ⟨b, o + 2, none⟩ = some (.slice p0 m q0) := fun x => Lib.cell?_alloc_marked x h2
  have HB : Hid (Below w.heap.size w (w.alloc (Obj.cells #[Value.int IntKind.i64 0, Value.int IntKind.i64 n, Value.slice p0 m q0] 63)).drew) := ((Below.refl _ _).alloc (Nat.le_refl _) _).drew
  go_enter Tryz.func55, Tryz.ntmps55
  go_wp2
  go_region
  all_goals go_wp2
  ·refine bodyPost_ret (v := .tuple #[.iface 80 (.int .i64 n), .slice (some ⟨b, o, none⟩) t 0]) (by simp [results, Tryz.results55, go_sem]) rfl ⟨_, _, rfl, HT.out _ (fun h => by omega), ⟨_, [], rfl, .inl ⟨rfl, rfl⟩, rfl⟩, HB.out⟩
  ·refine bodyPost_ret (v := .tuple #[.iface 80 (.int .i64 n), .slice (some ⟨b, o + 3, none⟩) t (cap - 1)]) (by simp [results, Tryz.results55, go_sem]) rfl ⟨_, _, rfl, HT.out _ (fun h => rfl), ⟨_, [], rfl, .inl ⟨rfl, rfl⟩, rfl⟩, HB.out⟩
 ·have a0 : ∀ x, (w.alloc x).cell? ⟨b, o, none⟩ = some (.int .i64 1) := fun x => Lib.cell?_alloc_marked x h0
  have a1 : ∀ x, (w.alloc x).cell? ⟨b, o + 1, none⟩ = some (.int .i64 n) := fun x => Lib.cell?_alloc_marked x h1
  have a2 : ∀ x, (w.alloc x).cell? ⟨b, o + 2, none⟩ = some (.slice p0 m q0) := fun x => Lib.cell?_alloc_marked x h2
  have HB : Hid (Below w.heap.size w (w.alloc (Obj.cells #[Value.int IntKind.i64 1, Value.int IntKind.i64 n, Value.slice p0 m q0] 63)).drew) := ((Below.refl _ _).alloc (Nat.le_refl _) _).drew
  go_enter Tryz.func55, Tryz.ntmps55
  go_wp2
  go_region
  all_goals go_wp2
  ·refine bodyPost_ret (v := .tuple #[.iface 48 (.int .i64 n), .slice (some ⟨b, o, none⟩) t 0]) (by simp [results, Tryz.results55, go_sem]) rfl ⟨_, _, rfl, HT.out _ (fun h => by omega), ⟨_, [], rfl, .inr (.inl ⟨rfl, rfl⟩), rfl⟩, HB.out⟩
  ·refine bodyPost_ret (v := .tuple #[.iface 48 (.int .i64 n), .slice (some ⟨b, o + 3, none⟩) t (cap - 1)]) (by simp [results, Tryz.results55, go_sem]) rfl ⟨_, _, rfl, HT.out _ (fun h => rfl), ⟨_, [], rfl, .inr (.inl ⟨rfl, rfl⟩), rfl⟩, HB.out⟩
 ·have a0 : ∀ x, (w.alloc x).cell? ⟨b, o, none⟩ = some (.int .i64 2) := fun x => Lib.cell?_alloc_marked x h0
  have a1 : ∀ x, (w.alloc x).cell? ⟨b, o + 1, none⟩ = some (.int .i64 n) := fun x => Lib.cell?_alloc_marked x h1
  have a2 : ∀ x, (w.alloc x).cell? ⟨b, o + 2, none⟩ = some (.slice p0 m q0) := fun x => Lib.cell?_alloc_marked x h2
  have HB : Hid (Below w.heap.size w (w.alloc (Obj.cells #[Value.int IntKind.i64 2, Value.int IntKind.i64 n, Value.slice p0 m q0] 63)).drew) := ((Below.refl _ _).alloc (Nat.le_refl _) _).drew
  have hcv := fun (W : World) (h : Below w.heap.size w W) => conv_str (H4.out.below h) m q0 HM.out 160 Tryz.underlying160
  have hcv' := hcv _ HB.out; have hcv2 : (convert 22 160 (.slice p0 m q0)).run Tryz.prog (w.alloc (Obj.cells #[Value.int IntKind.i64 2, Value.int IntKind.i64 n, Value.slice p0 m q0] 63)).drew = .ok (.string (strOfNums xs)) (w.alloc (Obj.cells #[Value.int IntKind.i64 2, Value.int IntKind.i64 n, Value.slice p0 m q0] 63)).drew := hcv'; clear hcv hcv'
  obtain ⟨str, es⟩ : ∃ str, str = strOfNums xs := ⟨_, rfl⟩
  rw [← es] at hcv2; have HS : Hid (str = strOfNums xs) := es; clear es
  go_enter Tryz.func55, Tryz.ntmps55
  go_wp2
  go_region
  all_goals go_wp2
  ·refine bodyPost_ret (v := .tuple #[.iface 160 (.string str), .slice (some ⟨b, o, none⟩) t 0]) (by simp [results, Tryz.results55, go_sem]) rfl ⟨_, _, rfl, HT.out _ (fun h => by omega), ⟨_, [], rfl, .inr (.inr (.inl ⟨rfl, by rw [HS.out]⟩)), rfl⟩, HB.out⟩
  ·refine bodyPost_ret (v := .tuple #[.iface 160 (.string str), .slice (some ⟨b, o + 3, none⟩) t (cap - 1)]) (by simp [results, Tryz.results55, go_sem]) rfl ⟨_, _, rfl, HT.out _ (fun h => rfl), ⟨_, [], rfl, .inr (.inr (.inl ⟨rfl, by rw [HS.out]⟩)), rfl⟩, HB.out⟩
theorem NodeIn.iface {w : World} {B : Nat} {c : Cel} {K : List Value → Prop} {v : Value} (h : NodeIn w B c K v) : ∃ t x, v = .iface t x := by
 rcases h with h | h | h | ⟨h, b, g, vs, hv, _⟩
 ·exact ⟨_, _, h.2⟩
 ·exact ⟨_, _, h.2⟩
 ·exact ⟨_, _, h.2⟩
 ·exact ⟨_, _, hv⟩
theorem FoIn.iface {w : World} {B : Nat} {c : Cel} {k r : Fo} {v : Value} {vs : List Value} (h : FoIn w B (.node c k r) (v :: vs)) : ∃ t x, v = .iface t x := by
 obtain ⟨v', vr, e, hn, _⟩ := h; obtain ⟨rfl, rfl⟩ := List.cons.inj e; exact hn.iface
def FirstOut (w0 w : World) (c : Cel) (k : Fo) (tail : List Cel) (cap : Nat) (e : Ending) (w' : World) : Prop :=
 ∃ v q l cp, e = .returned (.tuple #[v, .slice q l cp]) ∧ l = tail.length ∧ cp + 1 + k.cells.length = cap ∧ CIn w0 q tail ∧ FoIn w' w.heap.size (.node c k .nil) [v] ∧ Below w.heap.size w w'
theorem row_next {B g n : Nat} {w : World} {vs : List Value} {j : Nat} (h : w.ownsRow B 54 1 (.slice (some ⟨g, 0, none⟩) n n) n (vs ++ List.replicate (n - j) .nilIface)) (hj : vs.length = j) (hlt : j < n) (v : Value) :
  (w.setCell ⟨g, j, none⟩ v).ownsRow B 54 1 (.slice (some ⟨g, 0, none⟩) n n) n ((vs ++ [v]) ++ List.replicate (n - (j + 1)) .nilIface) := by
 have := (h.stored j v).1; rw [List.set_append_right _ _ (by omega), show j - vs.length = 0 by omega, show n - j = (n - (j + 1)) + 1 by omega, List.replicate_succ, List.set_cons_zero] at this; rw [List.append_assoc]; exact this
set_option maxHeartbeats 1000000 in
theorem firstTerm_any : ∀ (N : Nat) (c : Cel) (k : Fo) (p : Option Addr) (l cap : Nat) (tail : List Cel) (w0 w : World), Below w0.heap.size w0 w → k.cells.length ≤ N → (Fo.node c k .nil).ok → l = k.cells.length + tail.length + 1 → l ≤ cap → cap ≤ 9223372036854775807 → CIn w0 p (c :: (k.cells ++ tail)) →
  Calls Tryz.prog 55 #[.slice p l cap] w (FirstOut w0 w c k tail cap) := by
 intro N
 induction N with
 | zero =>
   intro c k p l cap tail w0 w hw hN hok hl hcap hn hc
   have hk : k = .nil := by cases k with | nil => rfl | node a b d => simp [Fo.cells] at hN
   subst hk
   have h3 : c.1 ≠ 3 := fun e => by
    have h1 := hok.2.2.1 e; have h2 := cellB_comp (e ▸ hok.1)
    simp [Fo.count] at h1; omega
   subst hl; have := firstLeaf_any c p cap tail w0 w hw h3 hok.1 (by simpa [Fo.cells] using hcap) hn hc; simp only [Fo.cells, List.length_nil, Nat.zero_add]
   refine this.mono fun e w' ⟨v, q, h1, h2, h3, h4⟩ => ⟨v, q, _, _, h1, rfl, by simp [Fo.cells]; simp [Fo.cells] at hcap; omega, h2, h3, h4⟩
 | succ N ih =>
   intro c k p l cap tail w0 w hw hN hok hl hcap hn hc
   by_cases h3 : c.1 = 3
   ·obtain ⟨b, o, rfl, hcs⟩ := hc (by simp)
    obtain ⟨p0, q0, h0, h1, h2, h4⟩ := (hcs 0 (by simp)).below hw; simp only [List.getD_cons_zero, Nat.zero_mul, Nat.add_zero] at h0 h1 h2 h4; have HW0 : Hid (Below w0.heap.size w0 w) := hw
    have HT : Hid (CIn w0 (some ⟨b, o + 3, none⟩) (k.cells ++ tail)) := fun hl => ⟨b, o + 3, rfl, fun i hi => by
     have := hcs (i + 1) (by simpa using hi); rw [show o + (i + 1) * 3 = o + 3 + i * 3 by omega] at this
     simpa using this⟩
    clear hcs hc hw; have hcnt := hok.2.2.1 h3; have hc1 := cellB_comp (h3 ▸ hok.1); have HOK : Hid k.ok := hok.2.2.2.2.1; obtain ⟨kd, n0, xs⟩ := c; simp only at h3 h0 h1 h2 h4 hcnt hc1; subst h3; have hcl := Fo.count_le k
    obtain ⟨n, en⟩ : ∃ n, n = k.count := ⟨_, rfl⟩
    have HE : Hid (n = k.count) := en; rw [← en] at hcnt hcl; subst hcnt
    have hcap1 : ¬ cap = 1 := by omega
    have hcap2 : (cap = 1) = False := by simpa using hcap1
    obtain ⟨m, hm⟩ : ∃ m, m = xs.length := ⟨_, rfl⟩
    rw [← hm] at h2; have HM : Hid (m = xs.length) := hm; have H4 : Hid (BIn w p0 xs) := h4; have HL : Hid (l = k.cells.length + tail.length + 1) := hl; have HN : Hid (k.cells.length ≤ N + 1) := hN; have HCL : Hid (n ≤ k.cells.length) := hcl
    obtain ⟨l', el⟩ : ∃ l', l = l' + 1 := ⟨l - 1, by omega⟩
    subst el; have HIH : Hid _ := ih; clear en h4 hm hl hN ih hok hcl
    have a0 : ∀ x, (w.alloc x).cell? ⟨b, o, none⟩ = some (.int .i64 3) := fun x => Lib.cell?_alloc_marked x h0
    have a1 : ∀ x, (w.alloc x).cell? ⟨b, o + 1, none⟩ = some (.int .i64 n) := fun x => Lib.cell?_alloc_marked x h1
    have a2 : ∀ x, (w.alloc x).cell? ⟨b, o + 2, none⟩ = some (.slice p0 m q0) := fun x => Lib.cell?_alloc_marked x h2
    have hle : (1 : Int) ≤ (l' : Int) + 1 := by omega
    have hlt : (0 : Int) < (l' : Int) + 1 := by omega
    obtain ⟨i0, hi, hz0, hz1, hz2⟩ := info_parts infoTerm
    have hmx : n ≤ maxLen := by unfold maxLen; omega
    go_enter Tryz.func55, Tryz.ntmps55
    go_wp2_with fail
    go_region
    all_goals go_wp2_with (at_make; refine wpList_make_full _ rfl _ _ 81 rfl (w.heap.size + 1) 54 i0 .nilIface 1 Tryz.underlying81 hi hz0 hz1 _ _ _ _ n rfl rfl rfl rfl (by rw [hz2]; omega) hmx (by simp) ?_; intro w1 hown hgrow)
    have HO1 : Hid (w1.ownsRow (w.heap.size + 1) 54 1 (.slice (some ⟨w.heap.size + 1, 0, none⟩) n n) n ([] ++ List.replicate (n - 0) .nilIface)) := by
     have := hown
     simp [Value.cells, toList_madeCells_one] at this
     exact this
    have HB1 : Hid (Below (w.heap.size + 1) (w.alloc (Obj.cells #[Value.int IntKind.i64 3, Value.int IntKind.i64 n, Value.slice p0 m q0] 63)).drew w1) := (Below.refl _ _).grown hgrow (by simp) (fun k h => by cases h); have HX1 : Hid (Box3 w1 w.heap.size (.int .i64 3) (.int .i64 n) (.slice p0 m q0)) := Box3.of_block (t := 63) ((HB1.out.block _ (by omega)).trans (heap_alloc_new _ _)); have HW1 : Hid (Below w.heap.size w w1) := ((Below.refl _ _).alloc (Nat.le_refl _) _).drew.trans (HB1.out.mono (by omega))
    have hs1 : w.heap.size + 2 ≤ w1.heap.size := by
     rcases HO1.out.2 with ⟨h', _⟩ | ⟨g', cap', cur, hv, hb', hg', _⟩
     ·simp at h'
     ·simp only [Value.slice.injEq, Option.some.injEq, Addr.mk.injEq, and_true, true_and] at hv
      have := (Array.getElem?_eq_some_iff.1 hg').1
      omega
    clear hown hgrow hi hz0 hz1 hz2 a0 a1 a2 h0 h1 h2 hle hlt HB1
    go_loopw [5, 39] (fun s i wr => ∃ (D R : Fo) (vs : List Value) (q : Option Addr) (j l2 c2 : Nat), j ≤ n ∧ l2 ≤ c2 ∧ c2 ≤ cap ∧ i = .int .i64 j ∧ s = .slice q l2 c2 ∧ Hid (k = D.cat R ∧ D.count = j ∧ vs.length = j ∧ l2 = R.cells.length + tail.length ∧ c2 + 1 + D.cells.length = cap) ∧
     Hid (CIn w0 q (R.cells ++ tail)) ∧ Hid (FoIn wr (w.heap.size + 2) D vs) ∧ Hid (wr.ownsRow (w.heap.size + 1) 54 1 (.slice (some ⟨w.heap.size + 1, 0, none⟩) n n) n (vs ++ List.replicate (n - j) .nilIface)) ∧
     Hid (Below w.heap.size w wr) ∧ Hid (Box3 wr w.heap.size (.int .i64 3) (.int .i64 n) (.slice p0 m q0)) ∧ w.heap.size + 2 ≤ wr.heap.size) (fun _ i _ => n - (intOf i).toNat)
    case atStart => exact ⟨.nil, k, [], _, 0, l', cap - 1, Nat.zero_le _, by omega, by omega, rfl, rfl, ⟨rfl, rfl, rfl, by have := HL.out; omega, by simp [Fo.cells]; omega⟩, HT.out, rfl, HO1, HW1, HX1, hs1⟩
    case round =>
     obtain ⟨D, R, vs, q, j, l2, c2, hj, hl2, hc2, rfl, rfl, HF, HC, HI, HR, HB, HX, hsz⟩ := hrel
     by_cases hlt : j < n
     ·obtain ⟨c', k', r', rfl⟩ : ∃ c' k' r', R = .node c' k' r' := by
       cases R with
       | nil =>
         have := HF.out; rw [Fo.cat_nil] at this; have e := HE.out; rw [this.1, this.2.1] at e
         omega
       | node c' k' r' => exact ⟨c', k', r', rfl⟩
      have hok2 := (Fo.ok_cat D (.node c' k' r')).1 (HF.out.1 ▸ HOK.out)
      have hlen : D.cells.length + (k'.cells.length + r'.cells.length + 1) = k.cells.length := by
       rw [HF.out.1, Fo.cells_cat]; simp [Fo.cells]
      have HS := HIH.out c' k' q l2 c2 (r'.cells ++ tail) w0 wr (Below.on HW0.out HB.out) (by have := HN.out; omega) ⟨hok2.2.1, hok2.2.2.1, hok2.2.2.2.1, hok2.2.2.2.2.1, hok2.2.2.2.2.2.1, trivial⟩ (by rw [HF.out.2.2.2.1]; simp [Fo.cells]; omega) hl2 (by omega)
       (by have := HC.out; simpa [Fo.cells, List.append_assoc] using this)
      have HOK2 : Hid r'.ok := hok2.2.2.2.2.2.2; have HLEN : Hid _ := hlen; clear hok2 hlen; go_wp2_with fail; refine HS.mono ?_; rintro e w2 ⟨v, q2, l3, c3, rfl, hl3, hc3, hin3, hfo3, hb3⟩; obtain ⟨vt, vx, rfl⟩ := hfo3.iface
      have d0 : w2.cell? ⟨w.heap.size + 1, j, none⟩ = some .nilIface := by
       rw [hb3.cell (p := ⟨w.heap.size + 1, j, none⟩) (show w.heap.size + 1 < _ by omega), HR.out.cellAt j (by omega), List.getElem?_append_right (by have := HF.out.2.2.1; omega), List.getElem?_replicate, if_pos (by have := HF.out.2.2.1; omega)]
      have d1 : w2.frozen? ⟨w.heap.size + 1, j, none⟩ = false := (hb3.frozen (p := ⟨w.heap.size + 1, j, none⟩) (show w.heap.size + 1 < _ by omega)).trans (HR.out.frozenAt j); have HB3 : Hid (Below wr.heap.size wr w2) := hb3; have HI3 : Hid (CIn w0 q2 (r'.cells ++ tail)) := hin3; have HF3 : Hid (FoIn w2 wr.heap.size (.node c' k' .nil) [.iface vt vx]) := hfo3
      have HL3 : Hid (l3 = (r'.cells ++ tail).length ∧ c3 + 1 + k'.cells.length = c2) := ⟨hl3, hc3⟩
      clear hb3 hin3 hfo3 hl3 hc3 HS
      go_wp2
      have HB2 : Hid (Below w.heap.size w w2) := Below.on HB.out HB3.out; have HR2 : Hid (w2.ownsRow (w.heap.size + 1) 54 1 (.slice (some ⟨w.heap.size + 1, 0, none⟩) n n) n (vs ++ List.replicate (n - j) .nilIface)) := row_below HR.out HB3.out; have HFI : Hid (FoIn w2 (w.heap.size + 2) (D.cat (.node c' k' .nil)) (vs ++ [.iface vt vx])) := FoIn.cat _ _ _ _ (HI.out.below HB3.out) (HF3.out.mono (by omega)); have HX2 : Hid (Box3 w2 w.heap.size (.int .i64 3) (.int .i64 n) (.slice p0 m q0)) := HX.out.below HB3.out (by omega); have hsz2 : w.heap.size + 2 ≤ w2.heap.size := Nat.le_trans hsz HB3.out.size; obtain ⟨e1, e2, e3, e4, e5⟩ := HF.out; have e6 := HLEN.out; have e7 := HL3.out; have G1 := HFI.out.setCell (a := ⟨w.heap.size + 1, j, none⟩) (show w.heap.size + 1 < w.heap.size + 2 by omega) (Value.iface vt vx); have G2 := row_next HR2.out e3 hlt (Value.iface vt vx); have G3 := HX2.out.setCell (a := ⟨w.heap.size + 1, j, none⟩) (show w.heap.size + 1 ≠ w.heap.size by omega) (Value.iface vt vx)
      have G4 := HB2.out.setCell (p := ⟨w.heap.size + 1, j, none⟩) (show w.heap.size ≤ w.heap.size + 1 by omega) (Value.iface vt vx); go_roundw
      case rel => exact ⟨D.cat (.node c' k' .nil), r', vs ++ [Value.iface vt vx], q2, j + 1, l3, c3, by omega, by rw [e7.1, List.length_append]; have := HL.out; omega, by omega, by go_num, rfl,
       ⟨by rw [Fo.cat_assoc]; exact e1, by rw [Fo.count_cat, e2]; rfl, by simp [e3], by rw [e7.1, List.length_append], by rw [Fo.cells_cat]; simp [Fo.cells]; omega⟩, HI3, G1, G2, G4, G3, by simpa using hsz2⟩
      case measure => simp [intOf]; omega
     ·obtain rfl : j = n := by omega
      obtain ⟨e1, e2, e3, e4, e5⟩ := HF.out
      obtain rfl : R = .nil := by
       have e := HE.out; rw [e1, Fo.count_cat] at e
       cases R with
       | nil => rfl
       | node a b d => simp [Fo.count] at e; omega
      rw [Fo.cat_nil] at e1; subst e1; have hcv := conv_str (H4.out.below HB.out) m q0 HM.out 9 Tryz.underlying9
      obtain ⟨str, es⟩ : ∃ str, str = strOfNums xs := ⟨_, rfl⟩
      rw [← es] at hcv; have HS : Hid (str = strOfNums xs) := es; obtain ⟨x0, x1, x2, _⟩ := HX.out
      have HF' : Hid (l2 = tail.length ∧ c2 + 1 + k.cells.length = cap ∧ vs.length = j) := ⟨by simpa [Fo.cells] using e4, e5, e3⟩
      clear es e2 e3 e4 e5 HF; have HA : Hid (Below w.heap.size w (wr.alloc (Obj.cells #[Value.string str, Value.slice (some ⟨w.heap.size + 1, 0, none⟩) j j] 167))) := HB.out.alloc HB.out.size _
      go_wp2
      refine bodyPost_ret (v := .tuple #[.iface 163 (.pointer (some ⟨wr.heap.size, 0, none⟩)), .slice q l2 c2]) (by simp [results, Tryz.results55, go_sem]) rfl ⟨_, q, l2, c2, rfl, HF'.out.1, HF'.out.2.1, HC.out, ?_, HA.out⟩; have hv := HF'.out.2.2; subst hv; have hnew := heap_alloc_new wr (Obj.cells #[Value.string str, Value.slice (some ⟨w.heap.size + 1, 0, none⟩) vs.length vs.length] 167); refine ⟨_, [], rfl, .inr (.inr (.inr ⟨rfl, wr.heap.size, w.heap.size + 1, vs, rfl, by omega, by omega, by rw [← HS.out]; exact (cell_of_row _ _ 0 _ _ _ hnew), cell_of_row _ _ 1 _ _ _ hnew, by simp; omega, fun i hi => ?_, ?_⟩)), rfl⟩
      ·refine Lib.cell?_alloc_marked _ ?_
       rw [HR.out.cellAt i (by omega), List.getElem?_append_left (by omega)]
       simp [List.getD, hi]
      ·exact (HI.out.below ((Below.refl _ _).alloc (Nat.le_refl _) _)).mono (by omega)
   ·have hk : k = .nil := hok.2.2.2.1 h3
    subst hk; subst hl; have := firstLeaf_any c p cap tail w0 w hw h3 hok.1 (by simpa [Fo.cells] using hcap) hn hc; simp only [Fo.cells, List.length_nil, Nat.zero_add]
    refine this.mono fun e w' ⟨v, q, h1, h2, h3, h4⟩ => ⟨v, q, _, _, h1, rfl, by simp [Fo.cells]; simp [Fo.cells] at hcap; omega, h2, h3, h4⟩
theorem flat_one (r : RC) : flat [r] = rcV r := by simp [flat]
theorem ownC_grew {W0 w w' : World} {B g n cap cp : Nat} {p : Option Addr} {cs : List Cel} {rs : List RC} (hn : n = cs.length) (hl : rs.length = cs.length) (hr0 : W0.ownsRow B 63 3 (.slice p n cp) n (flat rs))
  (hf : ∀ i, i < cs.length → Fits W0 B (rs.getD i RC.zero) (cs.getD i Cel.none)) (ha : ApartC p rs) (hb0 : Below W0.heap.size W0 w) (hB : B ≤ W0.heap.size)
  {kd nn : Int} {tp : Option Addr} {tn tc : Nat} {t : List Int} (ht : OwnT w W0.heap.size tp tn tc t)
  (hr : w'.ownsRow B 63 3 (.slice (some ⟨g, 0, none⟩) (n + 1) cap) (n + 1) (flat rs ++ rcV (kd, nn, tp, tn, tc))) (hg : w.grownBy w' (Value.ownBlock (.slice p n cp))) (hat : Value.ownBlock (.slice p n cp) = some g ∨ g = w.heap.size) :
  OwnC w' B (some ⟨g, 0, none⟩) (n + 1) cap (cs ++ [(kd, nn, t)]) := by
 have hown : ∀ k, Value.ownBlock (.slice p n cp) = some k → p = some ⟨k, 0, none⟩ ∧ k < W0.heap.size := fun k hk => by
  rcases hr0.2 with ⟨hv, _⟩ | ⟨g', cap', cur, hv, hb, hg', _⟩
  ·simp only [Value.slice.injEq] at hv; rw [hv.1] at hk; simp [Value.ownBlock] at hk
  ·simp only [Value.slice.injEq] at hv
   rw [hv.1] at hk ⊢
   simp [Value.ownBlock] at hk
   subst hk; exact ⟨rfl, (Array.getElem?_eq_some_iff.1 hg').1⟩
 have hold : ∀ i, i < cs.length → OwnT w B (rs.getD i RC.zero).2.2.1 (rs.getD i RC.zero).2.2.2.1 (rs.getD i RC.zero).2.2.2.2 (cs.getD i Cel.none).2.2 := fun i hi => (hf i hi).2.2.below hb0
 have hlow : ∀ i, i < cs.length → 0 < (rs.getD i RC.zero).2.2.2.1 → ∃ k, (rs.getD i RC.zero).2.2.1 = some ⟨k, 0, none⟩ ∧ k < W0.heap.size := fun i hi hp => by
  obtain ⟨k, e, _, hlt, _⟩ := (hf i hi).2.2.2 hp; exact ⟨k, e, hlt⟩
 have hhigh : 0 < tn → ∃ k, tp = some ⟨k, 0, none⟩ ∧ W0.heap.size ≤ k ∧ k < w.heap.size := fun hp => by
  obtain ⟨k, e, h1, h2, _⟩ := ht.2 hp; exact ⟨k, e, h1, h2⟩
 have hnewg : g < W0.heap.size ∨ g = w.heap.size := by
  rcases hat with h | h
  ·exact .inl (hown g h).2
  ·exact .inr h
 refine ⟨by simp; omega, rs ++ [(kd, nn, tp, tn, tc)], by simp; omega, by rw [flat_append, flat_one]; exact hr, fun i hi => ?_, fun i hi hp => ?_, fun i j hi hj hij hpi hpj => ?_⟩
 ·have hi' : i ≤ cs.length := by simp at hi; omega
  rw [rs_append_at _ _ _ (by omega), cs_append_at _ _ _ hi']
  by_cases e : i = cs.length
  ·rw [if_pos (by omega), if_pos e]
   refine ⟨rfl, rfl, (ht.mono hB).other hg.size (fun k hn0 e' => ?_)⟩; obtain ⟨k', e'', h1, h2⟩ := hhigh hn0
   have hkk : k = k' := by
    have := e'.symm.trans e''; exact congrArg Addr.block (Option.some.inj this)
   refine hg.block k (by omega) (fun hk => ?_); have := (hown k hk.symm).2
   omega
  ·rw [if_neg (by omega), if_neg e]
   refine ⟨(hf i (by omega)).1, (hf i (by omega)).2.1, (hold i (by omega)).other hg.size (fun k hn0 e' => ?_)⟩; obtain ⟨k', e'', h1⟩ := hlow i (by omega) hn0; have hkk : k = k' := congrArg Addr.block (Option.some.inj (e'.symm.trans e'')); refine hg.block k (by have := hb0.size; omega) (fun hk => ?_); exact ha.1 i (by omega) hn0 (by rw [e', (hown k hk.symm).1])
 ·have hi' : i ≤ rs.length := by simp at hi; omega
  rw [rs_append_at _ _ _ hi'] at hp ⊢
  by_cases e : i = rs.length
  ·rw [if_pos e] at hp ⊢
   obtain ⟨k', e'', h1, h2⟩ := hhigh hp; rw [show ((kd, nn, tp, tn, tc) : RC).2.2.1 = tp from rfl, e'']; exact ne_block (by omega) hp
  ·rw [if_neg e] at hp ⊢
   obtain ⟨k', e'', h1⟩ := hlow i (by omega) hp
   rcases hat with h | h
   ·rw [← (hown g h).1]
    exact ha.1 i (by omega) hp
   ·rw [e'']
    exact ne_block (by have := hb0.size; omega) hp
 ·have hi' : i ≤ rs.length := by simp at hi; omega
  have hj' : j ≤ rs.length := by simp at hj; omega
  rw [rs_append_at _ _ _ hi'] at hpi ⊢; rw [rs_append_at _ _ _ hj'] at hpj ⊢
  by_cases e : i = rs.length
  ·rw [if_pos e] at hpi ⊢
   rw [if_neg (by omega)] at hpj ⊢; obtain ⟨k', e'', h1, h2⟩ := hhigh hpi; obtain ⟨k2, e2, h3⟩ := hlow j (by omega) hpj; rw [show ((kd, nn, tp, tn, tc) : RC).2.2.1 = tp from rfl, e'', e2]; exact ne_block (by omega) hpi
  ·rw [if_neg e] at hpi ⊢
   by_cases e' : j = rs.length
   ·rw [if_pos e'] at hpj ⊢
    obtain ⟨k', e'', h1, h2⟩ := hhigh hpj; obtain ⟨k2, e2, h3⟩ := hlow i (by omega) hpi; rw [show ((kd, nn, tp, tn, tc) : RC).2.2.1 = tp from rfl, e'', e2]; exact ne_block (by omega) hpi
   ·rw [if_neg e'] at hpj ⊢
    exact ha.2 i j (by omega) (by omega) hij hpi hpj
theorem rcV_one (r : RC) : ∀ u ∈ rcV r, u.oneCell' = true := fun u hu => by
 simp [rcV] at hu
 rcases hu with rfl | rfl | rfl <;> rfl
theorem app_cell (W0 w : World) {ops : Array Oper} {rest : List Oper} {o : Oper} {a : Act} {Q : Exit → Act → World → Prop} (hgd : o.guard = none) (s x : Operand)
  (ho : o.op = .call { callee := .builtin .append, args := #[s, x], argTypes := #[23, 23] }) (B : Nat) (p : Option Addr) (n c : Nat) (cs : List Cel)
  (hs : a.eval s = .slice p n c) (hown : OwnC W0 B p n c cs) (hb0 : Below W0.heap.size W0 w) (hB : B ≤ W0.heap.size) (ad : Addr) (c' : Nat) (hx : a.eval x = .slice (some ad) 1 c') (kd nn : Int) (tp : Option Addr) (tn tc : Nat) (t : List Int)
  (ht : OwnT w W0.heap.size tp tn tc t) (hnews : ∀ j u, (rcV (kd, nn, tp, tn, tc))[j]? = some u → w.cell? (ad.add j) = some u) (hlen : n + 1 ≤ 1000000000)
  (h : ∀ g n' cap w', OwnC w' B (some ⟨g, 0, none⟩) n' cap (cs ++ [(kd, nn, t)]) → Below B w w' → Hid (n' = n + 1) → wpList Tryz.prog ops Q rest (a.put o.dst (.slice (some ⟨g, 0, none⟩) n' cap)) w') : wpList Tryz.prog ops Q (o :: rest) a w := by
 obtain ⟨i0, hi, hz0, hz1, hz2⟩ := info_parts infoCell; obtain ⟨hn, rs, hl, hr, hf, ha⟩ := hown; refine wpList_append_lies w hgd s x 23 ho B 63 i0 (.agg #[.int .i64 0, .int .i64 0, .slice none 0 0]) 3 40 Tryz.underlying23 hi hz0 hz1 hz2 rfl (by decide) (.slice p n c) n (flat rs) hs (row_below hr hb0) ad 1 c' (rcV (kd, nn, tp, tn, tc)) hx rfl hnews (rcV_one _) (by decide) (by unfold maxLen; omega) (by omega) (Nat.le_trans hB hb0.size) w.heap.size rfl ?_
 intro g cap w' hown' hgrow hat hlt
 refine h g _ cap w' (ownC_grew hn hl hr hf ha hb0 hB ht hown' hgrow hat) ((Below.refl _ _).grown hgrow (Nat.le_trans hB hb0.size) (fun k hk => ?_)) rfl; exact (hr.lt k hk).1
theorem step_app_cell (W0 w : World) {ops : Array Oper} {o : Oper} {a : Act} {K : Act → World → Prop} {Q : Exit → Act → World → Prop} {E : Prop} (hgd : o.guard = none) (s x : Operand)
  (ho : o.op = .call { callee := .builtin .append, args := #[s, x], argTypes := #[23, 23] }) (B : Nat) (p : Option Addr) (n c : Nat) (cs : List Cel)
  (hs : a.eval s = .slice p n c) (hown : OwnC W0 B p n c cs) (hb0 : Below W0.heap.size W0 w) (hB : B ≤ W0.heap.size) (ad : Addr) (c' : Nat) (hx : a.eval x = .slice (some ad) 1 c') (kd nn : Int) (tp : Option Addr) (tn tc : Nat) (t : List Int)
  (ht : OwnT w W0.heap.size tp tn tc t) (hnews : ∀ j u, (rcV (kd, nn, tp, tn, tc))[j]? = some u → w.cell? (ad.add j) = some u) (hlen : n + 1 ≤ 1000000000)
  (h : ∀ g n' cap w', OwnC w' B (some ⟨g, 0, none⟩) n' cap (cs ++ [(kd, nn, t)]) → Below B w w' → Hid (n' = n + 1) → K (a.put o.dst (.slice (some ⟨g, 0, none⟩) n' cap)) w') :
  if Region.wanted o (yielded ops a.tmps) = true then Oper.wp Tryz.prog o a w K Q else E := by
 obtain ⟨i0, hi, hz0, hz1, hz2⟩ := info_parts infoCell; obtain ⟨hn, rs, hl, hr, hf, ha⟩ := hown; refine step_append_lies w hgd s x 23 ho B 63 i0 (.agg #[.int .i64 0, .int .i64 0, .slice none 0 0]) 3 40 Tryz.underlying23 hi hz0 hz1 hz2 rfl (by decide) (.slice p n c) n (flat rs) hs (row_below hr hb0) ad 1 c' (rcV (kd, nn, tp, tn, tc)) hx rfl hnews (rcV_one _) (by decide) (by unfold maxLen; omega) (by omega) (Nat.le_trans hB hb0.size) w.heap.size rfl ?_
 intro g cap w' hown' hgrow hat hlt
 refine h g _ cap w' (ownC_grew hn hl hr hf ha hb0 hB ht hown' hgrow hat) ((Below.refl _ _).grown hgrow (Nat.le_trans hB hb0.size) (fun k hk => ?_)) rfl; exact (hr.lt k hk).1
def AppOut (w : World) (B : Nat) (cs ds : List Cel) (e : Ending) (w' : World) : Prop :=
 ∃ p n c, e = .returned (.slice p n c) ∧ OwnC w' B p n c (cs ++ ds) ∧ Below B w w'
theorem news_rc {w : World} {d : Nat} {r : RC} (h : Box3 w d (.int .i64 r.1) (.int .i64 r.2.1) (.slice r.2.2.1 r.2.2.2.1 r.2.2.2.2)) : ∀ j u, (rcV r)[j]? = some u → w.cell? ((⟨d, 0, none⟩ : Addr).add j) = some u := fun j u hu => by
 have e : (⟨d, 0, none⟩ : Addr).add j = ⟨d, j, none⟩ := by unfold Addr.add; split <;> simp_all
 rw [e]
 rcases j with _ | _ | _ | j
 ·simp only [rcV, List.getElem?_cons_zero, Option.some.injEq] at hu; rw [← hu]; exact h.1
 ·simp only [rcV, List.getElem?_cons_succ, List.getElem?_cons_zero, Option.some.injEq] at hu; rw [← hu]; exact h.2.1
 ·simp only [rcV, List.getElem?_cons_succ, List.getElem?_cons_zero, Option.some.injEq] at hu; rw [← hu]; exact h.2.2.1
 ·simp [rcV] at hu
theorem appVar_any (x : Int) (p : Option Addr) (n c : Nat) (cs : List Cel) (B : Nat) (w : World) (hB : B ≤ w.heap.size) (hn : n ≤ 100000000) (ho : OwnC w B p n c cs) :
  Calls Tryz.prog 449 #[.int .i64 x, .slice p n c] w (AppOut w B cs [(0, x, [])]) := by
 have HO : Hid (OwnC w B p n c cs) := ho; have hb : Below w.heap.size w (w.alloc (Obj.cells #[Value.int IntKind.i64 0, Value.int IntKind.i64 x, Value.slice none 0 0] 63)) := (Below.refl _ _).alloc (Nat.le_refl _) _; have HB : Hid _ := hb; have HX : Hid (Box3 (w.alloc (Obj.cells #[Value.int IntKind.i64 0, Value.int IntKind.i64 x, Value.slice none 0 0] 63)) w.heap.size (.int .i64 0) (.int .i64 x) (.slice none 0 0)) := Box3.of_block (t := 63) (heap_alloc_new _ _); clear ho hb
 go_enter Tryz.func449, Tryz.ntmps449
 go_wp2_with (at_builtin; refine app_cell w _ rfl _ _ rfl B p n c cs rfl HO.out HB.out hB ⟨w.heap.size, 0, none⟩ 1 rfl 0 x none 0 0 [] ⟨rfl, fun h => absurd h (Nat.lt_irrefl 0)⟩ (news_rc HX.out) (by omega) ?_; intro g n' cap w1 hown1 hb1 hn1); go_ret; exact ⟨_, _, _, rfl, hown1, ((Below.refl _ _).alloc hB _).trans hb1⟩
theorem appNum_any (x : Int) (p : Option Addr) (n c : Nat) (cs : List Cel) (B : Nat) (w : World) (hB : B ≤ w.heap.size) (hn : n ≤ 100000000) (ho : OwnC w B p n c cs) :
  Calls Tryz.prog 444 #[.int .i64 x, .slice p n c] w (AppOut w B cs [(1, x, [])]) := by
 have HO : Hid (OwnC w B p n c cs) := ho; have hb : Below w.heap.size w (w.alloc (Obj.cells #[Value.int IntKind.i64 1, Value.int IntKind.i64 x, Value.slice none 0 0] 63)) := (Below.refl _ _).alloc (Nat.le_refl _) _; have HB : Hid _ := hb; have HX : Hid (Box3 (w.alloc (Obj.cells #[Value.int IntKind.i64 1, Value.int IntKind.i64 x, Value.slice none 0 0] 63)) w.heap.size (.int .i64 1) (.int .i64 x) (.slice none 0 0)) := Box3.of_block (t := 63) (heap_alloc_new _ _); clear ho hb
 go_enter Tryz.func444, Tryz.ntmps444
 go_wp2_with (at_builtin; refine app_cell w _ rfl _ _ rfl B p n c cs rfl HO.out HB.out hB ⟨w.heap.size, 0, none⟩ 1 rfl 1 x none 0 0 [] ⟨rfl, fun h => absurd h (Nat.lt_irrefl 0)⟩ (news_rc HX.out) (by omega) ?_; intro g n' cap w1 hown1 hb1 hn1); go_ret; exact ⟨_, _, _, rfl, hown1, ((Below.refl _ _).alloc hB _).trans hb1⟩
theorem appAtom_any (xs : List Int) (hx : Byte xs) (p : Option Addr) (n c : Nat) (cs : List Cel) (B : Nat) (w : World) (hB : B ≤ w.heap.size) (hn : n ≤ 100000000) (ho : OwnC w B p n c cs) :
  Calls Tryz.prog 453 #[.string (strOfNums xs), .slice p n c] w (AppOut w B cs [(2, 0, xs)]) := by
 have HO : Hid (OwnC w B p n c cs) := ho; obtain ⟨w1, cap1, hcv, hb1, ht⟩ := conv_bytes w xs hx 160 Tryz.underlying160
 obtain ⟨m, em⟩ : ∃ m, m = xs.length := ⟨_, rfl⟩
 obtain ⟨str, es⟩ : ∃ str, str = strOfNums xs := ⟨_, rfl⟩
 rw [← em] at hcv ht; rw [← es] at hcv ⊢; have hs1 := hb1.size; have hb : Below w1.heap.size w1 (w1.alloc (Obj.cells #[Value.int IntKind.i64 2, Value.int IntKind.i64 0, Value.slice (some ⟨w.heap.size, 0, none⟩) m cap1] 63)) := (Below.refl _ _).alloc (Nat.le_refl _) _; have HB : Hid (Below w.heap.size w (w1.alloc (Obj.cells #[Value.int IntKind.i64 2, Value.int IntKind.i64 0, Value.slice (some ⟨w.heap.size, 0, none⟩) m cap1] 63))) := Below.on hb1 hb; have HT : Hid (OwnT (w1.alloc (Obj.cells #[Value.int IntKind.i64 2, Value.int IntKind.i64 0, Value.slice (some ⟨w.heap.size, 0, none⟩) m cap1] 63)) w.heap.size (some ⟨w.heap.size, 0, none⟩) m cap1 xs) := ht.below hb; have HX : Hid (Box3 (w1.alloc (Obj.cells #[Value.int IntKind.i64 2, Value.int IntKind.i64 0, Value.slice (some ⟨w.heap.size, 0, none⟩) m cap1] 63)) w1.heap.size (.int .i64 2) (.int .i64 0) (.slice (some ⟨w.heap.size, 0, none⟩) m cap1)) := Box3.of_block (t := 63) (heap_alloc_new _ _)
 have HS : Hid (Below B w (w1.alloc (Obj.cells #[Value.int IntKind.i64 2, Value.int IntKind.i64 0, Value.slice (some ⟨w.heap.size, 0, none⟩) m cap1] 63))) := HB.out.mono hB; clear ho hb hb1 ht em es hx
 go_enter Tryz.func453, Tryz.ntmps453
 go_wp2_with (at_builtin; refine app_cell w _ rfl _ _ rfl B p n c cs rfl HO.out HB.out hB ⟨w1.heap.size, 0, none⟩ 1 rfl 2 0 (some ⟨w.heap.size, 0, none⟩) m cap1 xs HT.out (news_rc HX.out) (by omega) ?_; intro g n' cap w2 hown1 hb2 hn1); go_ret; exact ⟨_, _, _, rfl, hown1, HS.out.trans hb2⟩
def CompAt (w : World) (B : Nat) (s : List Int) (k : Fo) (b g : Nat) (vs : List Value) : Prop :=
 B ≤ b ∧ B ≤ g ∧ w.cell? ⟨b, 0, none⟩ = some (.string (strOfNums s)) ∧ w.cell? ⟨b, 1, none⟩ = some (.slice (some ⟨g, 0, none⟩) vs.length vs.length) ∧ g < w.heap.size ∧ (∀ i, i < vs.length → w.cell? ⟨g, i, none⟩ = some (vs.getD i .nilIface)) ∧ FoIn w B k vs
set_option maxHeartbeats 2000000 in
theorem appComp_any : ∀ (N : Nat) (s : List Int) (k : Fo) (b g : Nat) (vs : List Value) (p : Option Addr) (n cp : Nat) (cs : List Cel) (Bt B : Nat) (w0 w : World), k.cells.length ≤ N → k.ok → Byte s → CompAt w0 Bt s k b g vs → Below w0.heap.size w0 w → w0.heap.size ≤ B → B ≤ w.heap.size →
  OwnC w B p n cp cs → n + 1 + k.cells.length ≤ 1000000 → Calls Tryz.prog 455 #[.pointer (some ⟨b, 0, none⟩), .slice p n cp] w (AppOut w B cs ((3, k.count, s) :: k.cells)) := by
 intro N
 induction N using Nat.strongRecOn with
 | _ N ih =>
   intro s k b g vs p n cp cs Bt B w0 w hN hok hs hcomp hw hB0 hB ho hn
   have HO : Hid (OwnC w B p n cp cs) := ho; have HC : Hid (CompAt w0 Bt s k b g vs) := hcomp; have HW : Hid (Below w0.heap.size w0 w) := hw; obtain ⟨w1, cap1, hcv, hb1, ht⟩ := conv_bytes w.drew s hs 9 Tryz.underlying9; have hvl : vs.length = k.count := FoIn.count _ _ hcomp.2.2.2.2.2.2; have c0 := (hw.cell (World.block_lt_of_cell? _ _ hcomp.2.2.1)).trans hcomp.2.2.1; have c1 := (hw.cell (World.block_lt_of_cell? _ _ hcomp.2.2.2.1)).trans hcomp.2.2.2.1; have hw1 : Below w.heap.size w w1 := (Below.refl _ _).drew.trans hb1; have d0 := (hw1.cell (World.block_lt_of_cell? _ _ c0)).trans c0; have d1 := (hw1.cell (World.block_lt_of_cell? _ _ c1)).trans c1
   obtain ⟨m, em⟩ : ∃ m, m = s.length := ⟨_, rfl⟩
   obtain ⟨str, es⟩ : ∃ str, str = strOfNums s := ⟨_, rfl⟩
   obtain ⟨q, eq⟩ : ∃ q, q = vs.length := ⟨_, rfl⟩
   rw [← em] at hcv ht; rw [← es] at hcv c0 d0; rw [← eq] at c1 d1; have hs1 := hb1.size; have hcv' : (convert 9 22 (.string str)).run Tryz.prog w.drew = .ok (.slice (some ⟨w.heap.size, 0, none⟩) m cap1) w1 := hcv; have ht' : OwnT w1 w.heap.size (some ⟨w.heap.size, 0, none⟩) m cap1 s := ht; have hb : Below w1.heap.size w1 (w1.alloc (Obj.cells #[Value.int IntKind.i64 3, Value.int IntKind.i64 q, Value.slice (some ⟨w.heap.size, 0, none⟩) m cap1] 63)) := (Below.refl _ _).alloc (Nat.le_refl _) _; have HB : Hid (Below w.heap.size w (w1.alloc (Obj.cells #[Value.int IntKind.i64 3, Value.int IntKind.i64 q, Value.slice (some ⟨w.heap.size, 0, none⟩) m cap1] 63))) := Below.on hw1 hb; have HT : Hid (OwnT (w1.alloc (Obj.cells #[Value.int IntKind.i64 3, Value.int IntKind.i64 q, Value.slice (some ⟨w.heap.size, 0, none⟩) m cap1] 63)) w.heap.size (some ⟨w.heap.size, 0, none⟩) m cap1 s) := ht'.below hb
   have HX : Hid (Box3 (w1.alloc (Obj.cells #[Value.int IntKind.i64 3, Value.int IntKind.i64 q, Value.slice (some ⟨w.heap.size, 0, none⟩) m cap1] 63)) w1.heap.size (.int .i64 3) (.int .i64 q) (.slice (some ⟨w.heap.size, 0, none⟩) m cap1)) := Box3.of_block (t := 63) (heap_alloc_new _ _); have HIH : Hid _ := ih
   have HE : Hid (q = vs.length ∧ vs.length = k.count) := ⟨eq, hvl⟩
   have hq : q ≤ 1000000 := by have := Fo.count_le k; omega
   clear ih ho hcomp hw em es eq hvl hb1 ht ht' hcv hb hw1
   go_enter Tryz.func455, Tryz.ntmps455
   go_upto_region 1 with fail
   go_cut [1] from 7 (fun v wc => ∃ g2 n2 c2, v = .slice (some ⟨g2, 0, none⟩) n2 c2 ∧ Hid (OwnC wc B (some ⟨g2, 0, none⟩) n2 c2 (cs ++ [((3, (q : Int), s) : Cel)])) ∧ Hid (Below B w wc) ∧ n2 = n + 1)
   case first =>
    go_region_law (refine step_app_cell w _ rfl _ _ rfl B p n cp cs rfl HO.out HB.out hB ⟨w1.heap.size, 0, none⟩ 1 rfl 3 q (some ⟨w.heap.size, 0, none⟩) m cap1 s HT.out (news_rc HX.out) (by omega) ?_; intro g1 n1 cap2 w2 hown1 hb2 hn1)
    all_goals go_wp2_with fail
    all_goals go_meet
    all_goals exact ⟨g1, n1, cap2, rfl, hown1, (HB.out.mono hB).trans hb2, hn1⟩
   case rest =>
    obtain ⟨g2, n2, c2, rfl, HO2, HB2, hn2⟩ := hcut; have e1 : wc.cell? ⟨b, 1, none⟩ = some (.slice (some ⟨g, 0, none⟩) q q) := (HB2.out.cell (p := ⟨b, 1, none⟩) (by have := World.block_lt_of_cell? _ _ HC.out.2.2.2.1; show b < B; simp at this; omega)).trans c1; clear c0 c1 d0 d1 hcv' HO HB HT HX; go_wp2_with fail
    go_loopw [1, 26] (fun v i wr => ∃ (D R : Fo) (us vs2 : List Value) (j : Nat) (p4 : Option Addr) (n4 c4 : Nat), j ≤ q ∧ n4 ≤ 1000000 ∧ i = .int .i64 j ∧ v = .slice p4 n4 c4 ∧ Hid (k = D.cat R ∧ vs = us ++ vs2 ∧ us.length = j ∧ n4 = n + 1 + D.cells.length) ∧ Hid (FoIn w0 Bt R vs2) ∧
     Hid (OwnC wr B p4 n4 c4 (cs ++ ((3, (q : Int), s) : Cel) :: D.cells)) ∧ Hid (Below B w wr)) (fun _ i _ => q - (intOf i).toNat)
    case atStart => exact ⟨.nil, k, [], vs, 0, _, _, _, Nat.zero_le _, by omega, rfl, rfl, ⟨rfl, rfl, rfl, by simp [Fo.cells, hn2]⟩, HC.out.2.2.2.2.2.2, HO2, HB2⟩
    case round =>
     obtain ⟨D, R, us, vs2, j, p4, n4, c4, hj, hn4, rfl, rfl, HF, HR, HO4, HB4⟩ := hrel
     by_cases hlt : j < q
     ·obtain ⟨c', k', r', rfl⟩ : ∃ c' k' r', R = .node c' k' r' := by
       cases R with
       | nil =>
         have h1 := HF.out; have h2 : vs2 = [] := HR.out; have h3 := HE.out.1; rw [h1.2.1, h2, List.append_nil] at h3
         omega
       | node c' k' r' => exact ⟨c', k', r', rfl⟩
      obtain ⟨v, vr, rfl, hnode, hrest⟩ := HR.out; have hok2 := (Fo.ok_cat D (.node c' k' r')).1 (HF.out.1 ▸ hok)
      have hlen : D.cells.length + (k'.cells.length + r'.cells.length + 1) = k.cells.length := by
       rw [HF.out.1, Fo.cells_cat]; simp [Fo.cells]
      have hat : w0.cell? ⟨g, j, none⟩ = some v := by
       rw [HC.out.2.2.2.2.2.1 j (by rw [← HE.out.1]; exact hlt), HF.out.2.1]
       simp [List.getD, HF.out.2.2.1]
      have hwr : Below w0.heap.size w0 wr := HW.out.trans (HB4.out.mono hB0); have c5 : wr.cell? ⟨g, j, none⟩ = some v := (hwr.cell (World.block_lt_of_cell? _ _ hat)).trans hat
      have next : ∀ p3 n3 c3 w3, OwnC w3 B p3 n3 c3 ((cs ++ ((3, (q : Int), s) : Cel) :: D.cells) ++ (c' :: k'.cells)) → Below B wr w3 →
        ∃ (D R : Fo) (us vs2 : List Value) (j' : Nat) (p4 : Option Addr) (n4 c4 : Nat), j' ≤ q ∧ n4 ≤ 1000000 ∧ Value.int .i64 ((j : Int) + 1) = .int .i64 j' ∧ Value.slice p3 n3 c3 = .slice p4 n4 c4 ∧ Hid (k = D.cat R ∧ vs = us ++ vs2 ∧ us.length = j' ∧ n4 = n + 1 + D.cells.length) ∧ Hid (FoIn w0 Bt R vs2) ∧
          Hid (OwnC w3 B p4 n4 c4 (cs ++ ((3, (q : Int), s) : Cel) :: D.cells)) ∧ Hid (Below B w w3) := fun p3 n3 c3 w3 h1 h2 => by
       have e3 := h1.1; have e4 := HO4.out.1; have e5 := HF.out.2.2.2; simp only [List.length_append, List.length_cons] at e3 e4; refine ⟨D.cat (.node c' k' .nil), r', us ++ [v], vr, j + 1, p3, n3, c3, by omega, by omega, by go_num, rfl, ⟨by rw [Fo.cat_assoc]; exact HF.out.1, by rw [HF.out.2.1]; simp, by simp [HF.out.2.2.1], ?_⟩, hrest, ?_, HB4.out.trans h2⟩
       ·rw [Fo.cells_cat]; simp [Fo.cells]; omega
       ·show OwnC _ _ _ _ _ _
        rw [Fo.cells_cat]; simpa [Fo.cells] using h1
      have NEXT : Hid _ := next
      clear next
      have hB4 : B ≤ wr.heap.size := Nat.le_trans hB HB4.out.size
      rcases hnode with ⟨h0, rfl⟩ | ⟨h0, rfl⟩ | ⟨h0, rfl⟩ | ⟨h0, b5, g5, kv, rfl, h5⟩
      ·have hk' : k' = .nil := hok2.2.2.2.2.1 (by rw [h0]; decide)
       have hcl := hok2.2.1; obtain ⟨c0, c1, c2'⟩ := c'; simp only at h0 hcl; subst h0 hk'
       have e : c2' = [] := by simp [cellB] at hcl; exact hcl.2.2
       subst e; have HS := appVar_any c1 p4 n4 c4 _ B wr hB4 (by omega) HO4.out; clear hok2 hlen hat hcl hrest hwr HO4 HR HIH; go_wp2_with fail; refine HS.mono ?_; rintro e w3 ⟨p3, n3, c3, rfl, hown3, hb3⟩; go_wp2_with fail; go_roundw
       case rel => exact NEXT.out p3 n3 c3 w3 hown3 hb3
       case measure => simp [intOf]; omega
      ·have hk' : k' = .nil := hok2.2.2.2.2.1 (by rw [h0]; decide)
       have hcl := hok2.2.1; obtain ⟨c0, c1, c2'⟩ := c'; simp only at h0 hcl; subst h0 hk'
       have e : c2' = [] := by simp [cellB] at hcl; exact hcl.2.2
       subst e; have HS := appNum_any c1 p4 n4 c4 _ B wr hB4 (by omega) HO4.out; clear hok2 hlen hat hcl hrest hwr HO4 HR HIH; go_wp2_with fail; refine HS.mono ?_; rintro e w3 ⟨p3, n3, c3, rfl, hown3, hb3⟩; go_wp2_with fail; go_roundw
       case rel => exact NEXT.out p3 n3 c3 w3 hown3 hb3
       case measure => simp [intOf]; omega
      ·have hk' : k' = .nil := hok2.2.2.2.2.1 (by rw [h0]; decide)
       have hcl := hok2.2.1; have hby := hok2.2.2.1; obtain ⟨c0, c1, c2'⟩ := c'; simp only at h0 hcl hby c5; subst h0 hk'
       have e : c1 = 0 := by simp [cellB] at hcl; exact hcl.2
       subst e; have HS := appAtom_any c2' hby p4 n4 c4 _ B wr hB4 (by omega) HO4.out
       obtain ⟨st, est⟩ : ∃ st, st = strOfNums c2' := ⟨_, rfl⟩
       rw [← est] at HS c5; clear hok2 hlen hat hcl hrest hwr HO4 HR HIH hby est; go_wp2_with fail; refine HS.mono ?_; rintro e w3 ⟨p3, n3, c3, rfl, hown3, hb3⟩; go_wp2_with fail; go_roundw
       case rel => exact NEXT.out p3 n3 c3 w3 hown3 hb3
       case measure => simp [intOf]; omega
      ·have hcl := hok2.2.1
       have hby := hok2.2.2.1; have hcn := hok2.2.2.2.1 h0; obtain ⟨c0, c1, c2'⟩ := c'; simp only at h0 hcl hby hcn h5; subst h0 hcn; have HS := HIH.out k'.cells.length (by omega) c2' k' b5 g5 kv p4 n4 c4 _ Bt B w0 wr (Nat.le_refl _) hok2.2.2.2.2.2.1 hby h5 hwr hB0 hB4 HO4.out (by have := HF.out.2.2.2; omega); clear hok2 hlen hat hcl hrest hwr HO4 HR HIH hby h5; go_wp2_with fail; refine HS.mono ?_; rintro e w3 ⟨p3, n3, c3, rfl, hown3, hb3⟩; go_wp2_with fail; go_roundw
       case rel => exact NEXT.out p3 n3 c3 w3 hown3 hb3
       case measure => simp [intOf]; omega
     ·obtain rfl : j = q := by omega
      obtain rfl : R = .nil := by
       have h1 := FoIn.count _ _ HR.out; have h2 := HE.out; rw [HF.out.2.1, List.length_append] at h2; have h3 := HF.out.2.2.1
       cases R with
       | nil => rfl
       | node a b d => simp [Fo.count] at h1; omega
      have HF' : Hid (D = k) := by have := HF.out.1; rw [Fo.cat_nil] at this; exact this.symm
      go_wp2_with fail; go_ret; refine ⟨_, _, _, rfl, ?_, HB4.out⟩; have h1 := HO4.out; rw [HF'.out, HE.out.1, HE.out.2] at h1; exact h1
theorem tree_of {cs : List Cel} (hb : ∀ i, i < cs.length → Byte (cs.getD i Cel.none).2.2) (hv : validB cs = true) : ∃ c k, cs = c :: k.cells ∧ (Fo.node c k .nil).ok ∧ cs.length ≤ 2000 := by
 simp only [validB, Bool.and_eq_true, decide_eq_true_eq] at hv; obtain ⟨F, h1, h2, h3⟩ := forest_of cs 1 hb hv.2
 cases F with
 | nil => simp [Fo.count] at h1
 | node c k r =>
   cases r with
   | nil => exact ⟨c, k, by rw [← h2]; simp [Fo.cells], h3, hv.1⟩
   | node a b d => simp [Fo.count] at h1
theorem termOf_any (c : Cel) (k : Fo) (p : Option Addr) (n cap : Nat) (w : World) (hok : (Fo.node c k .nil).ok) (hn : n = k.cells.length + 1) (hc : n ≤ cap) (hm : cap ≤ 9223372036854775807) (hin : CIn w p (c :: k.cells)) :
  Calls Tryz.prog 23 #[.slice p n cap] w fun e w' => ∃ v, e = .returned v ∧ FoIn w' w.heap.size (.node c k .nil) [v] ∧ Below w.heap.size w w' := by
 have HF : Calls Tryz.prog 55 #[.slice p n cap] w (FirstOut w w c k [] cap) := firstTerm_any k.cells.length c k p n cap [] w w (Below.refl _ _) (Nat.le_refl _) hok (by rw [hn]; rfl) hc hm (by rw [List.append_nil]; exact hin); clear hok hin hn
 go_enter Tryz.func23, Tryz.ntmps23
 go_wp2_with fail; refine HF.mono ?_; rintro e w1 ⟨v, q, l, cp, rfl, _, _, _, hfo, hb⟩; obtain ⟨vt, vx, rfl⟩ := hfo.iface; have HFO : Hid (FoIn w1 w.heap.size (.node c k .nil) [.iface vt vx]) := hfo; have HB : Hid (Below w.heap.size w w1) := hb; clear hfo hb HF; go_wp2_with fail; go_ret; exact ⟨_, rfl, HFO.out, HB.out⟩
theorem comp_in {w : World} {B b g : Nat} {nm : List Int} {n : Int} {k : Fo} {vs : List Value} (hb : B ≤ b) (hg : B ≤ g) (h0 : w.cell? ⟨b, 0, none⟩ = some (.string (strOfNums nm))) (h1 : w.cell? ⟨b, 1, none⟩ = some (.slice (some ⟨g, 0, none⟩) vs.length vs.length))
  (hgl : g < w.heap.size) (hr : ∀ i, i < vs.length → w.cell? ⟨g, i, none⟩ = some (vs.getD i .nilIface)) (hk : FoIn w B k vs) : FoIn w B (.node (3, n, nm) k .nil) [.iface 163 (.pointer (some ⟨b, 0, none⟩))] :=
 ⟨_, [], rfl, .inr (.inr (.inr ⟨rfl, b, g, vs, rfl, hb, hg, h0, h1, hgl, hr, hk⟩)), rfl⟩
theorem atom_in {w : World} {B : Nat} {s : List Int} {n : Int} {r : Fo} {vs : List Value} (h : FoIn w B r vs) : FoIn w B (.node (2, n, s) .nil r) (.iface 160 (.string (strOfNums s)) :: vs) := ⟨_, vs, rfl, .inr (.inr (.inl ⟨rfl, rfl⟩)), h⟩
theorem num_in {w : World} {B : Nat} {n : Int} {r : Fo} {vs : List Value} (h : FoIn w B r vs) : FoIn w B (.node (1, n, []) .nil r) (.iface 48 (.int .i64 n) :: vs) := ⟨_, vs, rfl, .inr (.inl ⟨rfl, rfl⟩), h⟩
def ErrOut (w : World) (B : Nat) (t : Tr) (e : Ending) (w' : World) : Prop := ∃ tv, e = .returned (.agg #[tv]) ∧ FoIn w' B t.fo [tv] ∧ Below w.heap.size w w'
theorem evaluationError_any (s : List Int) (w : World) : Calls Tryz.prog 214 #[.string (strOfNums s)] w (ErrOut w w.heap.size (evalT s)) := by
 go_enter Tryz.func214, Tryz.ntmps214
 go_wp2_with fail; obtain ⟨hlow, h0, h1, h2⟩ := lay3 w (.cells #[.iface 163 (.pointer (some ⟨w.heap.size + 1 + 1, 0, none⟩))] 57) (.cells #[.iface 160 (.string (strOfNums s))] 54) (.cells #[.string ⟨#[101, 118, 97, 108, 117, 97, 116, 105, 111, 110, 95, 101, 114, 114, 111, 114]⟩, .slice (some ⟨w.heap.size + 1, 0, none⟩) 1 1] 167) _ rfl; have r0 := cell_of_row _ _ 0 _ _ _ h0; refine bodyPost_ret (v := .agg #[.iface 163 (.pointer (some ⟨w.heap.size + 1 + 1, 0, none⟩))]) (by simp [results, Tryz.results214, go_sem, r0]) rfl ⟨_, rfl, ?_, hlow⟩; refine comp_in (g := w.heap.size + 1) (vs := [.iface 160 (.string (strOfNums s))]) (by omega) (by omega) (cell_of_row _ _ 0 _ _ _ h2) (cell_of_row _ _ 1 _ _ _ h2) (by simp) (fun i hi => ?_) (atom_in rfl)
 obtain rfl : i = 0 := by simp at hi; omega
 exact cell_of_row _ _ 0 _ _ _ h1
theorem typeError_any (s : List Int) (t : Tr) (v : Value) (B : Nat) (w : World) (hB : B ≤ w.heap.size) (ht : FoIn w B t.fo [v]) : Calls Tryz.prog 175 #[.string (strOfNums s), v] w (ErrOut w B (typeT s t)) := by
 obtain ⟨vt, vx, rfl⟩ := FoIn.iface (c := t.1) (k := t.2) (r := .nil) ht
 go_enter Tryz.func175, Tryz.ntmps175
 go_wp2_with fail; obtain ⟨hlow, h0, h1, h2⟩ := lay3 w (.cells #[.iface 163 (.pointer (some ⟨w.heap.size + 1 + 1, 0, none⟩))] 57) (.cells #[.iface 160 (.string (strOfNums s)), .iface vt vx] 54) (.cells #[.string ⟨#[116, 121, 112, 101, 95, 101, 114, 114, 111, 114]⟩, .slice (some ⟨w.heap.size + 1, 0, none⟩) 2 2] 167) _ rfl; have r0 := cell_of_row _ _ 0 _ _ _ h0; refine bodyPost_ret (v := .agg #[.iface 163 (.pointer (some ⟨w.heap.size + 1 + 1, 0, none⟩))]) (by simp [results, Tryz.results175, go_sem, r0]) rfl ⟨_, rfl, ?_, hlow⟩; refine comp_in (g := w.heap.size + 1) (vs := [.iface 160 (.string (strOfNums s)), .iface vt vx]) (by omega) (by omega) (cell_of_row _ _ 0 _ _ _ h2) (cell_of_row _ _ 1 _ _ _ h2) (by simp) (fun i hi => ?_) (atom_in (ht.below hlow))
 rcases (by simp at hi; omega : i = 0 ∨ i = 1) with rfl | rfl
 ·exact cell_of_row _ _ 0 _ _ _ h1
 ·exact cell_of_row _ _ 1 _ _ _ h1
theorem instError_any (w : World) : Calls Tryz.prog 154 #[] w (ErrOut w w.heap.size instT) := by
 go_enter Tryz.func154, Tryz.ntmps154
 go_wp2_with fail; have h0 := heap_alloc_new w (Obj.cells #[Value.iface 160 (Value.string ⟨#[105, 110, 115, 116, 97, 110, 116, 105, 97, 116, 105, 111, 110, 95, 101, 114, 114, 111, 114]⟩)] 57); have r0 := cell_of_row _ _ 0 _ _ _ h0; exact bodyPost_ret (v := .agg #[.iface 160 (.string ⟨#[105, 110, 115, 116, 97, 110, 116, 105, 97, 116, 105, 111, 110, 95, 101, 114, 114, 111, 114]⟩)]) (by simp [results, Tryz.results154, go_sem, r0]) rfl ⟨_, rfl, atom_in (n := 0) (s := sInst) rfl, (Below.refl _ _).alloc (Nat.le_refl _) _⟩
theorem cell_new (w : World) (v : Value) (t : TypeId) : (w.alloc (.cells #[v] t)).cell? ⟨w.heap.size, 0, none⟩ = some v ∧ (w.alloc (.cells #[v] t)).frozen? ⟨w.heap.size, 0, none⟩ = false := by
 have h := heap_alloc_new w (.cells #[v] t); exact ⟨cell_of_row _ _ 0 _ _ _ h, frozen_of_row _ _ _ _ _ h⟩
theorem err_back {w w1 : World} {t : Tr} {tv : Value} {B : Nat} {ty : TypeId} (hfo : FoIn w1 B t.fo [tv]) (hB : w.heap.size < B) (hb : Below (w.alloc (.cells #[.nilIface] ty)).heap.size (w.alloc (.cells #[.nilIface] ty)) w1) :
  w1.cell? ⟨w.heap.size, 0, none⟩ = some .nilIface ∧ w1.frozen? ⟨w.heap.size, 0, none⟩ = false ∧ (w1.setCell ⟨w.heap.size, 0, none⟩ tv).cell? ⟨w.heap.size, 0, none⟩ = some tv ∧ FoIn (w1.setCell ⟨w.heap.size, 0, none⟩ tv) w.heap.size t.fo [tv] ∧ Below w.heap.size w (w1.setCell ⟨w.heap.size, 0, none⟩ tv) := by
 obtain ⟨c0, f0⟩ := cell_new w .nilIface ty; have k0 := (hb.cell (p := ⟨w.heap.size, 0, none⟩) (by simp)).trans c0; have k1 := (hb.frozen (p := ⟨w.heap.size, 0, none⟩) (by simp)).trans f0; refine ⟨k0, k1, World.cell?_setCell_same' _ _ _ (by rw [k0]; rfl), (hfo.setCell (a := ⟨w.heap.size, 0, none⟩) hB _).mono (by omega), ?_⟩; have h1 : Below w.heap.size w w1 := Below.on ((Below.refl _ _).alloc (Nat.le_refl _) _) hb; exact ⟨h1.os, h1.tape, h1.output, by have := h1.size; simp; omega, fun k hk => (heap_setCell_other _ ⟨w.heap.size, 0, none⟩ k _ (fun e => by simp at e; omega)).trans (h1.block k hk)⟩
theorem intOverflow_any (w : World) : Calls Tryz.prog 212 #[] w (ErrOut w w.heap.size ovfT) := by
 have HE := evaluationError_any sOvf (w.alloc (.cells #[.nilIface] 57))
 go_enter Tryz.func212, Tryz.ntmps212
 go_wp2_with fail; refine HE.mono ?_; rintro e w1 ⟨tv, rfl, hfo, hb⟩; obtain ⟨c0, f0, c1, hf, hl⟩ := err_back hfo (by simp) hb; obtain ⟨vt, vx, rfl⟩ := FoIn.iface (c := ovfT.1) (k := ovfT.2) (r := .nil) hfo; have HF : Hid _ := hf; have HL : Hid _ := hl; clear hfo hb HE hf hl; go_wp2_with fail; exact bodyPost_ret (v := .agg #[.iface vt vx]) (by simp [results, Tryz.results212, go_sem, c1]) rfl ⟨_, rfl, HF.out, HL.out⟩
theorem indicator_any (s : List Int) (n : Int) (w : World) : Calls Tryz.prog 205 #[.agg #[.string (strOfNums s), .int .i64 n]] w fun e w' => ∃ tv, e = .returned tv ∧ FoIn w' w.heap.size (indT s n).fo [tv] ∧ Below w.heap.size w w' := by
 go_enter Tryz.func205, Tryz.ntmps205
 go_wp2_with fail; obtain ⟨hlow, h0, h1, h2⟩ := lay3 w (.cells #[.string (strOfNums s), .int .i64 n] 76) (.cells #[.iface 160 (.string (strOfNums s)), .iface 48 (.int .i64 n)] 54) (.cells #[.string ⟨#[47]⟩, .slice (some ⟨w.heap.size + 1, 0, none⟩) 2 2] 167) _ rfl
 have HF : Hid _ := comp_in (w := ((w.alloc (.cells #[.string (strOfNums s), .int .i64 n] 76)).alloc (.cells #[.iface 160 (.string (strOfNums s)), .iface 48 (.int .i64 n)] 54)).alloc (.cells #[.string ⟨#[47]⟩, .slice (some ⟨w.heap.size + 1, 0, none⟩) 2 2] 167)) (B := w.heap.size) (b := w.heap.size + 1 + 1) (g := w.heap.size + 1) (nm := [47]) (n := 2) (k := .node (2, 0, s) .nil (.node (1, n, []) .nil .nil)) (vs := [.iface 160 (.string (strOfNums s)), .iface 48 (.int .i64 n)]) (by omega) (by omega) (cell_of_row _ _ 0 _ _ _ h2) (cell_of_row _ _ 1 _ _ _ h2) (by simp) (fun i hi => by
  rcases (by simp at hi; omega : i = 0 ∨ i = 1) with rfl | rfl
  ·exact cell_of_row _ _ 0 _ _ _ h1
  ·exact cell_of_row _ _ 1 _ _ _ h1) (atom_in (num_in rfl))
 have HL : Hid _ := hlow; clear h0 h1 h2 hlow; go_ret; exact ⟨_, rfl, HF.out, HL.out⟩
theorem notEvaluable_any (s : List Int) (n : Int) (w : World) : Calls Tryz.prog 151 #[.agg #[.string (strOfNums s), .int .i64 n]] w (ErrOut w w.heap.size (evbT s n)) := by
 obtain ⟨w0, ew0⟩ : ∃ w0, w0 = w.alloc (.cells #[.string (strOfNums s), .int .i64 n] 76) := ⟨_, rfl⟩
 have hb0 : Below w.heap.size w w0 := by rw [ew0]; exact (Below.refl _ _).alloc (Nat.le_refl _) _
 have hs0 : w0.heap.size = w.heap.size + 1 := by rw [ew0]; simp
 have HI := indicator_any s n (w0.alloc (.cells #[.nilIface] 57)); have HB0 : Hid _ := hb0; have HS0 : Hid (w0.heap.size = w.heap.size + 1) := hs0; rw [ew0] at HI
 go_enter Tryz.func151, Tryz.ntmps151
 clear hb0 hs0; go_wp2_with fail; refine HI.mono ?_; rw [← ew0]; rintro e w1 ⟨tv, rfl, hfo, hb⟩; obtain ⟨vt, vx, rfl⟩ := FoIn.iface (c := (indT s n).1) (k := (indT s n).2) (r := .nil) hfo; have HB1 : Hid _ := hb; have HT := typeError_any sEvb (indT s n) (.iface vt vx) (w0.alloc (.cells #[.nilIface] 57)).heap.size w1 hb.size hfo; clear hfo hb HI; go_wp2_with fail; refine HT.mono ?_; rintro e w2 ⟨tv, rfl, hfo, hb⟩; obtain ⟨c0, f0, c1, hf, hl⟩ := err_back (w := w0) hfo (by simp) (HB1.out.trans (hb.mono HB1.out.size)); obtain ⟨ut, ux, rfl⟩ := FoIn.iface (c := (evbT s n).1) (k := (evbT s n).2) (r := .nil) hfo; rw [HS0.out] at c0 f0 c1 hf hl; have HF : Hid _ := hf.mono (by omega : w.heap.size ≤ w.heap.size + 1); have HL : Hid (Below w.heap.size w _) := HB0.out.trans (hl.mono (by omega)); clear hfo hb HT hf hl; go_wp2_with fail; exact bodyPost_ret (v := .agg #[.iface ut ux]) (by simp [results, Tryz.results151, go_sem, c1]) rfl ⟨_, rfl, HF.out, HL.out⟩
end Go.Proofs.YtkklidpnkofipaaGreatDoor
