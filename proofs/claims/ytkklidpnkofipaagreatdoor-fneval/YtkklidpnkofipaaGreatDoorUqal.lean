/- Texts of EvV1, EvQ, EvV2. Own work of the verifier. -/
import Derived.Test.YtkklidpnkofipaaGreatDoorUqak
import Derived.Test.YtkklidpnkofipaaGreatDoorUqag
namespace Go.Proofs.YtkklidpnkofipaaGreatDoor
set_option linter.unusedVariables false
set_option maxRecDepth 100000
section
open Go Go.RowKit
def EvOut (w : World) (r : ER) (e : Ending) (w' : World) : Prop := (match r with
 | .ok v => e = .returned (.tuple #[.int .i64 v, .nilIface])
 | .error t => ∃ tv, FoIn w' w.heap.size t.fo [tv] ∧ (e = .returned (.tuple #[.int .i64 0, .iface 57 (.agg #[tv])]) ∨ e = .panicked [{ v := .iface 57 (.agg #[tv]), recovered := false }])) ∧ Below w.heap.size w w'
theorem evOut_of {w w' : World} {r r' : ER} {e : Ending} (h : EvOut w r e w') (er : r' = r) : EvOut w r' e w' := er ▸ h
theorem EvOut.mono {w0 w w' : World} {r : ER} {e : Ending} (h : EvOut w r e w') (hb : Below w0.heap.size w0 w) : EvOut w0 r e w' := by
 refine ⟨?_, Below.on hb h.2⟩
 cases r with
 | ok v => exact h.1
 | error t =>
   obtain ⟨tv, h1, h2⟩ := h.1; exact ⟨tv, h1.mono hb.size, h2⟩
theorem as_num_num (w : World) (x : Value) : (Instr.typeAssert (.iface 48 x) 54 48 true).run Tryz.prog w = .ok (.tuple #[x, .bool true]) w := by kernel_rfl
theorem as_atom_num (w : World) (x : Value) : (Instr.typeAssert (.iface 160 x) 54 48 true).run Tryz.prog w = .ok (.tuple #[.int .i64 0, .bool false]) w := by kernel_rfl
theorem as_atom_atom (w : World) (x : Value) : (Instr.typeAssert (.iface 160 x) 54 160 true).run Tryz.prog w = .ok (.tuple #[x, .bool true]) w := by kernel_rfl
theorem as_comp_num (w : World) (x : Value) : (Instr.typeAssert (.iface 163 x) 54 48 true).run Tryz.prog w = .ok (.tuple #[.int .i64 0, .bool false]) w := by kernel_rfl
theorem as_comp_atom (w : World) (x : Value) : (Instr.typeAssert (.iface 163 x) 54 160 true).run Tryz.prog w = .ok (.tuple #[.string ⟨#[]⟩, .bool false]) w := by kernel_rfl
theorem as_comp_comp (w : World) (x : Value) : (Instr.typeAssert (.iface 163 x) 54 163 true).run Tryz.prog w = .ok (.tuple #[x, .bool true]) w := by kernel_rfl
theorem as_var_num (w : World) (x : Value) : (Instr.typeAssert (.iface 80 x) 54 48 true).run Tryz.prog w = .ok (.tuple #[.int .i64 0, .bool false]) w := by kernel_rfl
theorem as_var_atom (w : World) (x : Value) : (Instr.typeAssert (.iface 80 x) 54 160 true).run Tryz.prog w = .ok (.tuple #[.string ⟨#[]⟩, .bool false]) w := by kernel_rfl
theorem as_var_comp (w : World) (x : Value) : (Instr.typeAssert (.iface 80 x) 54 163 true).run Tryz.prog w = .ok (.tuple #[.pointer none, .bool false]) w := by kernel_rfl
theorem atomFun_any (s : List Int) (w : World) : Calls Tryz.prog 152 #[.string (strOfNums s)] w fun e w' => e = .returned (.agg #[.string (strOfNums s), .int .i64 0]) ∧ Below w.heap.size w w' := by
 go_enter Tryz.func152, Tryz.ntmps152
 go_wp2_with fail; exact bodyPost_ret (v := .agg #[.string (strOfNums s), .int .i64 0]) (by simp [results, Tryz.results152, go_sem]) rfl ⟨rfl, (Below.refl _ _).alloc (Nat.le_refl _) _⟩
theorem valueNum_any (b : Nat) (n : Int) (w : World) : Calls Tryz.prog 54 #[.map (some b), .iface 48 (.int .i64 n)] w (EvOut w (.ok n)) := by
 have t1 := as_num_num
 go_enter Tryz.func54, Tryz.ntmps54
 go_wp2_with fail
 go_ret2
 exact ⟨rfl, Below.refl _ _⟩
theorem valueVar_any (b : Nat) (n : Int) (w : World) : Calls Tryz.prog 54 #[.map (some b), .iface 80 (.int .i64 n)] w (EvOut w (.error instT)) := by
 have t1 := as_var_num; have t2 := as_var_atom; have t3 := as_var_comp; have HE := instError_any w
 go_enter Tryz.func54, Tryz.ntmps54
 go_wp2_with fail; refine HE.mono ?_; rintro e w1 ⟨tv, rfl, hfo, hb⟩; have HF : Hid (FoIn w1 w.heap.size instT.fo [tv]) := hfo; have HB : Hid _ := hb; clear hfo hb HE; go_wp2_with fail
 go_ret2
 exact ⟨⟨tv, HF.out, .inl rfl⟩, HB.out⟩
theorem valueAtom_any (b : Nat) (s : List Int) (w : World) : Calls Tryz.prog 54 #[.map (some b), .iface 160 (.string (strOfNums s))] w (EvOut w (.error (evbT s 0))) := by
 have t1 := as_atom_num; have t2 := as_atom_atom; have HA := atomFun_any s w
 go_enter Tryz.func54, Tryz.ntmps54
 go_wp2_with fail; refine HA.mono ?_; rintro e w1 ⟨rfl, hb1⟩; have HE := notEvaluable_any s 0 w1; have HB1 : Hid _ := hb1; clear hb1 HA; go_wp2_with fail; refine HE.mono ?_; rintro e w2 ⟨tv, rfl, hfo, hb⟩; have HF : Hid (FoIn w2 w.heap.size (evbT s 0).fo [tv]) := hfo.mono HB1.out.size; have HB : Hid (Below w.heap.size w w2) := Below.on HB1.out hb; clear hfo hb HE; go_wp2_with fail
 go_ret2
 exact ⟨⟨tv, HF.out, .inl rfl⟩, HB.out⟩
theorem valueComp_any (b pb : Nat) (r : ER) (w : World) (HC : Calls Tryz.prog 153 #[.map (some b), .pointer (some ⟨pb, 0, none⟩)] w (EvOut w r)) : Calls Tryz.prog 54 #[.map (some b), .iface 163 (.pointer (some ⟨pb, 0, none⟩))] w (EvOut w r) := by
 have t1 := as_comp_num; have t2 := as_comp_atom; have t3 := as_comp_comp
 cases r with
 | ok v =>
   go_enter Tryz.func54, Tryz.ntmps54
   go_wp2_with fail; refine HC.mono ?_; rintro e w1 ⟨rfl, hb⟩; have HB : Hid _ := hb; clear hb HC; go_wp2_with fail
   go_ret2
   exact ⟨rfl, HB.out⟩
 | error t =>
   go_enter Tryz.func54, Tryz.ntmps54
   go_wp2_with fail; refine HC.mono ?_; rintro e w1 ⟨⟨tv, hfo, rfl | rfl⟩, hb⟩
   ·have HF : Hid (FoIn w1 w.heap.size t.fo [tv]) := hfo
    have HB : Hid _ := hb; clear hfo hb HC; go_wp2_with fail
    go_ret2
    exact ⟨⟨tv, HF.out, .inl rfl⟩, HB.out⟩
   ·exact ⟨rfl, ⟨tv, hfo, .inr rfl⟩, hb⟩
end
section
open Go Go.RowKit Go.Shelf
set_option linter.unusedSimpArgs false
def Enters (K : Nat) : Prop := ∀ args w, (callFunc K args).run Tryz.prog w = .ok (.enter K args) w
def ClDo (c : Cl) (xs : List Int) (r : ER) : Prop := match c with
 | .un K => ∃ x v, xs = [x] ∧ r = .ok v ∧ Enters K ∧ ∀ W, Calls Tryz.prog K #[.int .i64 x] W (FnOut W v)
 | .bi K1 K2 => ∃ x y gr v, xs = [x, y] ∧ r = guE gr v ∧ Enters K1 ∧ Enters K2 ∧ (∀ W, Calls Tryz.prog K1 #[.int .i64 x, .int .i64 y] W (GuOut W gr)) ∧ (gr = none → ∀ W, Calls Tryz.prog K2 #[.int .i64 x, .int .i64 y] W (FnOut W v))
theorem abs_any (x : Int) (W : World) (hx : InB x) : Calls Tryz.prog 128 #[.int .i64 x] W (FnOut W (x.natAbs : Int)) := (magnitude_any x W hx.mid).mono fun e w' ⟨h1, h2⟩ => by
 rw [h2, h1]; exact fn_ret (by unfold InB at hx; unfold MidE; omega) rfl
theorem one_of {xs : List Int} (h : (xs.length : Int) = 1) : ∃ x, xs = [x] := by
 match xs, h with
 | [x], _ => exact ⟨x, rfl⟩
 | [], h => simp at h
 | _ :: _ :: _, h => simp at h; omega
theorem two_ofE {xs : List Int} (h : (xs.length : Int) = 2) : ∃ x y, xs = [x, y] := by
 match xs, h with
 | [x, y], _ => exact ⟨x, y, rfl⟩
 | [], h => simp at h
 | [_], h => simp at h
 | _ :: _ :: _ :: _, h => simp at h; omega
theorem pow_gu (x y : Int) : guE (powG x y) (powV x y) = powE x y := by
 unfold guE powG powV powE
 by_cases h1 : 0 ≤ y
 ·simp [h1]
 ·by_cases h2 : x = 0
  ·subst h2; simp [h1]
  ·by_cases h3 : x.natAbs = 1
   ·simp [h1, h2, h3]
   ·simp [h1, h2, h3]
theorem powG_none {x y : Int} (h : powG x y = none) : 0 ≤ y ∨ x.natAbs = 1 := by
 unfold powG at h
 split at h
 ·assumption
 ·split at h <;> cases h
theorem shl_bnd (x : Int) (y : Nat) : bndE (.ok (x * 2 ^ min y 50)) = bndE (.ok (x * 2 ^ y)) := by
 have h := shl_same (x := x) (y := y); simp only [bndE]
 by_cases hb : InB (x * 2 ^ y)
 ·rw [if_pos hb, if_pos (h.1.2 hb), h.2 hb]
 ·rw [if_neg hb, if_neg (fun e => hb (h.1.1 e))]
theorem ent_mem {s : List Int} {n : Int} {c : Cl} (h : entOf s n = some c) : ((s, n), c) ∈ ents := by
 unfold entOf at h
 obtain ⟨y, hy, rfl⟩ := Option.map_eq_some_iff.1 h; have h1 := List.find?_some hy; have h2 := List.mem_of_find?_eq_some hy; simp only [decide_eq_true_eq] at h1; rw [← h1]; exact h2
set_option maxHeartbeats 1000000 in
theorem ent_does {s : List Int} {n : Int} {c : Cl} (h : entOf s n = some c) {xs : List Int} (hl : (xs.length : Int) = n) (hb : ∀ x ∈ xs, InB x) : ∃ r, bndE r = bndE (opV s xs) ∧ ClDo c xs r := by
 have hm := ent_mem h; clear h; simp only [ents, List.mem_cons, List.not_mem_nil, or_false, Prod.mk.injEq] at hm
 rcases hm with ⟨⟨rfl, rfl⟩, rfl⟩ | ⟨⟨rfl, rfl⟩, rfl⟩ | ⟨⟨rfl, rfl⟩, rfl⟩ | ⟨⟨rfl, rfl⟩, rfl⟩ | ⟨⟨rfl, rfl⟩, rfl⟩ | ⟨⟨rfl, rfl⟩, rfl⟩ | ⟨⟨rfl, rfl⟩, rfl⟩ | ⟨⟨rfl, rfl⟩, rfl⟩ | ⟨⟨rfl, rfl⟩, rfl⟩ | ⟨⟨rfl, rfl⟩, rfl⟩ | ⟨⟨rfl, rfl⟩, rfl⟩ | ⟨⟨rfl, rfl⟩, rfl⟩ | ⟨⟨rfl, rfl⟩, rfl⟩ | ⟨⟨rfl, rfl⟩, rfl⟩ | ⟨⟨rfl, rfl⟩, rfl⟩ | ⟨⟨rfl, rfl⟩, rfl⟩ | ⟨⟨rfl, rfl⟩, rfl⟩ | ⟨⟨rfl, rfl⟩, rfl⟩ | ⟨⟨rfl, rfl⟩, rfl⟩ | ⟨⟨rfl, rfl⟩, rfl⟩
 ·obtain ⟨x, rfl⟩ := one_of hl
  have hx := hb x (by simp); exact ⟨.ok (-x), by simp [opV, op1, sgn], x, -x, rfl, rfl, (enters_of Tryz.func125 (by kernel_rfl) rfl), fun W => neg_any x W hx⟩
 ·obtain ⟨x, rfl⟩ := one_of hl
  have hx := hb x (by simp); exact ⟨.ok (x), by simp [opV, op1, sgn], x, x, rfl, rfl, (enters_of Tryz.func127 (by kernel_rfl) rfl), fun W => same_any x W hx⟩
 ·obtain ⟨x, rfl⟩ := one_of hl
  have hx := hb x (by simp); exact ⟨.ok ((x.natAbs : Int)), by simp [opV, op1, sgn], x, (x.natAbs : Int), rfl, rfl, (enters_of Tryz.func128 (by kernel_rfl) rfl), fun W => abs_any x W hx⟩
 ·obtain ⟨x, rfl⟩ := one_of hl
  have hx := hb x (by simp); exact ⟨.ok (sgn x), by simp [opV, op1, sgn], x, sgn x, rfl, rfl, (enters_of Tryz.func129 (by kernel_rfl) rfl), fun W => sign_any x W hx⟩
 ·obtain ⟨x, rfl⟩ := one_of hl
  have hx := hb x (by simp); exact ⟨.ok (-x - 1), by simp [opV, op1, sgn], x, -x - 1, rfl, rfl, (enters_of Tryz.func131 (by kernel_rfl) rfl), fun W => not_any x W hx⟩
 ·obtain ⟨x, y, rfl⟩ := two_ofE hl
  have hx := hb x (by simp); have hy := hb y (by simp); exact ⟨.ok (x + y), by simp [opV, op2], x, y, none, x + y, rfl, rfl, (enters_of Tryz.func211 (by kernel_rfl) rfl), (enters_of Tryz.func132 (by kernel_rfl) rfl), fun W => noGuard_any x y W, fun _ W => add_anyE x y W hx hy⟩
 ·obtain ⟨x, y, rfl⟩ := two_ofE hl
  have hx := hb x (by simp); have hy := hb y (by simp); exact ⟨.ok (x - y), by simp [opV, op2], x, y, none, x - y, rfl, rfl, (enters_of Tryz.func211 (by kernel_rfl) rfl), (enters_of Tryz.func134 (by kernel_rfl) rfl), fun W => noGuard_any x y W, fun _ W => sub_any x y W hx hy⟩
 ·obtain ⟨x, y, rfl⟩ := two_ofE hl
  have hx := hb x (by simp); have hy := hb y (by simp); exact ⟨.ok (x * y), by simp [opV, op2], x, y, none, x * y, rfl, rfl, (enters_of Tryz.func211 (by kernel_rfl) rfl), (enters_of Tryz.func135 (by kernel_rfl) rfl), fun W => noGuard_any x y W, fun _ W => (product_any x y W hx.mid hy.mid).mono fun e w' h => h.fn⟩
 ·obtain ⟨x, y, rfl⟩ := two_ofE hl
  have hx := hb x (by simp); have hy := hb y (by simp); exact ⟨.ok (if x < y then x else y), by simp [opV, op2], x, y, none, if x < y then x else y, rfl, rfl, (enters_of Tryz.func211 (by kernel_rfl) rfl), (enters_of Tryz.func136 (by kernel_rfl) rfl), fun W => noGuard_any x y W, fun _ W => min_any x y W hx hy⟩
 ·obtain ⟨x, y, rfl⟩ := two_ofE hl
  have hx := hb x (by simp); have hy := hb y (by simp); exact ⟨.ok (if x < y then y else x), by simp [opV, op2], x, y, none, if x < y then y else x, rfl, rfl, (enters_of Tryz.func211 (by kernel_rfl) rfl), (enters_of Tryz.func137 (by kernel_rfl) rfl), fun W => noGuard_any x y W, fun _ W => max_any x y W hx hy⟩
 ·obtain ⟨x, y, rfl⟩ := two_ofE hl
  have hx := hb x (by simp); have hy := hb y (by simp); refine ⟨guE (if y = 0 then some zeroT else none) (x.tdiv y), ?_, x, y, _, _, rfl, rfl, (enters_of Tryz.func140 (by kernel_rfl) rfl), (enters_of Tryz.func138 (by kernel_rfl) rfl), fun W => divGuard_any x y W, fun hg W => ?_⟩
  ·by_cases h0 : y = 0 <;> simp [guE, h0, opV, op2]
  ·have h0 : y ≠ 0 := by by_cases h0 : y = 0 <;> simp [h0] at hg <;> exact h0
   exact quo_any x y W hx hy h0
 ·obtain ⟨x, y, rfl⟩ := two_ofE hl
  have hx := hb x (by simp); have hy := hb y (by simp); refine ⟨guE (if y = 0 then some zeroT else none) (x.tmod y), ?_, x, y, _, _, rfl, rfl, (enters_of Tryz.func140 (by kernel_rfl) rfl), (enters_of Tryz.func141 (by kernel_rfl) rfl), fun W => divGuard_any x y W, fun hg W => ?_⟩
  ·by_cases h0 : y = 0 <;> simp [guE, h0, opV, op2]
  ·have h0 : y ≠ 0 := by by_cases h0 : y = 0 <;> simp [h0] at hg <;> exact h0
   exact rem_any x y W hx hy h0
 ·obtain ⟨x, y, rfl⟩ := two_ofE hl
  have hx := hb x (by simp); have hy := hb y (by simp); refine ⟨guE (if y = 0 then some zeroT else none) ((x.tmod y + y).tmod y), ?_, x, y, _, _, rfl, rfl, (enters_of Tryz.func140 (by kernel_rfl) rfl), (enters_of Tryz.func142 (by kernel_rfl) rfl), fun W => divGuard_any x y W, fun hg W => ?_⟩
  ·by_cases h0 : y = 0 <;> simp [guE, h0, opV, op2]
  ·have h0 : y ≠ 0 := by by_cases h0 : y = 0 <;> simp [h0] at hg <;> exact h0
   exact mod_any x y W hx hy h0
 ·obtain ⟨x, y, rfl⟩ := two_ofE hl
  have hx := hb x (by simp); have hy := hb y (by simp); refine ⟨guE (if y < 0 then some undT else none) (x / 2 ^ min y.toNat 64), ?_, x, y, _, _, rfl, rfl, (enters_of Tryz.func144 (by kernel_rfl) rfl), (enters_of Tryz.func143 (by kernel_rfl) rfl), fun W => shiftGuard_any x y W, fun hg W => ?_⟩
  ·by_cases h0 : y < 0 <;> simp [guE, h0, opV, op2]
  ·have h0 : 0 ≤ y := by by_cases h0 : y < 0 <;> simp [h0] at hg <;> omega
   exact shr_any x y W hx hy h0
 ·obtain ⟨x, y, rfl⟩ := two_ofE hl
  have hx := hb x (by simp); have hy := hb y (by simp); refine ⟨guE (if y < 0 then some undT else none) (x * 2 ^ min y.toNat 50), ?_, x, y, _, _, rfl, rfl, (enters_of Tryz.func144 (by kernel_rfl) rfl), (enters_of Tryz.func145 (by kernel_rfl) rfl), fun W => shiftGuard_any x y W, fun hg W => ?_⟩
  ·by_cases h0 : y < 0
   ·simp [guE, h0, opV, op2]
   ·have := shl_bnd x y.toNat
    simpa [guE, h0, opV, op2] using this
  ·have h0 : 0 ≤ y := by by_cases h0 : y < 0 <;> simp [h0] at hg <;> omega
   exact (shiftLeft_any x y W hx hy h0).mono fun e w' h => h.fn
 ·obtain ⟨x, y, rfl⟩ := two_ofE hl
  have hx := hb x (by simp); have hy := hb y (by simp); exact ⟨.ok (bits .and .i64 x y), by simp [opV, op2], x, y, none, bits .and .i64 x y, rfl, rfl, (enters_of Tryz.func211 (by kernel_rfl) rfl), (enters_of Tryz.func146 (by kernel_rfl) rfl), fun W => noGuard_any x y W, fun _ W => and_any x y W hx hy⟩
 ·obtain ⟨x, y, rfl⟩ := two_ofE hl
  have hx := hb x (by simp); have hy := hb y (by simp); exact ⟨.ok (bits .or .i64 x y), by simp [opV, op2], x, y, none, bits .or .i64 x y, rfl, rfl, (enters_of Tryz.func211 (by kernel_rfl) rfl), (enters_of Tryz.func147 (by kernel_rfl) rfl), fun W => noGuard_any x y W, fun _ W => or_anyE x y W hx hy⟩
 ·obtain ⟨x, y, rfl⟩ := two_ofE hl
  have hx := hb x (by simp); have hy := hb y (by simp); exact ⟨.ok (bits .xor .i64 x y), by simp [opV, op2], x, y, none, bits .xor .i64 x y, rfl, rfl, (enters_of Tryz.func211 (by kernel_rfl) rfl), (enters_of Tryz.func148 (by kernel_rfl) rfl), fun W => noGuard_any x y W, fun _ W => xor_any x y W hx hy⟩
 rotate_right
 case' _ =>
  obtain ⟨x, y, rfl⟩ := two_ofE hl
 rotate_right
 case' _ =>
  obtain ⟨x, y, rfl⟩ := two_ofE hl
 all_goals
  have hx := hb x (by simp); have hy := hb y (by simp); refine ⟨guE (powG x y) (powV x y), ?_, x, y, _, _, rfl, rfl, (enters_of Tryz.func150 (by kernel_rfl) rfl), (enters_of Tryz.func149 (by kernel_rfl) rfl), fun W => powGuard_any x y W hx, fun hg W => ?_⟩
  ·rw [pow_gu]; simp [opV, op2]
  ·have h0 : 0 ≤ y ∨ x.natAbs = 1 := powG_none hg
   exact power_any x y W hx hy h0
end
section
open Go Go.RowKit
theorem infoNumb : (Tryz.prog.info? 48).map (fun i => (i.zero, i.size, i.bytes)) = some (some (.int .i64 0), 1, 8) := by kernel_rfl
theorem rowN_next {B g n : Nat} {w : World} {vs : List Value} {j : Nat} (h : w.ownsRow B 48 1 (.slice (some ⟨g, 0, none⟩) n n) n (vs ++ List.replicate (n - j) (.int .i64 0))) (hj : vs.length = j) (hlt : j < n) (v : Value) :
  (w.setCell ⟨g, j, none⟩ v).ownsRow B 48 1 (.slice (some ⟨g, 0, none⟩) n n) n ((vs ++ [v]) ++ List.replicate (n - (j + 1)) (.int .i64 0)) := by
 have := (h.stored j v).1; rw [List.set_append_right _ _ (by omega), show j - vs.length = 0 by omega, show n - j = (n - (j + 1)) + 1 by omega, List.replicate_succ, List.set_cons_zero] at this; rw [List.append_assoc]; exact this
theorem evF_cat : ∀ a b : Fo, evF (a.cat b) = evF a ++ evF b
 | .nil, b => rfl
 | .node c k r, b => by simp only [Fo.cat, evF, List.cons_append, evF_cat r b]
theorem seqE_snoc {v : ER} : ∀ {l : List ER} {xs : List Int}, seqE l = .ok xs → seqE (l ++ [v]) = match v with | .error t => .error t | .ok u => .ok (xs ++ [u])
 | [], xs, h => by
   simp only [seqE, Except.ok.injEq] at h; subst h
   cases v <;> rfl
 | .error t :: r, xs, h => by simp [seqE] at h
 | .ok u :: r, xs, h => by
   simp only [seqE] at h
   cases hr : seqE r with
   | error t => rw [hr] at h; cases h
   | ok ys =>
     rw [hr] at h; simp only [Except.ok.injEq] at h; subst h; have := seqE_snoc (v := v) hr; simp only [List.cons_append, seqE, this]
     cases v <;> rfl
theorem seqE_err {t : Tr} : ∀ {l : List ER} {xs : List Int} (r : List ER), seqE l = .ok xs → seqE (l ++ .error t :: r) = .error t
 | [], xs, r, h => rfl
 | .error u :: l, xs, r, h => by simp [seqE] at h
 | .ok u :: l, xs, r, h => by
   simp only [seqE] at h
   cases hr : seqE l with
   | error t => rw [hr] at h; cases h
   | ok ys => simp only [List.cons_append, seqE, seqE_err r hr]
def ValOk (M : Nat) : Prop := ∀ (c : Cel) (k : Fo) (v : Value) (Bt b : Nat) (w0 w : World), k.cells.length ≤ M → (Fo.node c k .nil).ok → FoIn w0 Bt (.node c k .nil) [v] → TabIn w0 b 62 opTab → Below w0.heap.size w0 w →
 Calls Tryz.prog 54 #[.map (some b), v] w (EvOut w (evT (c, k)))
set_option maxHeartbeats 1000000 in
theorem compound_any (c : Cel) (k : Fo) (pb g : Nat) (vs : List Value) (Bt b : Nat) (w0 w : World) (ih : ∀ m, m < k.cells.length → ValOk m) (h3 : c.1 = 3) (hok : (Fo.node c k .nil).ok) (hcomp : CompAt w0 Bt c.2.2 k pb g vs) (hT : TabIn w0 b 62 opTab) (hw : Below w0.heap.size w0 w) :
  Calls Tryz.prog 153 #[.map (some b), .pointer (some ⟨pb, 0, none⟩)] w (EvOut w (evT (c, k))) := by
 have HC : Hid (CompAt w0 Bt c.2.2 k pb g vs) := hcomp; have hvl2 : vs.length = k.count := FoIn.count _ _ hcomp.2.2.2.2.2.2; have hcn : c.2.1 = k.count := hok.2.2.1 h3; have hcb := hok.1; simp only [cellB, decide_eq_true_eq] at hcb
 obtain ⟨q, eq⟩ : ∃ q, q = vs.length := ⟨_, rfl⟩
 have hq : q ≤ 20 := by omega
 have HE : Hid (q = vs.length ∧ vs.length = k.count ∧ c.2.1 = q) := ⟨eq, hvl2, by omega⟩
 have HK : Hid k.ok := hok.2.2.2.2.1; have hby := hok.2.1; have d0 := (hw.cell (World.block_lt_of_cell? _ _ hcomp.2.2.1)).trans hcomp.2.2.1; have d1 := (hw.cell (World.block_lt_of_cell? _ _ hcomp.2.2.2.1)).trans hcomp.2.2.2.1; rw [← eq] at d1; have HFU := functor_any pb g q (strOfNums c.2.2) w d0 d1; have HW : Hid (Below w0.heap.size w0 w) := hw; have HTT : Hid (TabIn w0 b 62 opTab) := hT; have HIH : Hid (∀ m, m < k.cells.length → ValOk m) := ih
 have hsz : (strOfNums c.2.2).size = c.2.2.length := by simp [strOfNums, ByteArray.size]
 have hokF : okF (strOfNums c.2.2, (q : Int)) := ⟨by show (strOfNums c.2.2).size ≤ _; rw [hsz]; omega, by show (0 : Int) ≤ q; omega, by show (q : Int) ≤ _; omega⟩
 have HLK : Hid (∀ W, Below w0.heap.size w0 W → match entOf c.2.2 (q : Int) with
   | none => (Instr.lookup 105 (.map (some b)) (.agg #[.string (strOfNums c.2.2), .int .i64 (q : Int)]) true).run Tryz.prog W = .ok (.tuple #[.nilFunc, .bool false]) W
   | some cl => ∃ v, (Instr.lookup 105 (.map (some b)) (.agg #[.string (strOfNums c.2.2), .int .i64 (q : Int)]) true).run Tryz.prog W = .ok (.tuple #[v, .bool true]) W ∧ ClIn W cl v) := fun W hW => by
  have := (hT.below hW).look (strOfNums c.2.2, (q : Int)) hokF; rw [opTab_ent hby] at this; exact this
 have hev : evT (c, k) = if knownB c.2.2 c.2.1 = false then .error (evbT c.2.2 c.2.1) else match seqE (evF k) with
   | .error t => .error t
   | .ok xs => bndE (opV c.2.2 xs) := by
  unfold evT evC
  simp only [h3]; rw [if_neg (by decide), if_neg (by decide)]
  by_cases hk : knownB c.2.2 c.2.1 = false
  ·rw [if_pos (.inr hk), if_pos hk]
  ·rw [if_neg (by simp [hk]), if_neg hk]
   cases seqE (evF k) <;> rfl
 rw [ent_known, HE.out.2.2] at hev
 cases hen : entOf c.2.2 (q : Int) with
 | none =>
   have HL2 : Hid (∀ W, Below w0.heap.size w0 W → (Instr.lookup 105 (.map (some b)) (.agg #[.string (strOfNums c.2.2), .int .i64 (q : Int)]) true).run Tryz.prog W = .ok (.tuple #[.nilFunc, .bool false]) W) := fun W hW => by
    have := HLK.out W hW; rw [hen] at this; exact this
   rw [hen] at hev; simp only [Option.isSome_none, if_true] at hev; have HEV : Hid (evT (c, k) = .error (evbT c.2.2 q)) := hev
   obtain ⟨s, es⟩ : ∃ s, s = c.2.2 := ⟨_, rfl⟩
   rw [← es] at d0 HFU HL2 HEV; clear hok hcomp hT hw ih h3 hvl2 hcn hcb eq hby hsz hokF HLK hen hev es
   go_enter Tryz.func153, Tryz.ntmps153
   go_wp2_with fail; refine HFU.mono ?_; rintro e w1 ⟨rfl, hb1⟩; have HB1 : Hid (Below w.heap.size w w1) := hb1; have hlk := HL2.out w1 (Below.on HW.out hb1); have e0 := (hb1.cell (World.block_lt_of_cell? _ _ d0)).trans d0; have e1 := (hb1.cell (World.block_lt_of_cell? _ _ d1)).trans d1; have HF2 := functor_any pb g q (strOfNums s) w1 e0 e1; clear hb1 HFU d0 d1 e0 e1; go_wp2_with fail; refine HF2.mono ?_; rintro e w2 ⟨rfl, hb2⟩; have HB2 : Hid (Below w.heap.size w w2) := Below.on HB1.out hb2; have HN := notEvaluable_any s q w2; clear hb2 HF2 hlk; go_wp2_with fail; refine HN.mono ?_; rintro e w3 ⟨tv, rfl, hfo, hb3⟩; have HF : Hid (FoIn w3 w.heap.size (evbT s q).fo [tv]) := hfo.mono HB2.out.size; have HB3 : Hid (Below w.heap.size w w3) := Below.on HB2.out hb3; clear hfo hb3 HN; go_wp2_with fail
   go_ret2
   exact evOut_of (r := .error (evbT s q)) ⟨⟨tv, HF.out, .inl rfl⟩, HB3.out⟩ HEV.out
 | some cl =>
   have HL2 : Hid (∀ W, Below w0.heap.size w0 W → ∃ v, (Instr.lookup 105 (.map (some b)) (.agg #[.string (strOfNums c.2.2), .int .i64 (q : Int)]) true).run Tryz.prog W = .ok (.tuple #[v, .bool true]) W ∧ ClIn W cl v) := fun W hW => by
    have := HLK.out W hW; rw [hen] at this; exact this
   rw [hen] at hev; simp only [Option.isSome_some, Bool.true_eq_false, if_false] at hev
   have HEV : Hid (evT (c, k) = match seqE (evF k) with
    | .error t => .error t
    | .ok xs => bndE (opV c.2.2 xs)) := hev
   have HEN : Hid (entOf c.2.2 (q : Int) = some cl) := hen
   obtain ⟨s, es⟩ : ∃ s, s = strOfNums c.2.2 := ⟨_, rfl⟩
   rw [← es] at d0 HFU HL2; obtain ⟨i0, hi, hz0, hz1, hz2⟩ := info_parts infoNumb
   have hmx : q ≤ maxLen := by unfold maxLen; omega
   clear hok hcomp hT hw ih h3 hvl2 hcn hcb eq hby hsz hokF HLK hen hev es
   go_enter Tryz.func153, Tryz.ntmps153
   go_wp2_with fail; refine HFU.mono ?_; rintro e w1 ⟨rfl, hb1⟩; have HB1 : Hid (Below w.heap.size w w1) := hb1; obtain ⟨va, hlk, hcl⟩ := HL2.out w1 (Below.on HW.out hb1); have HCL : Hid (ClIn w1 cl va) := hcl; have e1 := (hb1.cell (World.block_lt_of_cell? _ _ d1)).trans d1; clear hb1 HFU d0 d1 hcl; go_wp2_with (at_make; refine wpList_make_full _ rfl _ _ 249 rfl w1.heap.size 48 i0 (.int .i64 0) 1 Tryz.underlying249 hi hz0 hz1 _ _ _ _ q rfl rfl rfl rfl (by rw [hz2]; omega) hmx (Nat.le_refl _) ?_; intro w2 hown hgrow; have e1' := ((World.cell?_of_block (w := w1) (a := ⟨pb, 1, none⟩) (hgrow.block pb (World.block_lt_of_cell? _ _ e1) (fun h => by cases h)))).trans e1)
   have HO1 : Hid (w2.ownsRow w1.heap.size 48 1 (.slice (some ⟨w1.heap.size, 0, none⟩) q q) q (([] : List Int).map (Value.int .i64) ++ List.replicate (q - 0) (.int .i64 0))) := by
    have := hown
    simp [Value.cells, toList_madeCells_one] at this
    exact this
   have HG1 : Hid (Below w1.heap.size w1 w2) := (Below.refl _ _).grown hgrow (Nat.le_refl _) (fun k h => by cases h)
   have hs1 : w1.heap.size + 1 ≤ w2.heap.size := by have := (hown.lt w1.heap.size rfl).2; omega
   clear hown hgrow hi hz0 hz1 hz2 e1 e1' hlk HL2
   go_loopw [39] (fun i wr => ∃ (D R : Fo) (us vs2 : List Value) (xs : List Int) (j : Nat), j ≤ q ∧ i = .int .i64 j ∧ Hid (k = D.cat R ∧ vs = us ++ vs2 ∧ us.length = j ∧ xs.length = j) ∧ Hid (FoIn w0 Bt R vs2) ∧
    Hid (wr.ownsRow w1.heap.size 48 1 (.slice (some ⟨w1.heap.size, 0, none⟩) q q) q (xs.map (Value.int .i64) ++ List.replicate (q - j) (.int .i64 0))) ∧ Hid (seqE (evF D) = .ok xs ∧ ∀ x ∈ xs, InB x) ∧ Hid (Below w1.heap.size w1 wr) ∧ w1.heap.size + 1 ≤ wr.heap.size) (fun i _ => q - (intOf i).toNat)
   case atStart => exact ⟨.nil, k, [], vs, [], 0, Nat.zero_le _, rfl, ⟨rfl, rfl, rfl, rfl⟩, HC.out.2.2.2.2.2.2, HO1, ⟨rfl, fun x hx => by cases hx⟩, HG1, hs1⟩
   case round =>
    obtain ⟨D, R, us, vs2, xs, j, hj, rfl, HF, HR, HO, HX, HG, hsz⟩ := hrel; have hwr : Below w0.heap.size w0 wr := Below.on (Below.on HW.out HB1.out) HG.out
    by_cases hlt : j < q
    ·obtain ⟨c', k', r', rfl⟩ : ∃ c' k' r', R = .node c' k' r' := by
      cases R with
      | nil =>
        have h1 := HF.out; have h2 : vs2 = [] := HR.out; have h3 := HE.out.1; rw [h1.2.1, h2, List.append_nil] at h3
        omega
      | node c' k' r' => exact ⟨c', k', r', rfl⟩
     obtain ⟨v, vr, rfl, hnode, hrest⟩ := HR.out; have hok2 := (Fo.ok_cat D (.node c' k' r')).1 (HF.out.1 ▸ HK.out)
     have hl2 : D.cells.length + (k'.cells.length + r'.cells.length + 1) = k.cells.length := by
      rw [HF.out.1, Fo.cells_cat]; simp [Fo.cells]
     have hat : w0.cell? ⟨g, j, none⟩ = some v := by
      rw [HC.out.2.2.2.2.2.1 j (by rw [← HE.out.1]; exact hlt), HF.out.2.1]
      simp [List.getD, HF.out.2.2.1]
     have c5 : wr.cell? ⟨g, j, none⟩ = some v := (hwr.cell (World.block_lt_of_cell? _ _ hat)).trans hat
     have hok1 : (Fo.node c' k' .nil).ok := ⟨hok2.2.1, hok2.2.2.1, hok2.2.2.2.1, hok2.2.2.2.2.1, hok2.2.2.2.2.2.1, trivial⟩
     have HRC := HIH.out k'.cells.length (by omega) c' k' v Bt b w0 wr (Nat.le_refl _) hok1 ⟨v, [], rfl, hnode, rfl⟩ HTT.out hwr; obtain ⟨vt, vx, rfl⟩ := hnode.iface; have HRR : Hid (FoIn w0 Bt r' vr) := hrest
     have HCE : Hid (evF k = evF D ++ evT (c', k') :: evF r') := by show _ = _; rw [HF.out.1, evF_cat]; rfl
     have HIN : Hid (∀ u, evT (c', k') = .ok u → InB u) := fun u hu => evT_in hok1 hu
     clear hok2 hl2 hat hwr hnode hrest HIH hok1
     cases hev : evT (c', k') with
     | ok u =>
       rw [hev] at HRC; have HU : Hid (evT (c', k') = .ok u) := hev; clear hev; go_wp2_with fail; refine HRC.mono ?_; rintro e w3 ⟨rfl, hg3⟩
       have e0 : w3.cell? ⟨w1.heap.size, j, none⟩ = some (.int .i64 0) := by
        rw [hg3.cell (p := ⟨w1.heap.size, j, none⟩) (show w1.heap.size < wr.heap.size by omega), HO.out.cellAt j (by omega), List.getElem?_append_right (by have := HF.out.2.2.2; simp; omega), List.getElem?_replicate, if_pos (by have := HF.out.2.2.2; simp; omega)]
       have e1 : w3.frozen? ⟨w1.heap.size, j, none⟩ = false := (hg3.frozen (p := ⟨w1.heap.size, j, none⟩) (show w1.heap.size < wr.heap.size by omega)).trans (HO.out.frozenAt j); have HO3 : Hid (w3.ownsRow w1.heap.size 48 1 (.slice (some ⟨w1.heap.size, 0, none⟩) q q) q (xs.map (Value.int .i64) ++ List.replicate (q - j) (.int .i64 0))) := row_below HO.out hg3
       have HN : Hid (k = (D.cat (.node c' k' .nil)).cat r' ∧ vs = (us ++ [Value.iface vt vx]) ++ vr ∧ (us ++ [Value.iface vt vx]).length = j + 1 ∧ (xs ++ [u]).length = j + 1) := ⟨by rw [Fo.cat_assoc]; exact HF.out.1, by rw [HF.out.2.1]; simp, by simp [HF.out.2.2.1], by simp [HF.out.2.2.2]⟩
       have HX3 : Hid (seqE (evF (D.cat (.node c' k' .nil))) = .ok (xs ++ [u]) ∧ ∀ x ∈ xs ++ [u], InB x) := by
        refine ⟨?_, fun x hx => ?_⟩
        ·have h1 : evF (D.cat (.node c' k' .nil)) = evF D ++ [.ok u] := by rw [evF_cat, ← HU.out]; rfl
         rw [h1, seqE_snoc HX.out.1]
        ·rcases List.mem_append.1 hx with hx | hx
         ·exact HX.out.2 x hx
         ·rw [List.mem_singleton.1 hx]; exact HIN.out u HU.out
       have HG3 : Hid (Below w1.heap.size w1 (w3.setCell ⟨w1.heap.size, j, none⟩ (.int .i64 u))) := (Below.on HG.out hg3).setCell (p := ⟨w1.heap.size, j, none⟩) (Nat.le_refl _) _; have hsz3 : w1.heap.size + 1 ≤ w3.heap.size := Nat.le_trans hsz hg3.size
       have HO4 : Hid ((w3.setCell ⟨w1.heap.size, j, none⟩ (.int .i64 u)).ownsRow w1.heap.size 48 1 (.slice (some ⟨w1.heap.size, 0, none⟩) q q) q ((xs ++ [u]).map (Value.int .i64) ++ List.replicate (q - (j + 1)) (.int .i64 0))) := by
        show World.ownsRow _ _ _ _ _ _ _
        rw [List.map_append]; exact rowN_next HO3.out (by have := HF.out.2.2.2; simpa using this) hlt _
       clear hg3 HRC; go_wp2_with fail; go_roundw
       case rel => exact ⟨D.cat (.node c' k' .nil), r', us ++ [Value.iface vt vx], vr, xs ++ [u], j + 1, by omega, by go_num, HN, HRR, HO4, HX3, HG3, by simpa using hsz3⟩
       case measure => simp [intOf]; omega
     | error t =>
       rw [hev] at HRC
       have HU : Hid (evT (c, k) = .error t) := by
        show _ = _
        rw [HEV.out, HCE.out, hev, seqE_err _ HX.out.1]
       clear hev; go_wp2_with fail; refine HRC.mono ?_; rintro e w3 ⟨⟨tv, hfo, rfl | rfl⟩, hg3⟩
       ·have HF3 : Hid (FoIn w3 w.heap.size t.fo [tv]) := hfo.mono (Nat.le_trans HB1.out.size HG.out.size)
        have HB3 : Hid (Below w.heap.size w w3) := Below.on (Below.on HB1.out HG.out) hg3; clear hfo hg3 HRC; go_wp2_with fail
        go_ret2
        exact evOut_of (r := .error t) ⟨⟨tv, HF3.out, .inl rfl⟩, HB3.out⟩ HU.out
       ·exact ⟨rfl, evOut_of (r := .error t) ⟨⟨tv, hfo.mono (Nat.le_trans HB1.out.size HG.out.size), .inr rfl⟩, Below.on (Below.on HB1.out HG.out) hg3⟩ HU.out⟩
    ·obtain rfl : j = q := by omega
     obtain rfl : R = .nil := by
      have h1 := FoIn.count _ _ HR.out; have h2 := HE.out; rw [HF.out.2.1, List.length_append] at h2; have h3 := HF.out.2.2.1
      cases R with
      | nil => rfl
      | node a b d => simp [Fo.count] at h1; omega
     have hD : D = k := by have := HF.out.1; rw [Fo.cat_nil] at this; exact this.symm
     subst hD; obtain ⟨r, hr, hdo⟩ := ent_does HEN.out (xs := xs) (by have := HF.out.2.2.2; omega) HX.out.2
     have HRR : Hid (evT (c, D) = bndE r) := by
      show _ = _
      rw [HEV.out, HX.out.1, hr]
     have hcl := HCL.out.below HG.out; have HBW : Hid (Below w.heap.size w wr) := Below.on HB1.out HG.out
     have hrow : ∀ i, (h : i < xs.length) → wr.cell? ⟨w1.heap.size, i, none⟩ = some (.int .i64 xs[i]) := fun i h => by
      rw [HO.out.cellAt i (by have := HF.out.2.2.2; omega), List.getElem?_append_left (by simpa using h), List.getElem?_map, List.getElem?_eq_getElem h]
      rfl
     have hxl := HF.out.2.2.2; clear HF HR HX HG HO HC HE HK HIH HEV HEN HW HTT hr HCL hwr hsz HB1 hs1 HO1 HG1
     cases cl with
     | un K =>
       obtain ⟨x, v, rfl, rfl, eK, HFN⟩ := hdo; obtain ⟨bf, rfl, hbox⟩ := hcl
       obtain rfl : j = 1 := by simpa using hxl.symm
       have HA := unary_any K eK x v w1.heap.size bf wr hbox (hrow 0 (by simp)) (fun W _ => HFN W); clear hrow hbox HFN hxl; go_wp2_with fail; refine HA.mono ?_; rintro e w4 ⟨⟨hm, rfl⟩ | ⟨hn, tv, rfl, hfo⟩, hb4⟩
       ·have HB4 : Hid (Below w.heap.size w w4) := Below.on HBW.out hb4
        have HBD := bounded_any v w4 hm; clear hm hb4 HA; go_wp2_with fail; refine HBD.mono ?_; rintro e w5 ⟨⟨hi, rfl⟩ | ⟨hn, tv, rfl, hfo⟩, hb5⟩
        ·have HI5 : Hid (bndE (.ok v) = .ok v) := by show (if InB v then _ else _) = _; rw [if_pos hi]
         have HB5 : Hid (Below w.heap.size w w5) := Below.on HB4.out hb5; clear hi hb5 HBD; go_wp2_with fail
         go_ret2
         exact evOut_of (r := .ok v) ⟨rfl, HB5.out⟩ (HRR.out.trans HI5.out)
        ·have HI5 : bndE (.ok v) = .error ovfT := by show (if InB v then _ else _) = _; rw [if_neg hn]
         exact ⟨rfl, evOut_of (r := .error ovfT) ⟨⟨tv, hfo.mono HB4.out.size, .inr rfl⟩, Below.on HB4.out hb5⟩ (HRR.out.trans HI5)⟩
       ·have HI5 : bndE (.ok v) = .error ovfT := by show (if InB v then _ else _) = _; rw [if_neg hn]
        exact ⟨rfl, evOut_of (r := .error ovfT) ⟨⟨tv, hfo.mono HBW.out.size, .inr rfl⟩, Below.on HBW.out hb4⟩ (HRR.out.trans HI5)⟩
     | bi K1 K2 =>
       obtain ⟨x, y, gr, v, rfl, rfl, e1, e2, HC1, HC2⟩ := hdo; obtain ⟨bc, bf, rfl, hbc, hbf⟩ := hcl
       obtain rfl : j = 2 := by simpa using hxl.symm
       have HA := behind_any K1 K2 e1 e2 x y gr v w1.heap.size bc bf wr hbc hbf (hrow 0 (by simp)) (hrow 1 (by simp)) (fun W _ => HC1 W) (fun h W _ => HC2 h W); clear hrow hbc hbf HC1 HC2 hxl
       cases gr with
       | none =>
         go_wp2_with fail; refine HA.mono ?_; rintro e w4 ⟨⟨hm, rfl⟩ | ⟨hn, tv, rfl, hfo⟩, hb4⟩
         ·have HB4 : Hid (Below w.heap.size w w4) := Below.on HBW.out hb4
          have HBD := bounded_any v w4 hm; clear hm hb4 HA; go_wp2_with fail; refine HBD.mono ?_; rintro e w5 ⟨⟨hi, rfl⟩ | ⟨hn, tv, rfl, hfo⟩, hb5⟩
          ·have HI5 : Hid (bndE (.ok v) = .ok v) := by show (if InB v then _ else _) = _; rw [if_pos hi]
           have HB5 : Hid (Below w.heap.size w w5) := Below.on HB4.out hb5; clear hi hb5 HBD; go_wp2_with fail
           go_ret2
           exact evOut_of (r := .ok v) ⟨rfl, HB5.out⟩ (HRR.out.trans HI5.out)
          ·have HI5 : bndE (.ok v) = .error ovfT := by show (if InB v then _ else _) = _; rw [if_neg hn]
           exact ⟨rfl, evOut_of (r := .error ovfT) ⟨⟨tv, hfo.mono HB4.out.size, .inr rfl⟩, Below.on HB4.out hb5⟩ (HRR.out.trans HI5)⟩
         ·have HI5 : bndE (.ok v) = .error ovfT := by show (if InB v then _ else _) = _; rw [if_neg hn]
          exact ⟨rfl, evOut_of (r := .error ovfT) ⟨⟨tv, hfo.mono HBW.out.size, .inr rfl⟩, Below.on HBW.out hb4⟩ (HRR.out.trans HI5)⟩
       | some t =>
         go_wp2_with fail; refine HA.mono ?_; rintro e w4 ⟨⟨tv, rfl, hfo⟩, hb4⟩; have HF4 : Hid (FoIn w4 w.heap.size t.fo [tv]) := hfo.mono HBW.out.size; have HB4 : Hid (Below w.heap.size w w4) := Below.on HBW.out hb4; have HBD := bounded_any 0 w4 (by unfold MidE; omega); clear hfo hb4 HA; go_wp2_with fail; refine HBD.mono ?_; rintro e w5 ⟨⟨_, rfl⟩ | ⟨hn, _⟩, hb5⟩
         ·have HF5 : Hid (FoIn w5 w.heap.size t.fo [tv]) := HF4.out.below hb5
          have HB5 : Hid (Below w.heap.size w w5) := Below.on HB4.out hb5; clear hb5 HBD; go_wp2_with fail
          go_ret2
          exact evOut_of (r := .error t) ⟨⟨tv, HF5.out, .inl rfl⟩, HB5.out⟩ HRR.out
         ·exact absurd (by decide : InB 0) hn
theorem value_any : ∀ M, ValOk M := by
 intro M
 induction M using Nat.strongRecOn with
 | ind M ih =>
   intro c k v Bt b w0 w hM hok hfo hT hw
   obtain ⟨v', vr, e, hnode, _⟩ := hfo; obtain ⟨rfl, rfl⟩ := List.cons.inj e
   rcases hnode with ⟨h0, rfl⟩ | ⟨h0, rfl⟩ | ⟨h0, rfl⟩ | ⟨h0, pb, g, vs, rfl, hcomp⟩
   ·have e : evT (c, k) = .error instT := by unfold evT evC; rw [if_neg (by show ¬ c.1 = 1; omega), if_pos h0]
    rw [e]; exact valueVar_any b c.2.1 w
   ·have e : evT (c, k) = .ok c.2.1 := by unfold evT evC; rw [if_pos h0]
    rw [e]; exact valueNum_any b c.2.1 w
   ·have e : evT (c, k) = .error (evbT c.2.2 0) := by
     have := hok.1; simp only [cellB, decide_eq_true_eq] at this
     unfold evT evC
     rw [if_neg (by show ¬ c.1 = 1; omega), if_neg (by show ¬ c.1 = 0; omega), if_pos (.inl h0)]
     show Except.error (evbT c.2.2 c.2.1) = _
     rw [show c.2.1 = 0 by omega]
    rw [e]; exact valueAtom_any b c.2.2 w
   ·exact valueComp_any b pb _ w (compound_any c k pb g vs Bt b w0 w (fun m hm => ih m (by omega)) h0 hok hcomp hT hw)
end
end Go.Proofs.YtkklidpnkofipaaGreatDoor
