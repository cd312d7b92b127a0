/- Texts of FeL0, FeL, FeP0, LawFe0. Own work of the verifier. -/
import Derived.Test.YtkklidpnkofipaaGreatDoorUqav
import Derived.Test.YtkklidpnkofipaaGreatDoorUqat
import Derived.Test.YtkklidpnkofipaaGreatDoorUqaw
namespace Go.Proofs.YtkklidpnkofipaaGreatDoor
open Go Go.RowKit
set_option linter.unusedVariables false
set_option linter.unusedSimpArgs false
theorem bKey_injL {i j : Nat} (hi : i < 45) (hj : j < 45) (h : bKey i = bKey j) : i = j := by
 have h1 := congrArg Prod.fst h; have h2 := congrArg Prod.snd h; have h3 : bEnt i = bEnt j := Prod.ext (bOf_inj h1) h2; have := List.all_eq_true.1 (List.all_eq_true.1 bEnt_inj i (List.mem_range.2 hi)) j (List.mem_range.2 hj); exact (of_decide_eq_true this) h3
theorem buTab_at (j : Nat) (hj : j < 45) : buTab (bKey j) = some (bFn j) := by
 unfold buTab
 cases h : (List.range 45).find? fun i => decide (bKey i = bKey j) with
 | none =>
   have := List.find?_eq_none.1 h j (List.mem_range.2 hj)
   simp at this
 | some i =>
   have h1 := List.find?_some h; have h2 := List.mem_of_find?_eq_some h; rw [bKey_injL (List.mem_range.1 h2) hj (of_decide_eq_true h1)]
   rfl
def smallT (A : Tr) : Prop := A.fo.ok ∧ A.2.cells.length + 1 ≤ 2000 ∧ ∀ x ∈ A.cs, x.2.2.length ≤ 100
theorem smallT.no {A : Tr} (h : smallT A) {v : Value} {W : World} (hf : FoIn W 0 A.fo [v]) : Calls Tryz.prog 207 #[v] W fun e w' => e = .returned (.bool false) ∧ Below W.heap.size W w' :=
 beyond1_no A.1 A.2 v 0 W h.1 hf h.2.1 h.2.2
theorem beyond_none (w : World) : Calls Tryz.prog 113 #[noEf] w fun e w' => e = .returned (.bool false) ∧ Below w.heap.size w w' :=
 beyond_no _ _ _ w (fun W hW => (terms_none W).mono fun e w' h => ⟨none, 0, 0, h.1, by decide, fun i hi => absurd hi (Nat.not_lt_zero _), h.2⟩) rfl rfl rfl
theorem beyond_pair (A B : Tr) (hA : smallT A) (hB : smallT B) (g : Nat) (ta tb : TypeId) (a b : Value) (w : World) (h0 : w.cell? ⟨g, 0, none⟩ = some (.iface ta a)) (h1 : w.cell? ⟨g, 1, none⟩ = some (.iface tb b)) (hfa : FoIn w 0 A.fo [.iface ta a]) (hfb : FoIn w 0 B.fo [.iface tb b]) :
  Calls Tryz.prog 113 #[efV3 (some ⟨g, 0, none⟩) 1 1] w fun e w' => e = .returned (.bool false) ∧ Below w.heap.size w w' :=
 beyond_no _ _ _ w (fun W hW => (terms_pair g ta tb a b W ((hW.cell (World.block_lt_of_cell? _ _ h0)).trans h0) ((hW.cell (World.block_lt_of_cell? _ _ h1)).trans h1)).mono fun e w' h => by
  obtain ⟨g', cap, h1', h2', h3', hb'⟩ := h; refine ⟨_, 2, cap, h1', by decide, fun i hi => ?_, hb'⟩; have hbw : Below w.heap.size w w' := Below.on hW hb'
  rcases (by omega : i = 0 ∨ i = 1) with rfl | rfl
  ·exact ⟨g', ta, a, rfl, h2', fun V hV => hA.no (hfa.below (Below.on hbw hV))⟩
  ·exact ⟨g', tb, b, rfl, h3', fun V hV => hB.no (hfb.below (Below.on hbw hV))⟩) rfl rfl rfl
theorem beyond_fault (A : Tr) (hA : smallT A) (v : Value) (w : World) (hfa : FoIn w 0 A.fo [v]) :
  Calls Tryz.prog 113 #[.agg #[.slice none 0 0, v, .slice none 0 0]] w fun e w' => e = .returned (.bool false) ∧ Below w.heap.size w w' := by
 obtain ⟨ta, a, rfl⟩ := FoIn.iface (c := A.1) (k := A.2) (r := .nil) hfa
 exact beyond_no _ _ _ w (fun W hW => (terms_fault ta a W).mono fun e w' h => by
  obtain ⟨g', cap, h1', h2', hb'⟩ := h; refine ⟨_, 1, cap, h1', by decide, fun i hi => ?_, hb'⟩
  obtain rfl : i = 0 := by omega
  exact ⟨g', ta, a, rfl, h2', fun V hV => hA.no (hfa.below (Below.on (Below.on hW hb') hV))⟩) rfl rfl rfl
theorem two_ofL {W : World} {p : Option Addr} {A B : Tr} (h : ArgT W p [A, B]) : ∃ g va vb, p = some ⟨g, 0, none⟩ ∧ Two W g va vb ∧ FoIn W 0 A.fo [va] ∧ FoIn W 0 B.fo [vb] := by
 obtain ⟨g, v, rfl, h1, h2⟩ := h 0 (by simp); obtain ⟨g', u, e, h3, h4⟩ := h 1 (by simp)
 obtain rfl : g = g' := by simpa using e
 exact ⟨g, v, u, rfl, ⟨h1, h3⟩, h2, h4⟩
theorem var_of {W : World} {B : Nat} {n : Int} {v : Value} (h : FoIn W B (.node (0, n, []) .nil .nil) [v]) : v = .iface 80 (.int .i64 n) := by
 obtain ⟨v', vr, e, hn, _⟩ := h; obtain ⟨rfl, _⟩ := List.cons.inj e
 rcases hn with ⟨_, rfl⟩ | ⟨h, _⟩ | ⟨h, _⟩ | ⟨h, _⟩
 ·rfl
 all_goals cases h
theorem num_of' {W : World} {B : Nat} {n : Int} {v : Value} (h : FoIn W B (.node (1, n, []) .nil .nil) [v]) : v = .iface 48 (.int .i64 n) := by
 obtain ⟨v', vr, e, hn, _⟩ := h; obtain ⟨rfl, _⟩ := List.cons.inj e
 rcases hn with ⟨h, _⟩ | ⟨_, rfl⟩ | ⟨h, _⟩ | ⟨h, _⟩
 ·cases h
 ·rfl
 all_goals cases h
theorem ok_text : ∀ F : Fo, F.ok → ∀ x ∈ F.cells, x.2.2.length ≤ 100
 | .nil, _, x, hx => by simp [Fo.cells] at hx
 | .node c k r, h, x, hx => by
   simp only [Fo.cells, List.mem_cons, List.mem_append] at hx
   rcases hx with rfl | hx | hx
   ·have := h.1
    simp only [cellB, decide_eq_true_eq] at this
    omega
   ·exact ok_text k h.2.2.2.2.1 x hx
   ·exact ok_text r h.2.2.2.2.2 x hx
theorem smallT.of {A : Tr} (h : A.fo.ok) (hl : A.2.cells.length + 1 ≤ 2000) : smallT A := ⟨h, hl, fun x hx => ok_text A.fo h x (by simpa [Tr.fo, Fo.cells, Tr.cs] using hx)⟩
theorem ind_ok {s : List Int} (hs : s.length ≤ 100) (hb : Byte s) {n : Int} (hn : InB n) : (indT s n).fo.ok := by
 refine ⟨by simp [indT, cellB], fun x hx => ?_, fun _ => rfl, fun e => absurd rfl e, ⟨?_, hb, fun e => by simp at e, fun _ => rfl, trivial, num_ok hn trivial⟩, trivial⟩
 ·simp [indT] at hx; omega
 ·simp [cellB]; omega
theorem errT_small {t : Tr} (h : errOk t) {s : List Int} (hs : s.length ≤ 100) (hb : Byte s) {n : Int} (hn : InB n) : smallT (errT t s n) := by
 have hi := ind_ok hs hb hn; have h1 := h.1; refine smallT.of ⟨by simp [errT, cellB, sErr], fun x hx => ?_, fun _ => by simp [errT, Fo.count, Tr.fo], fun e => absurd rfl e, ⟨h1.1, h1.2.1, h1.2.2.1, h1.2.2.2.1, h1.2.2.2.2.1, hi⟩, trivial⟩ ?_
 ·simp [errT, sErr] at hx; omega
 ·have := h.2
  simp [errT, Fo.cells, indT, Tr.fo]
  omega
def nIs : List Int := [105, 115]
def nEq : List Int := [61, 58, 61]
def nLt : List Int := [60]
def v0T : Tr := ((0, 0, []), .nil)
theorem tab_is : buTab (strOfNums nIs, ((2 : Nat) : Int)) = some 87 := buTab_at 21 (by decide)
theorem tab_eq : buTab (strOfNums nEq, ((2 : Nat) : Int)) = some 88 := buTab_at 22 (by decide)
theorem tab_lt : buTab (strOfNums nLt, ((2 : Nat) : Int)) = some 90 := buTab_at 24 (by decide)
theorem v0T_small : smallT v0T := smallT.of ⟨by simp [v0T, cellB], fun x hx => by simp [v0T] at hx, fun e => by simp [v0T] at e, fun _ => rfl, trivial, trivial⟩ (by simp [v0T, Fo.cells])
theorem numT_small {v : Int} (h : InB v) : smallT (numT v) := smallT.of (num_ok h trivial) (by simp [numT, Fo.cells])
structure BuW (w : World) (a a2 : Addr) (p0 : Option Addr) (n0 c0 : Nat) : Prop where
 fl : w.cell? ⟨2, 0, none⟩ = some (erV a)
 by' : w.cell? ⟨3, 0, none⟩ = some (erV a2)
 et : etG w
 ops : ∀ W, Below w.heap.size w W → Calls Tryz.prog 31 #[.slice p0 n0 c0] W fun e w' => e = .returned (.bool true) ∧ Below W.heap.size W w'
theorem BuW.below {w W : World} {a a2 : Addr} {p0 : Option Addr} {n0 c0 : Nat} (h : BuW w a a2 p0 n0 c0) (hb : Below w.heap.size w W) : BuW W a a2 p0 n0 c0 :=
 ⟨(hb.cell (World.block_lt_of_cell? _ _ h.fl)).trans h.fl, (hb.cell (World.block_lt_of_cell? _ _ h.by')).trans h.by', h.et.below hb, fun W' h' => h.ops W' (Below.on hb h')⟩
def BuOk (w : World) (code : Int) (L R : List (List Cel)) (e : Ending) (w' : World) : Prop := ∃ pl cl pr cr, e = .returned (.tuple #[.agg #[.slice pl L.length cl, .slice pr R.length cr, .slice none 0 0, .slice none 0 0], .int .i64 code]) ∧ CCIn w' pl L ∧ CCIn w' pr R ∧ Below w.heap.size w w'
def XN : Value → Value → Value → World → Prop := fun x0 x1 x2 _ => x0 = .slice none 0 0 ∧ x1 = .nilIface ∧ x2 = .slice none 0 0
def YL (L R : List (List Cel)) : Value → Value → Value → Value → World → Prop := fun v0 v1 v2 v3 W => ∃ B pl cl pr cr, v0 = .slice pl L.length cl ∧ v1 = .slice pr R.length cr ∧ v2 = .slice none 0 0 ∧ v3 = .slice none 0 0 ∧ LS W B pl L.length cl L ∧ LS W B pr R.length cr R
theorem YL.set {L R : List (List Cel)} (v0 v1 v2 v3 : Value) (W : World) (T : Nat) (a b c d : Value) (h : YL L R v0 v1 v2 v3 W) (hT : W.heap[T]? = some (.cells #[.slice none 0 0, .slice none 0 0, .slice none 0 0, .slice none 0 0] 32)) : YL L R v0 v1 v2 v3 (wr4 W T a b c d) := by
 obtain ⟨B, pl, cl, pr, cr, h0, h1, h2, h3, h4, h5⟩ := h; exact ⟨B, pl, cl, pr, cr, h0, h1, h2, h3, wr4_ls h4 hT _ _ _ _, wr4_ls h5 hT _ _ _ _⟩
theorem YL.out {w : World} {code : Int} {L R : List (List Cel)} {e : Ending} {w' : World} (h : ∃ v0 v1 v2 v3, e = .returned (.tuple #[.agg #[v0, v1, v2, v3], .int .i64 code]) ∧ YL L R v0 v1 v2 v3 w' ∧ Below w.heap.size w w') : BuOk w code L R e w' := by
 obtain ⟨v0, v1, v2, v3, rfl, ⟨B, pl, cl, pr, cr, rfl, rfl, rfl, rfl, h4, h5⟩, hb⟩ := h; exact ⟨pl, cl, pr, cr, rfl, h4.ccin, h5.ccin, hb⟩
theorem inCells_none (W : World) (x0 x1 x2 : Value) (h : XN x0 x1 x2 W) : Calls Tryz.prog 33 #[.agg #[x0, x1, x2]] W fun e w' => ∃ v0 v1 v2 v3, e = .returned (.agg #[v0, v1, v2, v3]) ∧ v0.oneCell' = true ∧ v1.oneCell' = true ∧ v2.oneCell' = true ∧ v3.oneCell' = true ∧ YL [] [] v0 v1 v2 v3 w' ∧ Below W.heap.size W w' := by
 obtain ⟨rfl, rfl, rfl⟩ := h
 refine (inCells_pairs none 0 0 none 0 0 [] W rfl (by decide) (fun t h => by cases h) (fun i hi => absurd hi (Nat.not_lt_zero _))).mono fun e w' h => ?_
 obtain ⟨pl, cl, pr, cr, rfl, h1, h2, hb⟩ := h; exact ⟨_, _, _, _, rfl, rfl, rfl, rfl, rfl, ⟨_, pl, cl, pr, cr, rfl, rfl, rfl, rfl, h1, h2⟩, hb⟩
structure AB2 (w : World) (pn : Option Addr) (s : List Int) (pa : Option Addr) (A B : Tr) : Prop where
 nm : BIn w pn s
 ar : ArgsB w pa [A, B]
 ok : okTs [A, B]
set_option maxHeartbeats 1000000 in
theorem bu_lt {w : World} {a a2 : Addr} {p0 : Option Addr} {n0 c0 : Nat} (H : BuW w a a2 p0 n0 c0) (pn : Option Addr) (cn : Nat) (pa : Option Addr) (ca : Nat) (v : Int) (A : Tr) (hv : InB v) (hA : AB2 w pn nLt pa (numT v) A) (hev : evT A = .ok v) (hev0 : evT (numT v) = .ok v) :
  Calls Tryz.prog 9 #[.slice p0 n0 c0, .slice pn 1 cn, .slice pa 2 ca, .int .i64 9] w (BuOk w 4 [] []) := by
 refine (builtin_by 90 p0 n0 c0 pn nLt 1 cn pa 2 ca [numT v, A] 9 4 XN (YL [] []) w rfl (by decide) hA.nm rfl (by decide) hA.ok hA.ar (by decide) (by decide) tab_lt H.ops ?_ (fun _ _ _ _ _ h _ => h) ?_ (fun v0 v1 v2 v3 W T a b c d => YL.set v0 v1 v2 v3 W T a b c d)).mono fun e w' h => YL.out h
 ·intro W b p c hW hM hT
  obtain ⟨g, va, vb, rfl, h2, hfa, hfb⟩ := two_ofL hT; obtain rfl := num_of' (n := v) hfa; have HW := H.below hW
  refine (run_fails 90 b 92 (strOfNums nLt) 2 buTab (.slice p0 n0 c0) (.slice (some ⟨g, 0, none⟩) 2 c) (.int .i64 9) a W hM ⟨by decide, by decide⟩ tab_lt rfl rfl rfl HW.fl (fun W => by kernel_rfl) (fun V hV => ?_)).mono fun e w' h => ⟨_, _, _, h.1, rfl, rfl, rfl, ⟨rfl, rfl, rfl⟩, h.2⟩
  have HV := HW.below hV; exact isLess_any a v A.1 A.2 vb 0 g c n0 c0 p0 9 V (num_ok hv trivial) (hA.ok 1 (by simp)).1 (hfb.below hV) HV.et HV.fl (h2.below hV) hev hev0
 ·exact fun W x0 x1 x2 hW hX => inCells_none W x0 x1 x2 hX
set_option maxHeartbeats 1000000 in
theorem bu_eq {w : World} {a a2 : Addr} {p0 : Option Addr} {n0 c0 : Nat} (H : BuW w a a2 p0 n0 c0) (pn : Option Addr) (cn : Nat) (pa : Option Addr) (ca : Nat) (v : Int) (A : Tr) (hv : InB v) (hA : AB2 w pn nEq pa (numT v) A) (hev : evT A = .ok v) (hev0 : evT (numT v) = .ok v) :
  Calls Tryz.prog 9 #[.slice p0 n0 c0, .slice pn 3 cn, .slice pa 2 ca, .int .i64 9] w (BuOk w 0 [] []) := by
 refine (builtin_by 88 p0 n0 c0 pn nEq 3 cn pa 2 ca [numT v, A] 9 0 XN (YL [] []) w rfl (by decide) hA.nm rfl (by decide) hA.ok hA.ar (by decide) (by decide) tab_eq H.ops ?_ (fun _ _ _ _ _ h _ => h) ?_ (fun v0 v1 v2 v3 W T a b c d => YL.set v0 v1 v2 v3 W T a b c d)).mono fun e w' h => YL.out h
 ·intro W b p c hW hM hT
  obtain ⟨g, va, vb, rfl, h2, hfa, hfb⟩ := two_ofL hT; obtain rfl := num_of' (n := v) hfa; have HW := H.below hW
  refine (run_holds 88 b 92 (strOfNums nEq) 2 buTab (.slice p0 n0 c0) (.slice (some ⟨g, 0, none⟩) 2 c) (.int .i64 9) a a2 (fun p n c _ => p = none ∧ n = 0 ∧ c = 0) W hM ⟨by decide, by decide⟩ tab_eq rfl rfl rfl HW.fl HW.by' (fun p n c V h => by obtain ⟨rfl, rfl, rfl⟩ := h; exact beyond_none V) (fun W => by kernel_rfl) (fun V hV => ?_)).mono fun e w' h => ?_
  ·have HV := HW.below hV
   exact (isEqual_any a v A.1 A.2 vb 0 g c n0 c0 p0 9 V (num_ok hv trivial) (hA.ok 1 (by simp)).1 (hfb.below hV) HV.et HV.fl (h2.below hV) hev hev0).mono fun e w' h => ⟨none, 0, 0, h.1, h.2, fun _ _ => ⟨rfl, rfl, rfl⟩⟩
  ·obtain ⟨p, n, c, rfl, hb, rfl, rfl, rfl⟩ := h
   exact ⟨_, _, _, rfl, rfl, rfl, rfl, ⟨rfl, rfl, rfl⟩, hb⟩
 ·exact fun W x0 x1 x2 hW hX => inCells_none W x0 x1 x2 hX
def XI (v : Int) : Value → Value → Value → World → Prop := fun x0 x1 x2 W => ∃ g, x0 = .slice (some ⟨g, 0, none⟩) 1 1 ∧ x1 = .nilIface ∧ x2 = .slice none 0 0 ∧ W.cell? ⟨g, 0, none⟩ = some (.iface 80 (.int .i64 0)) ∧ W.cell? ⟨g, 1, none⟩ = some (.iface 48 (.int .i64 v))
set_option maxHeartbeats 1000000 in
theorem bu_is {w : World} {a a2 : Addr} {p0 : Option Addr} {n0 c0 : Nat} (H : BuW w a a2 p0 n0 c0) (pn : Option Addr) (cn : Nat) (pa : Option Addr) (ca : Nat) (v : Int) (A : Tr) (hv : InB v) (hA : AB2 w pn nIs pa v0T A) (hev : evT A = .ok v) :
  Calls Tryz.prog 9 #[.slice p0 n0 c0, .slice pn 2 cn, .slice pa 2 ca, .int .i64 9] w (BuOk w 0 [[(0, 0, [])]] [[(1, v, [])]]) := by
 have hvar : ∀ V : World, FoIn V 0 v0T.fo [.iface 80 (.int .i64 0)] := fun V => ⟨_, [], rfl, .inl ⟨rfl, rfl⟩, rfl⟩
 have hnum : ∀ V : World, FoIn V 0 (numT v).fo [.iface 48 (.int .i64 v)] := fun V => num_in rfl
 refine (builtin_by 87 p0 n0 c0 pn nIs 2 cn pa 2 ca [v0T, A] 9 0 (XI v) (YL [[(0, 0, [])]] [[(1, v, [])]]) w rfl (by decide) hA.nm rfl (by decide) hA.ok hA.ar (by decide) (by decide) tab_is H.ops ?_ ?_ ?_ (fun v0 v1 v2 v3 W T a b c d => YL.set v0 v1 v2 v3 W T a b c d)).mono fun e w' h => YL.out h
 ·intro W b p c hW hM hT
  obtain ⟨g, va, vb, rfl, h2, hfa, hfb⟩ := two_ofL hT; obtain rfl := var_of (n := 0) hfa; have HW := H.below hW
  refine (run_holds 87 b 92 (strOfNums nIs) 2 buTab (.slice p0 n0 c0) (.slice (some ⟨g, 0, none⟩) 2 c) (.int .i64 9) a a2 (fun p n c V => ∃ g, p = some ⟨g, 0, none⟩ ∧ n = 1 ∧ c = 1 ∧ V.cell? ⟨g, 0, none⟩ = some (.iface 80 (.int .i64 0)) ∧ V.cell? ⟨g, 1, none⟩ = some (.iface 48 (.int .i64 v))) W hM ⟨by decide, by decide⟩ tab_is rfl rfl rfl HW.fl HW.by' (fun p n c V h => ?_) (fun W => by kernel_rfl) (fun V hV => ?_)).mono fun e w' h => ?_
  ·obtain ⟨g, rfl, rfl, rfl, h0, h1⟩ := h
   exact beyond_pair v0T (numT v) v0T_small (numT_small hv) g _ _ _ _ V h0 h1 (hvar V) (hnum V)
  ·have HV := HW.below hV
   refine (is_any A.1 A.2 80 (.int .i64 0) vb 0 g c n0 c0 p0 9 V (hA.ok 1 (by simp)).1 (hfb.below hV) HV.et (h2.below hV)).mono fun e w' h => ?_
   rw [hev] at h; obtain ⟨g', rfl, hg, k0, k1, hb⟩ := h; exact ⟨_, 1, 1, rfl, hb, fun U hU => ⟨g', rfl, rfl, rfl, (World.cell?_of_block (a := ⟨g', 0, none⟩) (hU.2 g' hg (World.block_lt_of_cell? _ _ k0))).trans k0, (World.cell?_of_block (a := ⟨g', 1, none⟩) (hU.2 g' hg (World.block_lt_of_cell? _ _ k0))).trans k1⟩⟩
  ·obtain ⟨p, n, c, rfl, hb, g, rfl, rfl, rfl, h0, h1⟩ := h
   exact ⟨_, _, _, rfl, rfl, rfl, rfl, ⟨g, rfl, rfl, rfl, h0, h1⟩, hb⟩
 ·rintro x0 x1 x2 W W' ⟨g, rfl, rfl, rfl, h0, h1⟩ hb
  exact ⟨g, rfl, rfl, rfl, (hb.cell (World.block_lt_of_cell? _ _ h0)).trans h0, (hb.cell (World.block_lt_of_cell? _ _ h1)).trans h1⟩
 ·rintro W x0 x1 x2 hW ⟨g, rfl, rfl, rfl, h0, h1⟩
  refine (inCells_pairs (some ⟨g, 0, none⟩) 1 1 none 0 0 [(v0T, numT v)] W rfl (by decide) (fun t h => ?_) (fun i hi => ?_)).mono fun e w' h => ?_
  ·obtain rfl : t = (v0T, numT v) := by simpa using h
   exact ⟨v0T_small.1, by simp [v0T, Fo.cells], (numT_small hv).1, by simp [numT, Fo.cells]⟩
  ·obtain rfl : i = 0 := by simp at hi; exact hi
   exact ⟨g, _, _, rfl, h0, h1, hvar W, hnum W⟩
  ·obtain ⟨pl, cl, pr, cr, rfl, h1, h2, hb⟩ := h
   exact ⟨_, _, _, _, rfl, rfl, rfl, rfl, rfl, ⟨_, pl, cl, pr, cr, rfl, rfl, rfl, rfl, h1, h2⟩, hb⟩
set_option maxHeartbeats 1000000 in
theorem bu_er {w : World} {a a2 : Addr} {p0 : Option Addr} {n0 c0 : Nat} (H : BuW w a a2 p0 n0 c0) (pn : Option Addr) (cn : Nat) (pa : Option Addr) (ca : Nat) (t A : Tr) (hA : AB2 w pn nIs pa v0T A) (hev : evT A = .error t) :
  Calls Tryz.prog 9 #[.slice p0 n0 c0, .slice pn 2 cn, .slice pa 2 ca, .int .i64 9] w (fun e w' => ∃ q m c B, e = .returned (.tuple #[.agg #[.slice none 0 0, .slice none 0 0, .slice q m c, .slice none 0 0], .int .i64 6]) ∧ OwnC w' B q m c (errT t nIs 2).cs ∧ Below w.heap.size w w') := by
 have hsm := errT_small (errOk_evT (c := A.1) (k := A.2) (hA.ok 1 (by simp)).1 hev) (s := nIs) (by decide) (fun x hx => by simp [nIs] at hx; omega) (n := 2) (by unfold InB; decide)
 refine (builtin_by 87 p0 n0 c0 pn nIs 2 cn pa 2 ca [v0T, A] 9 6 (fun x0 x1 x2 W => x0 = .slice none 0 0 ∧ x2 = .slice none 0 0 ∧ x1.oneCell' = true ∧ FoIn W 0 (errT t nIs 2).fo [x1]) (fun v0 v1 v2 v3 W => ∃ q m c B, v0 = .slice none 0 0 ∧ v1 = .slice none 0 0 ∧ v2 = .slice q m c ∧ v3 = .slice none 0 0 ∧ OwnC W B q m c (errT t nIs 2).cs) w rfl (by decide) hA.nm rfl (by decide) hA.ok hA.ar (by decide) (by decide) tab_is H.ops ?_ ?_ ?_ ?_).mono fun e w' h => ?_
 ·intro W b p c hW hM hT
  obtain ⟨g, va, vb, rfl, h2, hfa, hfb⟩ := two_ofL hT; obtain rfl := var_of (n := 0) hfa; have HW := H.below hW
  refine (run_error 87 b 92 nIs (strOfNums nIs) t 2 buTab (.slice p0 n0 c0) (.slice (some ⟨g, 0, none⟩) 2 c) (.int .i64 9) a a2 W hM ⟨by decide, by decide⟩ tab_is rfl rfl rfl HW.fl HW.by' rfl HW.et (fun v V h => beyond_fault _ hsm v V h) (fun W => by kernel_rfl) (fun V hV => ?_)).mono fun e w' h => ?_
  ·have HV := HW.below hV
   refine (is_any A.1 A.2 80 (.int .i64 0) vb 0 g c n0 c0 p0 9 V (hA.ok 1 (by simp)).1 (hfb.below hV) HV.et (h2.below hV)).mono fun e w' h => ?_
   rw [hev] at h; obtain ⟨tv, rfl, hf, hb⟩ := h; obtain ⟨ty, x, rfl⟩ := FoIn.iface (c := t.1) (k := t.2) (r := .nil) hf; exact ⟨ty, x, rfl, hb, hf⟩
  ·obtain ⟨v, rfl, hf, hb⟩ := h
   obtain ⟨ty, x, rfl⟩ := FoIn.iface (c := (errT t nIs 2).1) (k := (errT t nIs 2).2) (r := .nil) hf; exact ⟨_, _, _, rfl, rfl, rfl, rfl, ⟨rfl, rfl, rfl, hf⟩, hb⟩
 ·rintro x0 x1 x2 W W' ⟨rfl, rfl, h1, hf⟩ hb
  exact ⟨rfl, rfl, h1, hf.below hb⟩
 ·rintro W x0 x1 x2 hW ⟨rfl, rfl, h1, hf⟩
  refine (inCells_fault (errT t nIs 2) x1 W hsm.1 (by have := hsm.2.1; omega) hf).mono fun e w' h => ?_
  obtain ⟨q, m, c, rfl, ho, hb⟩ := h; exact ⟨_, _, _, _, rfl, rfl, rfl, rfl, rfl, ⟨q, m, c, _, rfl, rfl, rfl, rfl, ho⟩, hb⟩
 ·rintro v0 v1 v2 v3 W T a b c d ⟨q, m, c, B, rfl, rfl, rfl, rfl, ho⟩ hT
  exact ⟨q, m, c, B, rfl, rfl, rfl, rfl, wr4_own ho hT _ _ _ _⟩
 ·obtain ⟨v0, v1, v2, v3, rfl, ⟨q, m, c, B, rfl, rfl, rfl, rfl, ho⟩, hb⟩ := h
  exact ⟨q, m, c, B, rfl, ho, hb⟩
theorem leafX_byte (xs : List Int) (k i : Nat) : ByteC (leafX xs k i).1 := by
 unfold leafX
 split
 ·exact drawT_byte xs 1 i
 ·exact ByteC.cons (fun x hx => by cases hx) ByteC.nil
theorem exprN_byte (xs : List Int) (f : Nat → List Cel × Nat) (hf : ∀ i, ByteC (f i).1) (i : Nat) : ByteC (exprN xs f i).1 := by
 unfold exprN
 dsimp only
 split
 ·exact leafX_byte _ _ _
 split
 ·exact ByteC.cons (byte_numsU _) (hf _)
 ·exact ByteC.cons (byte_numsU _) ((hf _).app (hf _))
theorem drawX_byte (xs : List Int) : ∀ (d i : Nat), ByteC (drawX xs d i).1
 | 0, i => leafX_byte _ _ _
 | d + 1, i => exprN_byte xs _ (drawX_byte xs d) i
theorem evD_fine (ys : List Int) : (evD ys).length ≤ 2001 ∧ tl (evD ys) ≤ 12000 ∧ ByteC (evD ys) := by
 unfold evD
 split
 ·have := anyF_mid ys (rdN ys 0)
  exact ⟨this.1.len, this.1.txt, this.2⟩
 ·have h := drawX_sml ys 4 (rdN ys 0)
  have := h.len; have := h.txt; exact ⟨by omega, by omega, drawX_byte ys 4 _⟩
def opT (s : List Int) (a b : Int) : Tr := ((3, 2, s), .node (1, a, []) .nil (.node (1, b, []) .nil .nil))
theorem opT_ev (s : List Int) (a b : Int) (hs : s ∈ twos) : evT (opT s a b) = bndE (op2 s a b) := by
 have hk : knownB s 2 = true := by simp [knownB, hs]
 have e1 : evC (1, a, []) [] = .ok a := rfl; have e2 : evC (1, b, []) [] = .ok b := rfl
 simp [evT, opT, evF, e1, e2]
 unfold evC
 simp [hk, seqE, opV]
theorem opT_ok {s : List Int} {a b : Int} (hl : s.length ≤ 100) (hb : Byte s) (ha : InB a) (hb' : InB b) : (opT s a b).fo.ok :=
 ⟨by simp [opT, cellB]; omega, hb, fun _ => rfl, fun e => absurd rfl e, num_ok ha (num_ok hb' trivial), trivial⟩
theorem opT_valid {s : List Int} {a b : Int} (hl : s.length ≤ 100) (ha : InB a) (hb : InB b) : validB (opT s a b).cs = true := by
 unfold InB at ha hb
 simp [opT, Tr.cs, Fo.cells, validB, validFrom, cellB, grows]
 omega
theorem numT_valid {v : Int} (h : InB v) : validB (numT v).cs = true := by
 unfold InB at h
 simp [numT, Tr.cs, Fo.cells, validB, validFrom, cellB, grows]
 omega
theorem v0T_valid : validB v0T.cs = true := by decide
theorem numT_ev (v : Int) : evT (numT v) = .ok v := rfl
theorem opT_val {s : List Int} {a b v : Int} (hs : s ∈ twos) (h : op2 s a b = .ok v) (hv : InB v) : evZ (evT (opT s a b)) = ([(1, v, [])], 0) := by
 rw [opT_ev s a b hs, h]
 simp [bndE, hv, evZ]
theorem opT_err {s : List Int} {a b : Int} {t : Tr} (hs : s ∈ twos) (h : op2 s a b = .error t) : (evZ (evT (opT s a b))).2 = 6 := by
 rw [opT_ev s a b hs, h]
 simp [bndE, evZ]
def TmC (w : World) (q : Option Addr) (m c : Nat) (cs : List Cel) : Prop := m = cs.length ∧ CIn w q cs ∧ m ≤ c ∧ c ≤ 9223372036854775807
theorem TmC.below {w w' : World} {q : Option Addr} {m c : Nat} {cs : List Cel} (h : TmC w q m c cs) (hb : Below w.heap.size w w') : TmC w' q m c cs := ⟨h.1, h.2.1.below hb, h.2.2⟩
theorem TmIn.tmc {w : World} {q : Option Addr} {m c : Nat} {cs : List Cel} (h : TmIn w q m c cs) : TmC w q m c cs := ⟨h.1, h.2.1, h.2.2.2.2.1, h.2.2.2.2.2⟩
theorem OwnC.tmc {w : World} {B m c : Nat} {q : Option Addr} {cs : List Cel} (h : OwnC w B q m c cs) : TmC w q m c cs := ⟨h.1, h.cin, by obtain ⟨_, rs, _, ho, _⟩ := h; exact rowcap ho⟩
theorem mkAB {w : World} {pn : Option Addr} {s : List Int} {rb m0 c0 m1 c1 : Nat} {q0 q1 : Option Addr} {A0 A : Tr} (hB : BIn w pn s) (hr : w.heap[rb]? = some (.cells #[.slice q0 m0 c0, .slice q1 m1 c1] 23)) (h0 : TmC w q0 m0 c0 A0.cs) (h1 : TmC w q1 m1 c1 A.cs)
  (o0 : A0.fo.ok) (o1 : A.fo.ok) (v0 : validB A0.cs = true) (v1 : validB A.cs = true) : AB2 w pn s (some ⟨rb, 0, none⟩) A0 A := by
 have l : ∀ {X : Tr}, validB X.cs = true → X.cs.length ≤ 2001 := fun h => by
  simp only [validB, Bool.and_eq_true, decide_eq_true_eq] at h
  omega
 refine ⟨hB, fun i hi => ?_, fun i hi => ?_⟩
 ·rcases (by simp at hi; omega : i = 0 ∨ i = 1) with rfl | rfl
  ·exact ⟨rb, q0, c0, rfl, by show _ = some (Value.slice q0 A0.cs.length c0); rw [← h0.1]; exact cell_of_row _ _ 0 _ _ _ hr, h0.2.1, by show A0.cs.length ≤ c0; rw [← h0.1]; exact h0.2.2.1, h0.2.2.2⟩
  ·exact ⟨rb, q1, c1, rfl, by show _ = some (Value.slice q1 A.cs.length c1); rw [← h1.1]; exact cell_of_row _ _ 1 _ _ _ hr, h1.2.1, by show A.cs.length ≤ c1; rw [← h1.1]; exact h1.2.2.1, h1.2.2.2⟩
 ·rcases (by simp at hi; omega : i = 0 ∨ i = 1) with rfl | rfl
  ·exact ⟨o0, v0, l v0⟩
  ·exact ⟨o1, v1, l v1⟩
theorem tabFe : tabB dTab = true := by decide +kernel
structure CodeIn (w : World) (p : Option Addr) (cap n : Nat) (xs : List Int) : Prop where
 byt : Bytes xs
 len : n = xs.length
 small : xs.length ≤ 1048576
 room : xs.length ≤ cap
 bin : BIn w p xs
structure FeW (w : World) (a a2 : Addr) : Prop where
 fl : w.cell? ⟨2, 0, none⟩ = some (erV a)
 by' : w.cell? ⟨3, 0, none⟩ = some (erV a2)
 et : etG w
 sp : SpIn w
theorem FeW.below {w W : World} {a a2 : Addr} (h : FeW w a a2) (hb : Below w.heap.size w W) : FeW W a a2 :=
 ⟨(hb.cell (World.block_lt_of_cell? _ _ h.fl)).trans h.fl, (hb.cell (World.block_lt_of_cell? _ _ h.by')).trans h.by', h.et.below hb, fun c hc => (hb.cell (World.block_lt_of_cell? _ _ (h.sp c hc))).trans (h.sp c hc)⟩
theorem FeW.ops {W : World} {a a2 : Addr} (h : FeW W a a2) : Calls Tryz.prog 8 #[] W fun e w' => ∃ p0 n0 c0, e = .returned (.slice p0 n0 c0) ∧ BuW w' a a2 p0 n0 c0 ∧ Below W.heap.size W w' :=
 (implDef_any W h.sp).mono fun e w' hh => by
   obtain ⟨p0, n0, c0, rfl, ho, hb⟩ := hh; have h' := h.below hb; refine ⟨p0, n0, c0, rfl, ⟨h'.fl, h'.by', h'.et, fun W' hW => ?_⟩, hb⟩; have := implTab_any p0 c0 dTab W' (by decide +kernel) ((ho.below hW).oin); rw [tabFe, ← ho.1] at this; exact this
theorem bin_lit (w : World) (s : List Int) (C : Array Value) (fz : Nat × Nat) (hl : C.toList = s.map (Value.int .u8)) : BIn (w.alloc (.cells C 5 fz)) (some ⟨w.heap.size, 0, none⟩) s := fun _ => ⟨w.heap.size, 0, rfl, fun i hi => by
 rw [cell_of_row _ _ (0 + i) _ _ _ (heap_alloc_new w _)]; rw [Nat.zero_add, ← Array.getElem?_toList, hl, List.getElem?_map, List.getElem?_eq_getElem hi]
 simp [List.getD, List.getElem?_eq_getElem hi]⟩
theorem CIn.partL {w : World} {b o : Nat} {cs a m r : List Cel} (h : CIn w (some ⟨b, o, none⟩) cs) (e : cs = a ++ (m ++ r)) : CIn w (some ⟨b, o + a.length * 3, none⟩) m := fun hm => by
 obtain ⟨b', o', e', hc⟩ := h (by rw [e]; simp; omega)
 cases e'
 refine ⟨b, o + a.length * 3, rfl, fun i hi => ?_⟩; have := hc (a.length + i) (by rw [e]; simp; omega); rw [show o + (a.length + i) * 3 = o + a.length * 3 + i * 3 by omega] at this
 have e2 : cs.getD (a.length + i) Cel.none = m.getD i Cel.none := by
  rw [e, List.getD, List.getElem?_append_right (by omega), show a.length + i - a.length = i by omega, List.getElem?_append_left hi, List.getD]
 rwa [e2] at this
theorem conv2L (w : World) (x y : Int) : (convert 22 22 (.slice (some ⟨w.heap.size, 0, none⟩) 2 2)).run Tryz.prog (w.alloc (.cells #[.int .u8 x, .int .u8 y] 5)) = .ok (.slice (some ⟨w.heap.size, 0, none⟩) 2 2) (w.alloc (.cells #[.int .u8 x, .int .u8 y] 5 (2, 3))) :=
 Lib.run_convert_bytes_const (P := Tryz.prog) w 22 5 #[.int .u8 x, .int .u8 y] 2 2 Tryz.underlying22 Tryz.underlying5
theorem conv3L (w : World) (x y z : Int) : (convert 22 22 (.slice (some ⟨w.heap.size, 0, none⟩) 3 3)).run Tryz.prog (w.alloc (.cells #[.int .u8 x, .int .u8 y, .int .u8 z] 5)) = .ok (.slice (some ⟨w.heap.size, 0, none⟩) 3 3) (w.alloc (.cells #[.int .u8 x, .int .u8 y, .int .u8 z] 5 (3, 4))) :=
 Lib.run_convert_bytes_const (P := Tryz.prog) w 22 5 #[.int .u8 x, .int .u8 y, .int .u8 z] 3 3 Tryz.underlying22 Tryz.underlying5
theorem conv1L (w : World) (x : Int) : (convert 22 22 (.slice (some ⟨w.heap.size, 0, none⟩) 1 1)).run Tryz.prog (w.alloc (.cells #[.int .u8 x] 5)) = .ok (.slice (some ⟨w.heap.size, 0, none⟩) 1 1) (w.alloc (.cells #[.int .u8 x] 5 (1, 2))) :=
 Lib.run_convert_bytes_const (P := Tryz.prog) w 22 5 #[.int .u8 x] 1 1 Tryz.underlying22 Tryz.underlying5
def opN : List (List UInt8) := [[43], [45], [42], [47, 47], [109, 111, 100], [114, 101, 109]]
def opS (i : Nat) : List Int := numsU (opN.getD i [])
theorem opS_two (i : Nat) (h : i < 6) : opS i ∈ twos := by
 rcases (by omega : i = 0 ∨ i = 1 ∨ i = 2 ∨ i = 3 ∨ i = 4 ∨ i = 5) with rfl | rfl | rfl | rfl | rfl | rfl <;> decide
theorem opS_len (i : Nat) (h : i < 6) : (opS i).length ≤ 100 := by
 rcases (by omega : i = 0 ∨ i = 1 ∨ i = 2 ∨ i = 3 ∨ i = 4 ∨ i = 5) with rfl | rfl | rfl | rfl | rfl | rfl <;> decide
theorem opS_byte (i : Nat) : Byte (opS i) := byte_numsU _
theorem evOp {W : World} (hE : etG W) (i : Nat) (hi : i < 6) {a b : Int} (ha : InB a) (hb : InB b) {q : Option Addr} {m c : Nat} (h : TmC W q m c (opT (opS i) a b).cs) :
  Calls Tryz.prog 6 #[.slice q m c] W (EvalOut W (evZ (evT (opT (opS i) a b)))) := by
 have hm : m = 3 := by rw [h.1]; rfl
 exact implEval_any (opT (opS i) a b).1 (opT (opS i) a b).2 q m c W (opT_ok (opS_len i hi) (opS_byte i) ha hb) (by rw [hm]; rfl) (by omega) h.2.2.1 h.2.2.2 (opT_valid (opS_len i hi) ha hb) h.2.1 hE
theorem pair_num {W : World} (i : Nat) (hi : i < 6) (a b : Int) {q1 q2 : Option Addr} {m1 c1 m2 c2 : Nat} (h1 : TmIn W q1 m1 c1 [(1, a, [])]) (h2 : TmIn W q2 m2 c2 [(1, b, [])]) :
  Calls Tryz.prog 12 #[.string (strOfNums (opS i)), .slice q1 m1 c1, .slice q2 m2 c2] W fun e w' => ∃ q m c, e = .returned (.slice q m c) ∧ TmC w' q m c (opT (opS i) a b).cs ∧ Below W.heap.size W w' := by
 have hAL : Below W.heap.size W (W.alloc (.cells #[.slice q1 m1 c1, .slice q2 m2 c2] 23)) := (Below.refl _ _).alloc (Nat.le_refl _) _; have hnw := heap_alloc_new W (Obj.cells #[.slice q1 m1 c1, .slice q2 m2 c2] 23)
 have hr : RowsIn (W.alloc (.cells #[.slice q1 m1 c1, .slice q2 m2 c2] 23)) W.heap.size [[(1, a, [])], [(1, b, [])]] :=
  rows_two (q := q1) (c := c1) (q' := q2) (c' := c2) (by rw [← h1.1]; exact cell_of_row _ _ 0 _ _ _ hnw) (h1.2.1.below hAL) (by simp) (by simp [tl]) (by rw [← h2.1]; exact cell_of_row _ _ 1 _ _ _ hnw) (h2.2.1.below hAL) (by simp) (by simp [tl])
 have HC := comp_anyL (opS i) (opS_byte i) (by have := opS_len i hi; omega) W.heap.size 2 2 [[(1, a, [])], [(1, b, [])]] (W.alloc (.cells #[.slice q1 m1 c1, .slice q2 m2 c2] 23)) rfl (by decide) hr; have HB : Hid (Below W.heap.size W (W.alloc (.cells #[.slice q1 m1 c1, .slice q2 m2 c2] 23))) := hAL; clear hAL hnw hr h1 h2
 go_enter Tryz.func12, Tryz.ntmps12
 go_wp2_with fail; refine HC.mono ?_; rintro e w2 ⟨q, m, c, rfl, hm, hc, hb, hmc, hcm⟩
 have HT : Hid (TmC w2 q m c (opT (opS i) a b).cs) := ⟨by rw [hm]; rfl, hc, hmc, hcm⟩
 have HB2 : Hid (Below W.heap.size W w2) := Below.on HB.out hb; clear hm hc hb hmc hcm HC; go_wp2_with fail; go_ret; exact ⟨q, m, c, rfl, HT.out, HB2.out⟩
def opVal (i : Nat) (a b : Int) : Int := if i = 0 then a + b else if i = 1 then a - b else if i = 2 then a * b else if i = 3 then a.tdiv b else if i = 4 then (a.tmod b + b).tmod b else a.tmod b
theorem opVal_in {a b : Int} (ha : -40000 ≤ a ∧ a ≤ 40000) (hb : -600 ≤ b ∧ b ≤ 600) (i : Nat) (hi : i < 6) (h0 : 2 < i → b ≠ 0) : op2 (opS i) a b = .ok (opVal i a b) ∧ InB (opVal i a b) := by
 have hp : -24000000 ≤ a * b ∧ a * b ≤ 24000000 := by
  have h : (a * b).natAbs = a.natAbs * b.natAbs := Int.natAbs_mul a b; have h2 : a.natAbs * b.natAbs ≤ 40000 * 600 := Nat.mul_le_mul (by omega) (by omega)
  omega
 have hq : (a.tdiv b).natAbs ≤ a.natAbs := by rw [Int.natAbs_tdiv]; exact Nat.div_le_self _ _
 have hr : b ≠ 0 → (a.tmod b).natAbs < b.natAbs := fun h => by rw [Int.natAbs_tmod]; exact Nat.mod_lt _ (by omega)
 have hr2 : b ≠ 0 → ((a.tmod b + b).tmod b).natAbs < b.natAbs := fun h => by rw [Int.natAbs_tmod]; exact Nat.mod_lt _ (by omega)
 unfold InB
 rcases (by omega : i = 0 ∨ i = 1 ∨ i = 2 ∨ i = 3 ∨ i = 4 ∨ i = 5) with rfl | rfl | rfl | rfl | rfl | rfl
 ·exact ⟨rfl, by simp only [opVal]; simp; omega⟩
 ·exact ⟨rfl, by simp only [opVal]; simp; omega⟩
 ·exact ⟨rfl, by simp only [opVal]; simp; omega⟩
 ·have hb0 := h0 (by decide)
  refine ⟨?_, by simp only [opVal]; simp; omega⟩
  show op2 [47, 47] a b = _
  simp [op2, hb0, opVal]
 ·have hb0 := h0 (by decide)
  have := hr2 hb0; refine ⟨?_, by simp only [opVal]; simp; omega⟩
  show op2 [109, 111, 100] a b = _
  simp [op2, hb0, opVal]
 ·have hb0 := h0 (by decide)
  have := hr hb0; refine ⟨?_, by simp only [opVal]; simp; omega⟩
  show op2 [114, 101, 109] a b = _
  simp [op2, hb0, opVal]
theorem op_zero {a b : Int} (i : Nat) (hi : i < 6) (h2 : 2 < i) (h0 : b = 0) : op2 (opS i) a b = .error zeroT := by
 subst h0
 rcases (by omega : i = 3 ∨ i = 4 ∨ i = 5) with rfl | rfl | rfl
 ·show op2 [47, 47] a 0 = _
  simp [op2]
 ·show op2 [109, 111, 100] a 0 = _
  simp [op2]
 ·show op2 [114, 101, 109] a 0 = _
  simp [op2]
theorem ab_rng {x y z : Int} (hx : 0 ≤ x ∧ x ≤ 255) (hy : 0 ≤ y ∧ y ≤ 255) (hz : 0 ≤ z ∧ z ≤ 255) : -32768 ≤ (x - 128) * (y + 1) ∧ (x - 128) * (y + 1) ≤ 32768 := by
 have h : ((x - 128) * (y + 1)).natAbs = (x - 128).natAbs * (y + 1).natAbs := Int.natAbs_mul _ _; have h2 : (x - 128).natAbs * (y + 1).natAbs ≤ 128 * 256 := Nat.mul_le_mul (by omega) (by omega)
 omega
theorem b_rng {x y : Int} (hx : 0 ≤ x ∧ x ≤ 255) (hy : 0 ≤ y ∧ y ≤ 255) : -512 ≤ (x - 128) * (y % 4 + 1) ∧ (x - 128) * (y % 4 + 1) ≤ 512 := by
 have h : ((x - 128) * (y % 4 + 1)).natAbs = (x - 128).natAbs * (y % 4 + 1).natAbs := Int.natAbs_mul _ _; have h2 : (x - 128).natAbs * (y % 4 + 1).natAbs ≤ 128 * 4 := Nat.mul_le_mul (by omega) (by omega)
 omega
end Go.Proofs.YtkklidpnkofipaaGreatDoor
