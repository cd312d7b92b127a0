/- Texts of UnS, Stk1, StrI. Own work of the verifier. -/
import Derived.Test.YtedlcmkhbccjgaaUqam
import Derived.RegionTactic
import Derived.ChangeAlike
import Derived.Test.YtedlcmkhbccjgaaUqah
import Derived.Test.YtedlcmkhbccjgaaUqag
import Derived.Test.YtedlcmkhbccjgaaUqad
import Derived.WalkSmall
import Derived.RangeFuncBox
namespace Go.Proofs.Ytedlcmkhbccjgaa
open Go Go.RowKit
set_option linter.unusedVariables false

theorem grown_none {w w' : World} {mb : Nat} (h : w.grownBy w' (some mb)) (hm : w.heap.size ≤ mb) : w.grownBy w' none := ⟨h.os, h.tape, h.output, h.size, fun k hk _ => h.block k hk (fun e => by cases e; omega)⟩
theorem phi_bound {P : BM} (hp : ∀ x u, P x = some u → (tcs u).length ≤ 2000) (E : List (Int × Value)) : ∀ K : List Int, phi P E K ≤ 2000 * K.length
  | [] => by simp [phi]
  | x :: r => by
    have ih := phi_bound hp E r
    unfold phi
    have hw : wgt P x ≤ 2000 := by
      unfold wgt
      cases h : P x with
      | none => exact Nat.zero_le _
      | some u => exact hp x u h
    simp only [List.length_cons]
    split <;> omega
/-- What standsIn says. -/
def StOut (P : BM) (t : Tr) (x : Int) (w : World) (e : Ending) (w' : World) : Prop := ∃ r : Bool, e = .returned (.bool r) ∧ (r = true ↔ Reach P t x) ∧ w.grownBy w' none
set_option maxRecDepth 100000 in
set_option maxHeartbeats 1000000 in
theorem standsIn_any (W0 : World) (Bt : Nat) (P : BM) (EP : List (Int × Value)) (b ub : Nat) (hbm : BMIn W0 Bt P EP) (hPok : ∀ x u, P x = some u → u.fo.ok ∧ (tcs u).length ≤ 2000) (hE : EP.length ≤ 20000) (x : Int) (hx : 0 ≤ x ∧ x ≤ 1000000) (t : Tr) (v : Value) (w : World)
    (hok : t.fo.ok) (htl : (tcs t).length ≤ 2000) (hf : FoIn W0 Bt t.fo [v]) (hlow : Below W0.heap.size W0 w) (hub : w.cell? ⟨ub, 0, none⟩ = some (.map (some b))) (hb : VMap w b EP.length EP) :
    Calls Try.prog 89 #[.pointer (some ⟨ub, 0, none⟩), .int .i64 x, v] w (StOut P t x w) := by
  obtain ⟨w1, e1⟩ : ∃ w1, w1 = w.alloc (.map #[] 0) := ⟨_, rfl⟩
  have hg1 : w.grownBy w1 (some w.heap.size) := by rw [e1]; exact World.grownBy_alloc w _ _
  have hm1 : VMet w1 w.heap.size [] := ⟨by rw [e1]; exact VMap.made w, fun x y h => by simp [look] at h⟩
  have hne : b ≠ w.heap.size := Nat.ne_of_lt hb.lt
  have hk1 : MeK W0 EP b ub w.heap.size w1 := ⟨by rw [e1]; exact hlow.alloc hlow.size _, cell_grown hub hg1 (Nat.ne_of_lt (World.block_lt_of_cell? _ _ hub)), by rw [e1]; exact hb.allocd _⟩
  have hphi := phi_bound (fun y u hy => (hPok y u hy).2) [] (EP.map Prod.fst)
  rw [List.length_map] at hphi
  have HM := meet_any W0 Bt P EP b ub w.heap.size hbm hPok hne hlow.size _ t v [] w1 (Nat.le_refl _) hok hf hk1 hm1 (by simp only [List.length_nil]; omega)
  have HO : Hid (∀ e w2, MeOut P (EP.map Prod.fst) w.heap.size (tcs t) [] w1 e w2 → e = .returned (.tuple #[]) ∧ ∃ y r, (Instr.lookup 151 (.map (some w.heap.size)) (.int .i64 x) true).run Try.prog w2 = .ok (.tuple #[.agg #[], .bool r]) w2 ∧ (r = true ↔ Reach P t x) ∧ w.grownBy (w2.alloc (.cells #[] 153)) none ∧ w.grownBy w2 none ∧ y = true) := fun e w2 ⟨h1, E', h2, h3, h4⟩ => by
    have hl := h3.1.look (t := 151) Try.underlying151 (zeroUnit w2) x hx.1 hx.2
    have hgn := grown_none (hg1.andThen h4 (fun j hj => .inr hj)) (Nat.le_refl _)
    have hr := h2.reach x
    cases hq : look E' x with
    | none =>
      rw [hq] at hl hr
      exact ⟨h1, true, _, hl, hr, hgn.andThen (World.grownBy_alloc _ _ none) (fun j hj => .inr hj), hgn, rfl⟩
    | some y =>
      obtain rfl := h3.2 x y hq
      rw [hq] at hl hr
      exact ⟨h1, true, _, hl, hr, hgn.andThen (World.grownBy_alloc _ _ none) (fun j hj => .inr hj), hgn, rfl⟩
  have HM2 := HM.mono HO.out
  obtain ⟨tv, yv, rfl⟩ := FoIn.iface (show FoIn W0 Bt (.node t.1 t.2 .nil) [v] from hf)
  clear hbm hPok hE hx hok htl hf hlow hub hb hg1 hm1 hne hk1 hphi HM HO
  have hmm := @run_makeMap Try.prog
  go_enter Try.func89, Try.ntmps89
  go_wp2_with fail
  rw [← e1]
  refine HM2.mono ?_
  rintro e w2 ⟨rfl, _, r, hl, hr, hg, hg', _⟩
  have HR : Hid (r = true ↔ Reach P t x) := hr
  have HG : Hid (w.grownBy (w2.alloc (.cells #[] 153)) none) := hg
  have HG' : Hid (w.grownBy w2 none) := hg'
  clear hr hg hg' HM2
  go_wp2_with fail
  go_ret
  first | exact ⟨r, rfl, HR.out, HG.out⟩ | exact ⟨r, rfl, HR.out, HG'.out⟩

/-- Whether a value is a variable. -/
theorem var_or {W0 : World} {Bt : Nat} {t : Tr} {v : Value} (hf : FoIn W0 Bt t.fo [v]) : (t.1.1 = 0 → v = .iface 67 (.int .i64 t.1.2.1)) ∧ (t.1.1 ≠ 0 → ∃ a y, v = .iface a y ∧ ∀ W, (Instr.typeAssert (.iface a y) 53 67 true).run Try.prog W = .ok (.tuple #[.int .i64 0, .bool false]) W) := by
  obtain ⟨v', vr, e', hn, _⟩ := hf
  obtain ⟨rfl, rfl⟩ := List.cons.inj e'
  constructor
  · intro h0
    rcases hn with ⟨_, e⟩ | ⟨e, _⟩ | ⟨e, _⟩ | ⟨e, _⟩
    · exact e
    · omega
    · omega
    · omega
  · intro h0
    rcases hn with ⟨e, _⟩ | ⟨_, e⟩ | ⟨_, e⟩ | ⟨_, b, g, vs, e, _⟩
    · exact absurd e h0
    · exact ⟨_, _, e, fun W => noVar_num W _⟩
    · exact ⟨_, _, e, fun W => noVar_atom W _⟩
    · exact ⟨_, _, e, fun W => noVar_comp W _⟩
theorem gdrew {w w' : World} {r : Option Nat} (h : w.grownBy w' r) : w.grownBy w'.drew r := ⟨h.os, h.tape, h.output, h.size, h.block⟩
/-- Which is bound to what. -/
def TbOut (x y : Tr) (v1 v2 : Value) (w : World) (e : Ending) (w' : World) : Prop := (∃ (n : Int) (to : Value) (ok : Bool), e = .returned (.tuple #[.int .i64 n, to, .bool ok]) ∧
  (y.1.1 = 0 → (x.1.1 = 0 → x.1.2.1 < y.1.2.1) → n = y.1.2.1 ∧ to = v1 ∧ ok = true) ∧ (x.1.1 = 0 → (y.1.1 = 0 → y.1.2.1 ≤ x.1.2.1) → n = x.1.2.1 ∧ to = v2 ∧ ok = true) ∧ (x.1.1 ≠ 0 → y.1.1 ≠ 0 → ok = false)) ∧ w.grownBy w' none
set_option maxRecDepth 100000 in
set_option maxHeartbeats 1000000 in
theorem toBind_any (W0 : World) (Bt : Nat) (x y : Tr) (v1 v2 : Value) (w : World) (hx : FoIn W0 Bt x.fo [v1]) (hy : FoIn W0 Bt y.fo [v2]) (bx : x.1.1 = 0 → 0 ≤ x.1.2.1 ∧ x.1.2.1 ≤ 1000000) (bY : y.1.1 = 0 → 0 ≤ y.1.2.1 ∧ y.1.2.1 ≤ 1000000) :
    Calls Try.prog 88 #[.agg #[v1, v2]] w (TbOut x y v1 v2 w) := by
  have vx := var_or hx
  have vy := var_or hy
  have a1 := isVar
  have HG : Hid (∀ o, w.grownBy (w.alloc o) none) := fun o => World.grownBy_alloc w o none
  have HG0 : Hid (w.grownBy w none) := .refl _ _
  by_cases h1 : x.1.1 = 0
  · obtain rfl := vx.1 h1
    have b1 := bx h1
    by_cases h2 : y.1.1 = 0
    · obtain rfl := vy.1 h2
      have b2 := bY h2
      obtain ⟨m, em⟩ : ∃ m, m = x.1.2.1 := ⟨_, rfl⟩
      obtain ⟨n, en⟩ : ∃ n, n = y.1.2.1 := ⟨_, rfl⟩
      have HE : Hid (x.1.1 = 0 ∧ y.1.1 = 0 ∧ m = x.1.2.1 ∧ n = y.1.2.1) := ⟨h1, h2, em, en⟩
      rw [← em] at b1 ⊢
      rw [← en] at b2 ⊢
      clear vx vy h1 h2 bx bY hx hy em en
      by_cases hlt : m < n
      · go_enter Try.func88, Try.ntmps88
        go_wp2_with fail
        go_region
        all_goals
          go_wp2_with fail
          go_ret3
          refine ⟨⟨_, _, _, rfl, fun _ _ => ⟨HE.out.2.2.2, rfl, rfl⟩, fun _ h => ?_, fun h => absurd HE.out.1 h⟩, ?_⟩
          · have := h HE.out.2.1; have := HE.out; omega
          · first | exact HG0.out | exact HG.out _ | exact gdrew (HG.out _) | exact gdrew (gdrew (HG.out _))
      · go_enter Try.func88, Try.ntmps88
        go_wp2_with fail
        go_region
        all_goals
          go_wp2_with fail
          go_ret3
          refine ⟨⟨_, _, _, rfl, fun _ h => ?_, fun _ _ => ⟨HE.out.2.2.1, rfl, rfl⟩, fun h => absurd HE.out.1 h⟩, ?_⟩
          · have := h HE.out.1; have := HE.out; omega
          · first | exact HG0.out | exact HG.out _ | exact gdrew (HG.out _) | exact gdrew (gdrew (HG.out _))
    · obtain ⟨a, z, rfl, a2⟩ := vy.2 h2
      obtain ⟨m, em⟩ : ∃ m, m = x.1.2.1 := ⟨_, rfl⟩
      have HE : Hid (x.1.1 = 0 ∧ y.1.1 ≠ 0 ∧ m = x.1.2.1) := ⟨h1, h2, em⟩
      rw [← em] at b1 ⊢
      clear vx vy h1 h2 bx bY hx hy em
      go_enter Try.func88, Try.ntmps88
      go_wp2_with fail
      go_region
      all_goals
        go_wp2_with fail
        go_ret3
        refine ⟨⟨_, _, _, rfl, fun h => absurd h HE.out.2.1, fun _ _ => ⟨HE.out.2.2, rfl, rfl⟩, fun h => absurd HE.out.1 h⟩, ?_⟩
        first | exact HG0.out | exact HG.out _ | exact gdrew (HG.out _) | exact gdrew (gdrew (HG.out _))
  · obtain ⟨a, z, rfl, a2⟩ := vx.2 h1
    by_cases h2 : y.1.1 = 0
    · obtain rfl := vy.1 h2
      have b2 := bY h2
      obtain ⟨n, en⟩ : ∃ n, n = y.1.2.1 := ⟨_, rfl⟩
      have HE : Hid (x.1.1 ≠ 0 ∧ y.1.1 = 0 ∧ n = y.1.2.1) := ⟨h1, h2, en⟩
      rw [← en] at b2 ⊢
      clear vx vy h1 h2 bx bY hx hy en
      go_enter Try.func88, Try.ntmps88
      go_wp2_with fail
      go_region
      all_goals
        go_wp2_with fail
        go_ret3
        refine ⟨⟨_, _, _, rfl, fun _ _ => ⟨HE.out.2.2, rfl, rfl⟩, fun h => absurd h HE.out.1, fun _ h => absurd HE.out.2.1 h⟩, ?_⟩
        first | exact HG0.out | exact HG.out _ | exact gdrew (HG.out _) | exact gdrew (gdrew (HG.out _))
    · obtain ⟨a', z', rfl, a3⟩ := vy.2 h2
      have HE : Hid (x.1.1 ≠ 0 ∧ y.1.1 ≠ 0) := ⟨h1, h2⟩
      clear vx vy h1 h2 bx bY hx hy
      go_enter Try.func88, Try.ntmps88
      go_wp2_with fail
      go_region
      all_goals
        go_wp2_with fail
        go_ret3
        refine ⟨⟨_, _, _, rfl, fun h => absurd h HE.out.2, fun h => absurd h HE.out.1, fun _ _ => rfl⟩, ?_⟩
        first | exact HG0.out | exact HG.out _ | exact gdrew (HG.out _) | exact gdrew (gdrew (HG.out _))

end Go.Proofs.Ytedlcmkhbccjgaa

namespace Go.Proofs.Ytedlcmkhbccjgaa
open Go Go.RowKit
set_option linter.unusedVariables false

/-- Pairs of values in a row. -/
def flatP (vs : List (Value × Value)) : List Value := vs.flatMap (fun x => [x.1, x.2])
theorem flatP_append (a b : List (Value × Value)) : flatP (a ++ b) = flatP a ++ flatP b := by simp [flatP]
theorem flatP_len : ∀ vs : List (Value × Value), (flatP vs).length = vs.length * 2
  | [] => rfl
  | x :: r => by have := flatP_len r; simp only [flatP] at this; simp [flatP, this]; omega
/-- The trees of a stack, and their values. -/
def PairsIn (W0 : World) (Bt : Nat) : List TT → List (Value × Value) → Prop
  | [], vs => vs = []
  | x :: r, vs => ∃ v s, vs = v :: s ∧ FoIn W0 Bt x.1.fo [v.1] ∧ FoIn W0 Bt x.2.fo [v.2] ∧ PairsIn W0 Bt r s
theorem PairsIn.len {W0 : World} {Bt : Nat} : ∀ (st : List TT) (vs : List (Value × Value)), PairsIn W0 Bt st vs → vs.length = st.length
  | [], vs, h => by rw [show vs = [] from h]; rfl
  | x :: r, vs, ⟨v, s, e, _, _, h⟩ => by rw [e]; simp [PairsIn.len r s h]
theorem PairsIn.append {W0 : World} {Bt : Nat} : ∀ (a b : List TT) (vs us : List (Value × Value)), PairsIn W0 Bt a vs → PairsIn W0 Bt b us → PairsIn W0 Bt (a ++ b) (vs ++ us)
  | [], b, vs, us, h, k => by rw [show vs = [] from h]; exact k
  | x :: r, b, vs, us, ⟨v, s, e, h1, h2, h3⟩, k => by
    subst e
    exact ⟨v, s ++ us, rfl, h1, h2, PairsIn.append r b s us h3 k⟩
theorem PairsIn.parts {W0 : World} {Bt : Nat} : ∀ (a b : List TT) (vs : List (Value × Value)), PairsIn W0 Bt (a ++ b) vs → ∃ us ws, vs = us ++ ws ∧ PairsIn W0 Bt a us ∧ PairsIn W0 Bt b ws
  | [], b, vs, h => ⟨[], vs, rfl, rfl, h⟩
  | x :: r, b, vs, ⟨v, s, e, h1, h2, h3⟩ => by
    obtain ⟨us, ws, e', k1, k2⟩ := PairsIn.parts r b s h3
    subst e e'
    exact ⟨v :: us, ws, rfl, ⟨v, us, rfl, h1, h2, k1⟩, k2⟩
/-- A stack lies at offset so of block sb; its row is the call's own. -/
structure Stk (W0 : World) (Bt : Nat) (w : World) (B sb so : Nat) (p : Option Addr) (n c : Nat) (st : List TT) : Prop where
  cell : w.cell? ⟨sb, so, none⟩ = some (.slice p n c)
  free : w.frozen? ⟨sb, so, none⟩ = false
  len : n = st.length
  row : ∃ vs, w.ownsRow B 91 2 (.slice p n c) n (flatP vs) ∧ PairsIn W0 Bt st vs
  away : ∀ g, p = some ⟨g, 0, none⟩ → g ≠ sb
/-- What is kept: all but one cell and one row. -/
structure Kept2 (w w' : World) (sb so : Nat) (g : Option Nat) : Prop where
  os : w'.os = w.os
  tape : w'.tape = w.tape
  output : w'.output = w.output
  size : w.heap.size ≤ w'.heap.size
  block : ∀ k, k < w.heap.size → k ≠ sb → some k ≠ g → w'.heap[k]? = w.heap[k]?
  cells : ∀ o, o ≠ so → w'.cell? ⟨sb, o, none⟩ = w.cell? ⟨sb, o, none⟩
  frz : ∀ o, w'.frozen? ⟨sb, o, none⟩ = w.frozen? ⟨sb, o, none⟩
theorem Kept2.below {w w' : World} {sb so B : Nat} {g : Option Nat} (h : Kept2 w w' sb so g) (hs : B ≤ sb) (hg : ∀ k, g = some k → B ≤ k) (hB : B ≤ w.heap.size) : Below B w w' :=
  ⟨h.os, h.tape, h.output, h.size, fun k hk => h.block k (by omega) (by omega) (fun e => by have := hg k e.symm; omega)⟩
theorem Kept2.refl (w : World) (sb so : Nat) (g : Option Nat) : Kept2 w w sb so g := ⟨rfl, rfl, rfl, Nat.le_refl _, fun _ _ _ _ => rfl, fun _ _ => rfl, fun _ => rfl⟩
theorem Kept2.alloc {w w' : World} {sb so : Nat} {g : Option Nat} (h : Kept2 w w' sb so g) (hs : sb < w'.heap.size) (o : Obj) : Kept2 w (w'.alloc o) sb so g :=
  ⟨h.os, h.tape, h.output, Nat.le_trans h.size (by simp), fun k hk h1 h2 => (Below.heap_alloc _ _ _ (Nat.lt_of_lt_of_le hk h.size)).trans (h.block k hk h1 h2),
   fun j hj => (World.cell?_of_block (w := w') (a := ⟨sb, j, none⟩) (Below.heap_alloc _ _ _ hs)).trans (h.cells j hj), fun j => (World.frozen?_of_block (w := w') (a := ⟨sb, j, none⟩) (Below.heap_alloc _ _ _ hs)).trans (h.frz j)⟩
theorem Kept2.set {w w' : World} {sb so : Nat} {g : Option Nat} (h : Kept2 w w' sb so g) (u : Value) : Kept2 w (w'.setCell ⟨sb, so, none⟩ u) sb so g :=
  ⟨by rw [World.setCell]; split <;> exact h.os, h.tape, h.output, by simpa using h.size, fun k hk h1 h2 => (Below.heap_setCell _ _ _ _ h1).trans (h.block k hk h1 h2),
   fun j hj => (World.cell?_setCell_other _ _ _ _ (fun e => hj (congrArg Addr.off e).symm)).trans (h.cells j hj), fun j => by rw [World.frozen?_setCell]; exact h.frz j⟩
theorem Kept2.new {w w' : World} {sb so : Nat} {g : Option Nat} (h : Kept2 w w' sb so g) {a : Addr} (ha : w.heap.size ≤ a.block) (hs : sb < w.heap.size) (u : Value) : Kept2 w (w'.setCell a u) sb so g :=
  ⟨h.os, h.tape, h.output, by simpa using h.size, fun k hk h1 h2 => (Below.heap_setCell _ _ _ _ (by omega)).trans (h.block k hk h1 h2),
   fun j hj => (World.cell?_setCell_other _ _ _ _ (fun e => by rw [e] at ha; simp at ha; omega)).trans (h.cells j hj), fun j => by rw [World.frozen?_setCell]; exact h.frz j⟩
/-- What take answers. -/
def TakeOut (W0 : World) (Bt : Nat) (w : World) (B sb so : Nat) (g : Option Nat) (st : List TT) (x : TT) (e : Ending) (w' : World) : Prop :=
  ∃ v1 v2, e = .returned (.agg #[v1, v2]) ∧ FoIn W0 Bt x.1.fo [v1] ∧ FoIn W0 Bt x.2.fo [v2] ∧ (∃ p n c, Stk W0 Bt w' B sb so p n c st ∧ Value.ownBlock (.slice p n c) = g) ∧ Kept2 w w' sb so none

set_option maxRecDepth 100000 in
set_option maxHeartbeats 1000000 in
theorem take_any (W0 : World) (Bt : Nat) (w : World) (B sb so : Nat) (p : Option Addr) (n c : Nat) (st : List TT) (x : TT) (hn : n ≤ 1000000) (h : Stk W0 Bt w B sb so p n c (st ++ [x])) :
    Calls Try.prog 62 #[.pointer (some ⟨sb, so, none⟩)] w (TakeOut W0 Bt w B sb so (Value.ownBlock (.slice p n c)) st x) := by
  obtain ⟨hcell, hfree, hlen, ⟨vs, hrow, hin⟩, haway⟩ := h
  obtain ⟨us, ws, rfl, hin1, hin2⟩ := PairsIn.parts _ _ _ hin
  obtain ⟨v, s, rfl, hx1, hx2, hs0⟩ := hin2
  obtain rfl : s = [] := hs0
  have hul := hin1.len
  obtain ⟨L, eL⟩ : ∃ L, L = st.length := ⟨_, rfl⟩
  have hnL : n = L + 1 := by rw [hlen, eL]; simp
  obtain ⟨g, cap, hform⟩ := ownsRow_succ (k := L) (by rw [← hnL]; exact hrow)
  subst hnL
  cases hform
  have d0 : w.cell? ⟨g, L * 2, none⟩ = some v.1 := by
    rw [hrow.cellAt _ (by omega), flatP_append, List.getElem?_append_right (by rw [flatP_len]; omega), flatP_len]
    rw [show L * 2 - us.length * 2 = 0 by omega]; rfl
  have d1 : w.cell? ⟨g, L * 2 + 1, none⟩ = some v.2 := by
    rw [hrow.cellAt _ (by omega), flatP_append, List.getElem?_append_right (by rw [flatP_len]; omega), flatP_len]
    rw [show L * 2 + 1 - us.length * 2 = 1 by omega]; rfl
  obtain ⟨t1, x1, e1⟩ := FoIn.iface (show FoIn W0 Bt (.node x.1.1 x.1.2 .nil) [v.1] from hx1)
  obtain ⟨t2, x2, e2⟩ := FoIn.iface (show FoIn W0 Bt (.node x.2.1 x.2.2 .nil) [v.2] from hx2)
  have hpop := ownsRow_pop (size := 2) (n := L) (xs := flatP us) (last := flatP [v]) (by rw [flatP_len]; omega) (by rw [← flatP_append]; exact hrow)
  obtain ⟨v1, v2⟩ := v
  simp only at e1 e2 hx1 hx2 d0 d1
  subst e1 e2
  have HFIN : Hid (∀ w', Kept2 w w' sb so none → w'.cell? ⟨sb, so, none⟩ = some (.slice (some ⟨g, 0, none⟩) L c) → w'.heap[g]? = w.heap[g]? → TakeOut W0 Bt w B sb so (some g) st x (.returned (.agg #[.iface t1 x1, .iface t2 x2])) w') := fun w' hk hc hg =>
    ⟨_, _, rfl, hx1, hx2, ⟨_, _, _, ⟨hc, (hk.frz so).trans hfree, eL, ⟨us, ⟨hpop.1, by
      rcases hpop.2 with ⟨h', _⟩ | ⟨g', cap', cur, hv, hB, hh, r⟩
      · cases h'
      · exact .inr ⟨g', cap', cur, hv, hB, by cases hv; exact hg.trans hh, r⟩⟩, hin1⟩, haway⟩, rfl⟩, hk⟩
  have hne := haway g rfl
  have hlt : sb < w.heap.size := World.block_lt_of_cell? _ _ hcell
  have hglt : g < w.heap.size := World.block_lt_of_cell? _ _ d0
  have hc1 : L ≤ c := by
    rcases hrow.2 with ⟨h', _⟩ | ⟨g', cap', cur, hv, hB, hh, r, _⟩
    · cases h'
    · cases hv; omega
  clear hpop hrow hin hin1 hx1 hx2 haway hlen hul eL
  go_enter Try.func62, Try.ntmps62
  go_wp2
  refine bodyPost_ret (v := .agg #[.iface t1 x1, .iface t2 x2]) (by simp [results, Try.results62, go_sem]) rfl (HFIN.out _ (((Kept2.refl w sb so none).set _).alloc (by simpa using hlt) _ |>.alloc (by simp; omega) _) ?_ ?_)
  · exact Lib.cell?_alloc_marked _ (Lib.cell?_alloc_marked _ (World.cell?_setCell_same' _ _ _ (by rw [hcell]; rfl)))
  · exact (Below.heap_alloc _ _ _ (by simp; omega)).trans ((Below.heap_alloc _ _ _ (by simpa using hglt)).trans (Below.heap_setCell _ _ _ _ hne))


end Go.Proofs.Ytedlcmkhbccjgaa

namespace Go.Proofs.Ytedlcmkhbccjgaa
open Go Go.RowKit
set_option linter.unusedVariables false

theorem str_inj {xs ys : List Int} (hx : Byte xs) (hy : Byte ys) : (strOfNums xs == strOfNums ys) = decide (xs = ys) := by
  have h1 := str_beq hx (strOfNums ys).toList
  have h2 := (str_eq hy (strOfNums ys).toList).1 rfl
  rw [← h2] at h1
  rw [← h1]
  congr 1
  rw [ByteArray.toList_eq]
theorem str_ne {xs ys : List Int} (hx : Byte xs) (hy : Byte ys) (h : strOfNums xs = strOfNums ys) : xs = ys := by
  have h1 := str_inj hx hy
  rw [h, str_inj hy hy] at h1
  simpa using h1.symm

end Go.Proofs.Ytedlcmkhbccjgaa

