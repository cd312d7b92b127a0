/- Texts of FoI, FoS, UnV1, UnV2. Own work of the verifier. -/
import Derived.Test.YtaakpdakeolgeaaGreatUqaf
import Derived.Test.YtaakpdakeolgeaaGreatUqax
import Derived.Test.YtaakpdakeolgeaaGreatUqag
namespace Go.Proofs.YtaakpdakeolgeaaGreat
open Go Go.RowKit
set_option linter.unusedVariables false
theorem NodeIn.imp2 {w w' : World} {B B' : Nat} {c : Cel} {K K' : List Value → Prop} {v : Value} (h : NodeIn w B c K v) (hB : B' ≤ B) (hc : ∀ p v, w.cell? p = some v → w'.cell? p = some v) (hs : w.heap.size ≤ w'.heap.size) (hK : ∀ vs, K vs → K' vs) : NodeIn w' B' c K' v := by
  rcases h with h | h | h | ⟨h, b, g, vs, hv, h1, h2, c0, c1, hg, cg, hk⟩
  · exact .inl h
  · exact .inr (.inl h)
  · exact .inr (.inr (.inl h))
  · exact .inr (.inr (.inr ⟨h, b, g, vs, hv, by omega, by omega, hc _ _ c0, hc _ _ c1, by omega, fun i hi => hc _ _ (cg i hi), hK _ hk⟩))
theorem FoIn.imp2 {w w' : World} {B B' : Nat} (hB : B' ≤ B) (hc : ∀ p v, w.cell? p = some v → w'.cell? p = some v) (hs : w.heap.size ≤ w'.heap.size) : ∀ (F : Fo) (vs : List Value), FoIn w B F vs → FoIn w' B' F vs
  | .nil, vs, h => h
  | .node c k r, vs, ⟨v, vr, e, hn, hr⟩ => ⟨v, vr, e, hn.imp2 hB hc hs (fun kv => FoIn.imp2 hB hc hs k kv), FoIn.imp2 hB hc hs r vr hr⟩
end Go.Proofs.YtaakpdakeolgeaaGreat

namespace Go.Proofs.YtaakpdakeolgeaaGreat
open Go Go.RowKit
set_option linter.unusedVariables false
open Classical in
noncomputable def strikeA (A : Nat → Prop) (W : World) : World := { W with heap := W.heap.mapIdx fun i o => if A i then .deferred none else o }
theorem strikeA_size (A : Nat → Prop) (W : World) : (strikeA A W).heap.size = W.heap.size := by simp [strikeA]
open Classical in
theorem strikeA_cell {A : Nat → Prop} {W : World} {p : Addr} {v : Value} : (strikeA A W).cell? p = some v ↔ ¬ A p.block ∧ W.cell? p = some v := by
  have e : (strikeA A W).heap[p.block]? = W.heap[p.block]?.map fun o => if A p.block then .deferred none else o := by simp [strikeA]
  unfold World.cell?
  rw [e]
  by_cases h : A p.block
  · cases W.heap[p.block]? <;> simp [h]
  · cases W.heap[p.block]? <;> simp [h]
def FoA (A : Nat → Prop) (W : World) (F : Fo) (vs : List Value) : Prop := FoIn (strikeA A W) 0 F vs
theorem FoA.foIn {A : Nat → Prop} {W : World} {F : Fo} {vs : List Value} (h : FoA A W F vs) : FoIn W 0 F vs :=
  FoIn.imp2 (Nat.le_refl _) (fun p v hp => (strikeA_cell.1 hp).2) (by rw [strikeA_size]; exact Nat.le_refl _) F vs h
theorem FoA.move {A A' : Nat → Prop} {W W' : World} {F : Fo} {vs : List Value} (h : FoA A W F vs) (hA : ∀ p v, ¬ A p.block → W.cell? p = some v → ¬ A' p.block ∧ W'.cell? p = some v) (hs : W.heap.size ≤ W'.heap.size) : FoA A' W' F vs :=
  FoIn.imp2 (Nat.le_refl _) (fun p v hp => strikeA_cell.2 (hA p v (strikeA_cell.1 hp).1 (strikeA_cell.1 hp).2)) (by rw [strikeA_size, strikeA_size]; exact hs) F vs h
theorem FoIn.foA {W0 W : World} {Bt : Nat} {F : Fo} {vs : List Value} (h : FoIn W0 Bt F vs) (hb : Below W0.heap.size W0 W) {A : Nat → Prop} (hA : ∀ a, A a → W0.heap.size ≤ a) : FoA A W F vs :=
  FoIn.imp2 (Nat.zero_le _) (fun p v hp => strikeA_cell.2 ⟨fun ha => by have := hA _ ha; have := World.block_lt_of_cell? _ _ hp; omega, (hb.cell (World.block_lt_of_cell? _ _ hp)).trans hp⟩) (by rw [strikeA_size]; exact hb.size) F vs h
theorem FoA.cat {A : Nat → Prop} {W : World} {F G : Fo} {vs us : List Value} (h : FoA A W F vs) (h' : FoA A W G us) : FoA A W (F.cat G) (vs ++ us) := FoIn.cat _ _ _ _ h h'
end Go.Proofs.YtaakpdakeolgeaaGreat

namespace Go.Proofs.YtaakpdakeolgeaaGreat
open Go Go.RowKit
set_option linter.unusedVariables false
theorem cells_kept {w w' : World} {s N : Nat} {E : List (Int × Value)} (hm : VMap w s N E) (hg : w.grownBy w' (some s)) {p : Addr} {v : Value} (h : w.cell? p = some v) : w'.cell? p = some v := by
  have hne : p.block ≠ s := fun e => by
    obtain ⟨D, ⟨es, clock, h1, _⟩, _⟩ := hm
    rw [← e] at h1
    simp [World.cell?, h1] at h
  have hlt := World.block_lt_of_cell? _ _ h
  exact (World.cell?_of_block (hg.block p.block hlt (fun e => hne (Option.some.inj e)))).trans h
def uns (K : List Int) (ES : List (Int × Value)) : Nat := (K.filter fun x => (look ES x).isNone).length
theorem uns_put {K : List Int} {E : List (Int × Value)} {x : Int} {v : Value} (hk : x ∈ K) (hx : look E x = none) : uns K (putE E x v) + 1 ≤ uns K E := by
  unfold uns
  have h1 : K.filter (fun y => (look (putE E x v) y).isNone) = (K.filter fun y => (look E y).isNone).filter fun y => decide (y ≠ x) := by
    rw [List.filter_filter]
    refine List.filter_congr fun y _ => ?_
    rw [look_putE]
    by_cases e : y = x
    · simp [e]
    · simp [e]
  rw [h1]
  have hm : x ∈ K.filter fun y => (look E y).isNone := List.mem_filter.2 ⟨hk, by rw [hx]; rfl⟩
  generalize K.filter (fun y => (look E y).isNone) = l at hm
  clear h1 hk hx
  induction l with
  | nil => cases hm
  | cons a r ih =>
    by_cases e : a = x
    · subst e
      have := List.length_filter_le (fun y => decide (y ≠ a)) r
      simp
      simpa using this
    · have hm' : x ∈ r := by
        rcases List.mem_cons.1 hm with h | h
        · exact absurd h.symm e
        · exact h
      have := ih hm'
      simp [e] at this ⊢
      omega
def solV (tv : Value) (g : Tr) : Value := .agg #[tv, .int .i64 ((min (tcs g).length 2001 : Nat) : Int)]
structure SV (W0 : World) (P : BM) (EP : List (Int × Value)) (b s ub : Nat) (A : Nat → Prop) (ES : List (Int × Value)) (W : World) : Prop where
  low : Below W0.heap.size W0 W
  ubc : W.cell? ⟨ub, 0, none⟩ = some (.map (some b))
  sbc : W.cell? ⟨ub, 1, none⟩ = some (.map (some s))
  bnd : VMap W b EP.length EP
  sol : VMap W s ES.length ES
  ent : ∀ x sv, look ES x = some sv → ∃ u g t y, P x = some u ∧ FullF P u.fo g.fo ∧ sv = solV (.iface t y) g ∧ FoA A W g.fo [.iface t y]
  av : ∀ a, A a → W0.heap.size ≤ a ∧ a < W.heap.size
  cost : ES.length + uns (EP.map Prod.fst) ES ≤ 20000
  hs : W0.heap.size ≤ s
  ne : b ≠ s
theorem SV.move {W0 : World} {P : BM} {EP : List (Int × Value)} {b s ub : Nat} {A A' : Nat → Prop} {ES : List (Int × Value)} {W W' : World} (h : SV W0 P EP b s ub A ES W) (hl : Below W0.heap.size W0 W') (hb : W'.heap[b]? = W.heap[b]?) (hsb : W'.heap[s]? = W.heap[s]?) (hu : W'.heap[ub]? = W.heap[ub]?)
    (hA : ∀ p v, ¬ A p.block → W.cell? p = some v → ¬ A' p.block ∧ W'.cell? p = some v) (hz : W.heap.size ≤ W'.heap.size) (hav : ∀ a, A' a → W0.heap.size ≤ a ∧ a < W'.heap.size) : SV W0 P EP b s ub A' ES W' :=
  ⟨hl, (World.cell?_of_block (a := ⟨ub, 0, none⟩) hu).trans h.ubc, (World.cell?_of_block (a := ⟨ub, 1, none⟩) hu).trans h.sbc, h.bnd.of_block hb, h.sol.of_block hsb, fun x sv hx => by
    obtain ⟨u, g, t, y, h1, h2, h3, h4⟩ := h.ent x sv hx
    exact ⟨u, g, t, y, h1, h2, h3, h4.move hA hz⟩, hav, h.cost, h.hs, h.ne⟩
theorem SV.grow {W0 : World} {P : BM} {EP : List (Int × Value)} {b s ub : Nat} {A : Nat → Prop} {ES : List (Int × Value)} {W W' : World} (h : SV W0 P EP b s ub A ES W) (hg : W.grownBy W' none) : SV W0 P EP b s ub A ES W' := by
  have hB : Below W.heap.size W W' := ⟨hg.os, hg.tape, hg.output, hg.size, fun k hk => hg.block k hk (by simp)⟩
  exact h.move (Below.on h.low hB) (hB.block _ h.bnd.lt) (hB.block _ h.sol.lt) (hB.block _ (World.block_lt_of_cell? _ _ h.ubc)) (fun p v hp hv => ⟨hp, (hB.cell (World.block_lt_of_cell? _ _ hv)).trans hv⟩) hg.size (fun a ha => ⟨(h.av a ha).1, Nat.lt_of_lt_of_le (h.av a ha).2 hg.size⟩)
def After (W0 : World) (P : BM) (EP : List (Int × Value)) (b s ub : Nat) (A : Nat → Prop) (w w' : World) : Prop := (∃ ES', SV W0 P EP b s ub A ES' w') ∧ w.grownBy w' (some s)
def SolOut (W0 : World) (P : BM) (EP : List (Int × Value)) (b s ub : Nat) (A : Nat → Prop) (x : Int) (w : World) (e : Ending) (w' : World) : Prop :=
  ∃ g t y, e = .returned (solV (.iface t y) g) ∧ FullF P (.node (0, x, []) .nil .nil) g.fo ∧ FoA A w' g.fo [.iface t y] ∧ After W0 P EP b s ub A w w'
def SolveOk (W0 : World) (P : BM) (EP : List (Int × Value)) (b s ub : Nat) (r : Int → Nat) (m : Nat) : Prop := ∀ (x : Int) (A : Nat → Prop) (ES : List (Int × Value)) (w : World), r x < m → 0 ≤ x ∧ x ≤ 1000000 → SV W0 P EP b s ub A ES w →
  Calls Tryz.prog 62 #[.pointer (some ⟨ub, 0, none⟩), .int .i64 x] w (SolOut W0 P EP b s ub A x w)
end Go.Proofs.YtaakpdakeolgeaaGreat

namespace Go.Proofs.YtaakpdakeolgeaaGreat
open Go Go.RowKit
set_option linter.unusedVariables false
theorem FullF.cat {M : BM} {a a' b b' : Fo} (h : FullF M a a') (h' : FullF M b b') : FullF M (a.cat b) (a'.cat b') := by
  induction h with
  | nil => exact h'
  | keep h hk hr _ ih => exact .keep h hk ih
  | put h0 hm hu hr _ ih => exact .put h0 hm hu ih
theorem SV.cell {W0 : World} {P : BM} {EP : List (Int × Value)} {b s ub : Nat} {A : Nat → Prop} {ES : List (Int × Value)} {W W' : World} (h : SV W0 P EP b s ub A ES W) (hg : W.grownBy W' (some s)) {p : Addr} {v : Value} (hp : W.cell? p = some v) : W'.cell? p = some v := cells_kept h.sol hg hp
theorem fldT (w : World) (t : TypeId) (y : Value) (z : Int) : (Instr.field 107 (.agg #[.iface t y, .int .i64 z]) 0).run Tryz.prog w = .ok (.iface t y) w := by kernel_rfl
theorem fldN (w : World) (t : TypeId) (y : Value) (z : Int) : (Instr.field 107 (.agg #[.iface t y, .int .i64 z]) 1).run Tryz.prog w = .ok (.int .i64 z) w := by kernel_rfl
section
variable (W0 : World) (Bt : Nat) (P : BM) (EP : List (Int × Value)) (b s ub : Nat) (r : Int → Nat) (m : Nat)
set_option maxRecDepth 100000 in
theorem sol1_any (hI : SolveOk W0 P EP b s ub r m) (ux : Nat) (x : Int) (A : Nat → Prop) (ES : List (Int × Value)) (w : World) (hr : r x < m) (hx : 0 ≤ x ∧ x ≤ 1000000) (h : SV W0 P EP b s ub A ES w) (hux : w.cell? ⟨ux, 0, none⟩ = some (.pointer (some ⟨ub, 0, none⟩))) :
    Calls Tryz.prog 82 #[.int .i64 x, .pointer (some ⟨ux, 0, none⟩)] w fun e w' => ∃ g t y, e = .returned (.iface t y) ∧ FullF P (.node (0, x, []) .nil .nil) (Tr.fo g) ∧ FoA A w' (Tr.fo g) [.iface t y] ∧ After W0 P EP b s ub A w w' := by
  have HS := hI x A ES w hr hx h
  clear h hr hx hI
  go_enter Tryz.func82, Tryz.ntmps82
  go_wp2_with fail
  refine HS.mono ?_
  rintro e w1 ⟨g, t, y, rfl, h1, h2, h3⟩
  have HF : Hid (FullF P (.node (0, x, []) .nil .nil) g.fo ∧ FoA A w1 g.fo [.iface t y] ∧ After W0 P EP b s ub A w w1) := ⟨h1, h2, h3⟩
  clear h1 h2 h3 HS
  have f1 := fldT
  unfold solV
  go_wp2_with fail
  go_ret
  exact ⟨g, t, y, rfl, HF.out⟩
set_option maxRecDepth 100000 in
theorem sol2_any (hI : SolveOk W0 P EP b s ub r m) (ux : Nat) (x : Int) (A : Nat → Prop) (ES : List (Int × Value)) (w : World) (hr : r x < m) (hx : 0 ≤ x ∧ x ≤ 1000000) (h : SV W0 P EP b s ub A ES w) (hux : w.cell? ⟨ux, 0, none⟩ = some (.pointer (some ⟨ub, 0, none⟩))) :
    Calls Tryz.prog 83 #[.int .i64 x, .pointer (some ⟨ux, 0, none⟩)] w fun e w' => ∃ g, e = .returned (.int .i64 ((min (tcs g).length 2001 : Nat) : Int)) ∧ FullF P (.node (0, x, []) .nil .nil) (Tr.fo g) ∧ After W0 P EP b s ub A w w' := by
  have HS := hI x A ES w hr hx h
  clear h hr hx hI
  go_enter Tryz.func83, Tryz.ntmps83
  go_wp2_with fail
  refine HS.mono ?_
  rintro e w1 ⟨g, t, y, rfl, h1, h2, h3⟩
  have HF : Hid (FullF P (.node (0, x, []) .nil .nil) g.fo ∧ After W0 P EP b s ub A w w1) := ⟨h1, h3⟩
  unfold solV
  clear h1 h2 h3 HS
  have f1 := fldN
  go_wp2_with fail
  go_ret
  exact ⟨g, rfl, HF.out⟩
def RepOut (A : Nat → Prop) (c : Cel) (k : Fo) (w : World) (e : Ending) (w' : World) : Prop := ∃ (g : Tr) (t : TypeId) (y : Value), e = .returned (.iface t y) ∧ FullF P (.node c k .nil) g.fo ∧ FoA A w' g.fo [.iface t y] ∧ After W0 P EP b s ub A w w'
set_option maxRecDepth 100000 in
set_option maxHeartbeats 2000000 in
theorem replaceF_any (hI : SolveOk W0 P EP b s ub r m) (ux : Nat) : ∀ (N : Nat) (c : Cel) (k : Fo) (v : Value) (A : Nat → Prop) (ES : List (Int × Value)) (w : World), k.cells.length ≤ N → (Fo.node c k .nil).ok → FoIn W0 Bt (.node c k .nil) [v] → (∀ z ∈ vsF (.node c k .nil), r z < m) → SV W0 P EP b s ub A ES w → w.cell? ⟨ux, 0, none⟩ = some (.pointer (some ⟨ub, 0, none⟩)) → k.cells.length ≤ 100000 →
    Calls Tryz.prog 34 #[v, .func (.func 82) #[] #[.pointer (some ⟨ux, 0, none⟩)]] w (RepOut W0 P EP b s ub A c k w) := by
  intro N
  induction N using Nat.strongRecOn with
  | _ N ih =>
    intro c k v A ES w hN hok hfo hvs hs hux hlen
    have HAF0 : Hid (After W0 P EP b s ub A w w) := ⟨⟨ES, hs⟩, .refl _ _⟩
    have hfa := hfo.foA hs.low (A := A) (fun a ha => (hs.av a ha).1)
    obtain ⟨v', vr, e, hnode, _⟩ := hfo
    obtain ⟨rfl, rfl⟩ := List.cons.inj e
    rcases hnode with ⟨h0, rfl⟩ | ⟨h0, rfl⟩ | ⟨h0, rfl⟩ | ⟨h0, bc, g, vs, rfl, hcomp⟩
    · have hk : k = .nil := hok.2.2.2.1 (by rw [h0]; decide)
      subst hk
      obtain ⟨hce, hx⟩ := var_cell (t := (c, .nil)) hok h0
      have hrx : r c.2.1 < m := hvs _ ((vs_node c .nil .nil _).2 (.inl ⟨h0, rfl⟩))
      have HW := sol1_any W0 P EP b s ub r m hI ux c.2.1 A ES w hrx hx hs hux
      have HCE : Hid (c = (0, c.2.1, [])) := hce
      have HOO : Hid (∀ e w', (∃ g t y, e = .returned (.iface t y) ∧ FullF P (.node (0, c.2.1, []) .nil .nil) (Tr.fo g) ∧ FoA A w' (Tr.fo g) [.iface t y] ∧ After W0 P EP b s ub A w w') → ∃ t y, e = .returned (.iface t y) ∧ RepOut W0 P EP b s ub A c .nil w e w') := fun e w' ⟨g, t, y, h1, h2, h3⟩ => ⟨t, y, h1, g, t, y, h1, by rw [← HCE.out] at h2; exact h2, h3⟩
      have HW2 := HW.mono HOO.out
      obtain ⟨x, ex⟩ : ∃ x, x = c.2.1 := ⟨_, rfl⟩
      rw [← ex] at HW2 ⊢
      have n1 := isVar
      clear ih hok hs hx ex e hlen hfa hvs hrx hce HW HOO HCE HAF0
      go_enter Tryz.func34, Tryz.ntmps34
      go_wp2_with fail
      refine HW2.mono ?_
      rintro e w1 ⟨t, y, rfl, h1⟩
      have HF : Hid (RepOut W0 P EP b s ub A c .nil w (.returned (.iface t y)) w1) := h1
      clear h1 HW2
      go_wp2_with fail
      go_ret
      exact HF.out
    · have hk : k = .nil := hok.2.2.2.1 (by rw [h0]; decide)
      subst hk
      have n1 := noVar_num
      have n2 := noComp_num
      have HF : Hid (RepOut W0 P EP b s ub A c .nil w (.returned (.iface 130 (.int .i64 c.2.1))) w) := ⟨(c, .nil), _, _, rfl, .keep (fun h => by omega) .nil .nil, hfa, HAF0.out⟩
      obtain ⟨x, ex⟩ : ∃ x, x = Value.int .i64 c.2.1 := ⟨_, rfl⟩
      rw [← ex] at HF ⊢
      clear ih hok hs ex e hlen hfa hvs HAF0
      go_enter Tryz.func34, Tryz.ntmps34
      go_wp2_with fail
      go_ret
      exact HF.out
    · have hk : k = .nil := hok.2.2.2.1 (by rw [h0]; decide)
      subst hk
      have n1 := noVar_atom
      have n2 := noComp_atom
      have HF : Hid (RepOut W0 P EP b s ub A c .nil w (.returned (.iface 131 (.string (strOfNums c.2.2)))) w) := ⟨(c, .nil), _, _, rfl, .keep (fun h => by omega) .nil .nil, hfa, HAF0.out⟩
      obtain ⟨x, ex⟩ : ∃ x, x = Value.string (strOfNums c.2.2) := ⟨_, rfl⟩
      rw [← ex] at HF ⊢
      clear ih hok hs ex e hlen hfa hvs HAF0
      go_enter Tryz.func34, Tryz.ntmps34
      go_wp2_with fail
      go_ret
      exact HF.out
    · have n1 := noVar_comp
      have n2 := isComp
      have HC : Hid (CompAt W0 Bt c.2.2 k bc g vs) := hcomp
      have hvl2 : vs.length = k.count := FoIn.count _ _ hcomp.2.2.2.2.2.2
      obtain ⟨q, eq⟩ : ∃ q, q = vs.length := ⟨_, rfl⟩
      have HE : Hid (q = vs.length ∧ vs.length = k.count) := ⟨eq, hvl2⟩
      have hq : q ≤ 100000 := by have := Fo.count_le k; omega
      have HK : Hid k.ok := hok.2.2.2.2.1
      have HVS : Hid (∀ z ∈ vsF k, r z < m) := fun z hz => hvs z ((vs_node c k .nil z).2 (.inr (.inl hz)))
      have d0 := (hs.low.cell (World.block_lt_of_cell? _ _ hcomp.2.2.1)).trans hcomp.2.2.1
      have d1 := (hs.low.cell (World.block_lt_of_cell? _ _ hcomp.2.2.2.1)).trans hcomp.2.2.2.1
      rw [← eq] at d1
      have HS : Hid (SV W0 P EP b s ub A ES w) := hs
      have HUX : Hid (w.cell? ⟨ux, 0, none⟩ = some (.pointer (some ⟨ub, 0, none⟩))) := hux
      have HIH : Hid _ := ih
      have H0 : Hid (c.1 = 3) := h0
      obtain ⟨str, es⟩ : ∃ str, str = strOfNums c.2.2 := ⟨_, rfl⟩
      rw [← es] at d0
      have HES : Hid (str = strOfNums c.2.2) := es
      obtain ⟨i0, hi, hz0, hz1, hz2⟩ := info_parts infoTerm
      have hmx : q ≤ maxLen := by unfold maxLen; omega
      clear ih hok hs e hcomp eq hvl2 es h0 hfa hvs HAF0 hux
      go_enter Tryz.func34, Tryz.ntmps34
      go_wp2_with (at_make; refine wpList_make_full _ rfl _ _ 113 rfl w.heap.size 57 i0 .nilIface 1 Tryz.underlying113 hi hz0 hz1 _ _ _ _ q rfl rfl rfl rfl (by rw [hz2]; omega) hmx (Nat.le_refl _) ?_; intro w1 hown hgrow; have d0' := ((World.cell?_of_block (w := w) (a := ⟨bc, 0, none⟩) (hgrow.block bc (World.block_lt_of_cell? _ _ d0) (fun h => by cases h)))).trans d0; have d1' := ((World.cell?_of_block (w := w) (a := ⟨bc, 1, none⟩) (hgrow.block bc (World.block_lt_of_cell? _ _ d1) (fun h => by cases h)))).trans d1)
      obtain ⟨A1, eA1⟩ : ∃ A1 : Nat → Prop, A1 = fun a => A a ∨ a = w.heap.size := ⟨_, rfl⟩
      have HA1 : Hid (∀ a, A1 a ↔ A a ∨ a = w.heap.size) := fun a => by rw [eA1]
      have HO1 : Hid (w1.ownsRow w.heap.size 57 1 (.slice (some ⟨w.heap.size, 0, none⟩) q q) q ([] ++ List.replicate (q - 0) .nilIface)) := by
        have := hown
        simp [Value.cells, toList_madeCells_one] at this
        exact this
      have hs1 : w.heap.size + 1 ≤ w1.heap.size := by have := (hown.lt w.heap.size rfl).2; omega
      have HG1 : Hid (w.grownBy w1 (some s)) := ⟨hgrow.os, hgrow.tape, hgrow.output, hgrow.size, fun k hk _ => hgrow.block k hk (by simp)⟩
      have HSV1 : Hid (SV W0 P EP b s ub A1 ES w1) := by
        have hB : Below w.heap.size w w1 := ⟨hgrow.os, hgrow.tape, hgrow.output, hgrow.size, fun k hk => hgrow.block k hk (by simp)⟩
        refine HS.out.move (Below.on HS.out.low hB) (hB.block _ HS.out.bnd.lt) (hB.block _ HS.out.sol.lt) (hB.block _ (World.block_lt_of_cell? _ _ HS.out.ubc)) (fun p v hp hv => ?_) hB.size (fun a ha => ?_)
        · have hlt := World.block_lt_of_cell? _ _ hv
          refine ⟨fun ha => ?_, (hB.cell hlt).trans hv⟩
          rcases (HA1.out _).1 ha with h | h
          · exact hp h
          · omega
        · rcases (HA1.out _).1 ha with h | h
          · have := HS.out.av a h; omega
          · have := HS.out.low.size; omega
      clear hown hgrow hi hz0 hz1 hz2 d0 d1 d0' d1' eA1
      go_loopw [31] (fun i wr => ∃ (D R GD : Fo) (us vs2 ns : List Value) (j : Nat), j ≤ q ∧ i = .int .i64 j ∧ Hid (k = D.cat R ∧ vs = us ++ vs2 ∧ us.length = j ∧ ns.length = j) ∧ Hid (FoIn W0 Bt R vs2) ∧
        Hid (wr.ownsRow w.heap.size 57 1 (.slice (some ⟨w.heap.size, 0, none⟩) q q) q (ns ++ List.replicate (q - j) .nilIface)) ∧ Hid (FullF P D GD ∧ FoA A1 wr GD ns) ∧ Hid (∃ ES, SV W0 P EP b s ub A1 ES wr) ∧ Hid (w.grownBy wr (some s)) ∧ w.heap.size + 1 ≤ wr.heap.size) (fun i _ => q - (intOf i).toNat)
      case atStart => exact ⟨.nil, k, .nil, [], vs, [], 0, Nat.zero_le _, rfl, ⟨rfl, rfl, rfl, rfl⟩, HC.out.2.2.2.2.2.2, HO1, ⟨.nil, rfl⟩, ⟨ES, HSV1.out⟩, HG1, hs1⟩
      case round =>
        obtain ⟨D, R, GD, us, vs2, ns, j, hj, rfl, HF, HR, HO, HFO, HSV, HG, hsz⟩ := hrel
        obtain ⟨ESr, hsr⟩ := HSV.out
        have hwr : Below W0.heap.size W0 wr := hsr.low
        by_cases hlt : j < q
        · obtain ⟨c', k', r', rfl⟩ : ∃ c' k' r', R = .node c' k' r' := by
            cases R with
            | nil =>
              have h1 := HF.out
              have h2 : vs2 = [] := HR.out
              have h3 := HE.out.1
              rw [h1.2.1, h2, List.append_nil] at h3
              omega
            | node c' k' r' => exact ⟨c', k', r', rfl⟩
          obtain ⟨v, vr, rfl, hnode, hrest⟩ := HR.out
          have hok2 := (Fo.ok_cat D (.node c' k' r')).1 (HF.out.1 ▸ HK.out)
          have hl2 : D.cells.length + (k'.cells.length + r'.cells.length + 1) = k.cells.length := by
            rw [HF.out.1, Fo.cells_cat]; simp [Fo.cells]
          have hat : W0.cell? ⟨g, j, none⟩ = some v := by
            rw [HC.out.2.2.2.2.2.1 j (by rw [← HE.out.1]; exact hlt), HF.out.2.1]
            simp [List.getD, HF.out.2.2.1]
          have c5 : wr.cell? ⟨g, j, none⟩ = some v := (hwr.cell (World.block_lt_of_cell? _ _ hat)).trans hat
          have hvk : ∀ z ∈ vsF (.node c' k' .nil), r z < m := fun z hz => HVS.out z (by
            rw [HF.out.1]
            obtain ⟨cz, h1, h2, h3⟩ := vs_cell _ z hz
            rw [← h3]
            refine cell_vs _ cz ?_ h2
            rw [Fo.cells_cat]
            simp [Fo.cells] at h1 ⊢
            rcases h1 with h1 | h1
            · exact .inr (.inl h1)
            · exact .inr (.inr (.inl h1)))
          have HRC := HIH.out k'.cells.length (by omega) c' k' v A1 ESr wr (Nat.le_refl _) ⟨hok2.2.1, hok2.2.2.1, hok2.2.2.2.1, hok2.2.2.2.2.1, hok2.2.2.2.2.2.1, trivial⟩ ⟨v, [], rfl, hnode, rfl⟩ hvk hsr (HS.out.cell HG.out HUX.out) (by omega)
          obtain ⟨vt, vx, rfl⟩ := hnode.iface
          have HRR : Hid (FoIn W0 Bt r' vr) := hrest
          have HSR : Hid (SV W0 P EP b s ub A1 ESr wr) := hsr
          clear hok2 hl2 hat hwr hnode hrest HIH hvk hsr
          go_wp2_with fail
          refine HRC.mono ?_
          rintro e w3 ⟨g3, nt, nx, rfl, hfu3, hfo3, ⟨ES3, hsv3⟩, hg3⟩
          have hgs : w.heap.size ≠ s := by have := HS.out.sol.lt; omega
          have e0 : w3.cell? ⟨w.heap.size, j, none⟩ = some .nilIface := by
            have h1 : wr.cell? ⟨w.heap.size, j, none⟩ = some .nilIface := by
              rw [HO.out.cellAt j (by omega), List.getElem?_append_right (by have := HF.out.2.2.2; omega), List.getElem?_replicate, if_pos (by have := HF.out.2.2.2; omega)]
            exact cell_grown h1 hg3 hgs
          have e1 : w3.frozen? ⟨w.heap.size, j, none⟩ = false := by
            have hb3 := hg3.block w.heap.size (show w.heap.size < wr.heap.size by omega) (fun e => hgs (Option.some.inj e))
            exact (World.frozen?_of_block (a := ⟨w.heap.size, j, none⟩) hb3).trans (HO.out.frozenAt j)
          have HO3 : Hid (w3.ownsRow w.heap.size 57 1 (.slice (some ⟨w.heap.size, 0, none⟩) q q) q (ns ++ List.replicate (q - j) .nilIface)) := HO.out.kept hg3 (.inr (fun e => hgs (by simpa [Value.ownBlock] using e)))
          have HN : Hid (k = (D.cat (.node c' k' .nil)).cat r' ∧ vs = (us ++ [Value.iface vt vx]) ++ vr ∧ (us ++ [Value.iface vt vx]).length = j + 1 ∧ (ns ++ [Value.iface nt nx]).length = j + 1) := ⟨by rw [Fo.cat_assoc]; exact HF.out.1, by rw [HF.out.2.1]; simp, by simp [HF.out.2.2.1], by simp [HF.out.2.2.2]⟩
          have hst : ∀ p v, ¬ A1 p.block → w3.cell? p = some v → ¬ A1 p.block ∧ (w3.setCell ⟨w.heap.size, j, none⟩ (.iface nt nx)).cell? p = some v := fun p v hp hv => ⟨hp, by
            rw [World.cell?_setCell_other _ _ _ _ (fun e => hp ((HA1.out _).2 (.inr (by rw [← e]))))]
            exact hv⟩
          have HF3 : Hid (FullF P (D.cat (.node c' k' .nil)) (GD.cat g3.fo) ∧ FoA A1 (w3.setCell ⟨w.heap.size, j, none⟩ (.iface nt nx)) (GD.cat g3.fo) (ns ++ [Value.iface nt nx])) := by
            refine ⟨HFO.out.1.cat hfu3, ?_⟩
            have h1 : FoA A1 w3 GD ns := HFO.out.2.move (fun p v hp hv => ⟨hp, HSR.out.cell hg3 hv⟩) hg3.size
            exact FoA.move (FoIn.cat _ _ _ _ h1 hfo3) hst (by simp)
          have HG3 : Hid (w.grownBy (w3.setCell ⟨w.heap.size, j, none⟩ (.iface nt nx)) (some s)) := by
            have h1 := HG.out.andThen hg3 (fun j hj => .inr hj)
            exact ⟨h1.os, h1.tape, h1.output, by simpa using h1.size, fun k hk hr => (Below.heap_setCell _ _ _ _ (by simp; omega)).trans (h1.block k hk hr)⟩
          have HSV3 : Hid (∃ ES, SV W0 P EP b s ub A1 ES (w3.setCell ⟨w.heap.size, j, none⟩ (.iface nt nx))) := by
            refine ⟨ES3, hsv3.move ?_ ?_ ?_ ?_ hst (by simp) (fun a ha => by have := hsv3.av a ha; simpa using this)⟩
            · exact hsv3.low.setCell (p := ⟨w.heap.size, j, none⟩) HS.out.low.size _
            · exact Below.heap_setCell _ _ _ _ (by have := HS.out.bnd.lt; simp; omega)
            · exact Below.heap_setCell _ _ _ _ (by have := HS.out.sol.lt; simp; omega)
            · exact Below.heap_setCell _ _ _ _ (by have := World.block_lt_of_cell? _ _ HS.out.ubc; simp at this ⊢; omega)
          have hsz3 : w.heap.size + 1 ≤ w3.heap.size := Nat.le_trans hsz hg3.size
          clear hg3 hfo3 HRC hsv3 hfu3 hst hgs HSR
          go_wp2_with fail
          go_roundw
          case rel => exact ⟨D.cat (.node c' k' .nil), r', GD.cat g3.fo, us ++ [Value.iface vt vx], vr, ns ++ [Value.iface nt nx], j + 1, by omega, by go_num, HN, HRR, row_next HO3.out HF.out.2.2.2 hlt _, HF3, HSV3, HG3, by simpa using hsz3⟩
          case measure => simp [intOf]; omega
        · obtain rfl : j = q := by omega
          obtain rfl : R = .nil := by
            have h1 := FoIn.count _ _ HR.out
            have h2 := HE.out
            rw [HF.out.2.1, List.length_append] at h2
            have h3 := HF.out.2.2.1
            cases R with
            | nil => rfl
            | node a b d => simp [Fo.count] at h1; omega
          have hD : D = k := by have := HF.out.1; rw [Fo.cat_nil] at this; exact this.symm
          subst hD
          have x0 : wr.cell? ⟨bc, 0, none⟩ = some (.string str) := by
            rw [HES.out]
            exact (hwr.cell (World.block_lt_of_cell? _ _ HC.out.2.2.1)).trans HC.out.2.2.1
          have hns := HF.out.2.2.2
          have HFIN : Hid (RepOut W0 P EP b s ub A c D w (.returned (.iface 112 (.pointer (some ⟨wr.heap.size, 0, none⟩)))) (wr.alloc (Obj.cells #[Value.string str, Value.slice (some ⟨w.heap.size, 0, none⟩) j j] 115))) := by
            have hal : Below wr.heap.size wr (wr.alloc (Obj.cells #[Value.string str, Value.slice (some ⟨w.heap.size, 0, none⟩) j j] 115)) := (Below.refl _ _).alloc (Nat.le_refl _) _
            have hnew := heap_alloc_new wr (Obj.cells #[Value.string str, Value.slice (some ⟨w.heap.size, 0, none⟩) j j] 115)
            have hmv : ∀ p v, ¬ A1 p.block → wr.cell? p = some v → ¬ A p.block ∧ (wr.alloc (Obj.cells #[Value.string str, Value.slice (some ⟨w.heap.size, 0, none⟩) j j] 115)).cell? p = some v := fun p v hp hv => ⟨fun ha => hp ((HA1.out _).2 (.inl ha)), (hal.cell (World.block_lt_of_cell? _ _ hv)).trans hv⟩
            have hnA : ∀ a, w.heap.size ≤ a → ¬ A a := fun a ha h => by have := HS.out.av a h; omega
            refine ⟨(c, GD), _, _, rfl, .keep (fun h => by have := H0.out; omega) HFO.out.1 .nil, ?_, ⟨⟨ESr, ?_⟩, ?_⟩⟩
            · refine ⟨_, [], rfl, .inr (.inr (.inr ⟨H0.out, wr.heap.size, w.heap.size, ns, rfl, Nat.zero_le _, Nat.zero_le _, strikeA_cell.2 ⟨hnA _ (by show w.heap.size ≤ wr.heap.size; omega), by rw [← HES.out]; exact cell_of_row _ _ 0 _ _ _ hnew⟩, strikeA_cell.2 ⟨hnA _ (by show w.heap.size ≤ wr.heap.size; omega), by rw [hns]; exact cell_of_row _ _ 1 _ _ _ hnew⟩, by rw [strikeA_size]; simp; omega, fun i hi => strikeA_cell.2 ⟨hnA _ (Nat.le_refl _), ?_⟩, ?_⟩)), rfl⟩
              · refine Lib.cell?_alloc_marked _ ?_
                rw [HO.out.cellAt i (by omega), List.getElem?_append_left (by omega)]
                simp [List.getD, hi]
              · exact HFO.out.2.move hmv (by simp)
            · refine hsr.move (Below.on hsr.low hal) (hal.block _ hsr.bnd.lt) (hal.block _ hsr.sol.lt) (hal.block _ (World.block_lt_of_cell? _ _ hsr.ubc)) hmv (by simp) (fun a ha => ?_)
              have := HS.out.av a ha
              simp
              omega
            · exact HG.out.andThen (World.grownBy_alloc wr _ (some s)) (fun j hj => .inr hj)
          clear hns hsr hwr
          go_wp2_with fail
          go_ret
          exact HFIN.out
end
end Go.Proofs.YtaakpdakeolgeaaGreat

