/- Texts of UnM0, UnM1, UnM2. Own work of the verifier. -/
import Derived.Test.YtedlcmkhbccjgaaUqal
import Derived.Test.YtedlcmkhbccjgaaUqak
namespace Go.Proofs.Ytedlcmkhbccjgaa
open Go Go.RowKit Go.Maps
set_option linter.unusedVariables false

/-- The cells of a tree. -/
def tcs (t : Tr) : List Cel := t.1 :: t.2.cells
theorem tcs_fo (t : Tr) : t.fo.cells = tcs t := by simp [Tr.fo, Fo.cells, tcs]
def wgt (P : BM) (x : Int) : Nat := match P x with | some u => (tcs u).length | none => 0
/-- The cells of those that stand for something and have not been noted. -/
def phi (P : BM) (E : List (Int × Value)) : List Int → Nat
  | [] => 0
  | x :: r => (if (look E x).isSome = true then 0 else wgt P x) + phi P E r
theorem phi_mono {P : BM} {E E' : List (Int × Value)} (h : ∀ x, (look E x).isSome = true → (look E' x).isSome = true) : ∀ K : List Int, phi P E' K ≤ phi P E K
  | [] => Nat.le_refl _
  | x :: r => by
    have ih := phi_mono (P := P) h r
    unfold phi
    by_cases h1 : (look E x).isSome = true
    · rw [if_pos h1, if_pos (h x h1)]; omega
    · rw [if_neg h1]
      split <;> omega
theorem some_putE {E : List (Int × Value)} {x y : Int} {v : Value} : (look (putE E x v) y).isSome = true ↔ y = x ∨ (look E y).isSome = true := by
  rw [look_putE]
  by_cases e : y = x
  · simp [e]
  · simp [e]
theorem phi_put {P : BM} {E : List (Int × Value)} {x : Int} {v : Value} {u : Tr} (hp : P x = some u) (hn : look E x = none) : ∀ K : List Int, x ∈ K → phi P (putE E x v) K + (tcs u).length ≤ phi P E K
  | [], h => by cases h
  | y :: r, h => by
    have hm : phi P (putE E x v) r ≤ phi P E r := phi_mono (fun z hz => some_putE.2 (.inr hz)) r
    unfold phi
    by_cases e : y = x
    · subst e
      rw [if_pos (some_putE.2 (.inl rfl)), if_neg (by rw [hn]; simp)]
      have : wgt P y = (tcs u).length := by unfold wgt; rw [hp]
      omega
    · have h' : x ∈ r := by
        rcases List.mem_cons.1 h with h | h
        · exact absurd h.symm e
        · exact h
      have ih := phi_put (v := v) hp hn r h'
      have e2 : look (putE E x v) y = look E y := by rw [look_putE, if_neg e]
      rw [e2]
      omega
/-- What is noted behind the cells cs, with E noted before; K: those that stand for something. -/
structure MRel (P : BM) (K : List Int) (cs : List Cel) (E E' : List (Int × Value)) : Prop where
  cost : E'.length + phi P E' K ≤ E.length + phi P E K + cs.length
  mono : ∀ x, (look E x).isSome = true → (look E' x).isSome = true
  vars : ∀ c ∈ cs, c.1 = 0 → (look E' c.2.1).isSome = true
  news : ∀ x, (look E' x).isSome = true → (look E x).isSome = true ∨ ((∃ c ∈ cs, c.1 = 0 ∧ Reaches P x c.2.1) ∧ ∀ u, P x = some u → ∀ y ∈ vsT u, (look E' y).isSome = true)
theorem MRel.refl (P : BM) (K : List Int) (E : List (Int × Value)) : MRel P K [] E E := ⟨by simp, fun _ h => h, fun c hc => (by cases hc), fun x h => .inl h⟩
theorem MRel.app {P : BM} {K : List Int} {cs ds : List Cel} {E F G : List (Int × Value)} (h : MRel P K cs E F) (h' : MRel P K ds F G) : MRel P K (cs ++ ds) E G := by
  refine ⟨by have := h.cost; have := h'.cost; simp only [List.length_append]; omega, fun x hx => h'.mono x (h.mono x hx), fun c hc h0 => ?_, fun x hx => ?_⟩
  · rcases List.mem_append.1 hc with hc | hc
    · exact h'.mono _ (h.vars c hc h0)
    · exact h'.vars c hc h0
  · rcases h'.news x hx with hx | ⟨⟨c, hc, h0, hr⟩, hn⟩
    · rcases h.news x hx with hx | ⟨⟨c, hc, h0, hr⟩, hn⟩
      · exact .inl hx
      · exact .inr ⟨⟨c, List.mem_append.2 (.inl hc), h0, hr⟩, fun u hu y hy => h'.mono _ (hn u hu y hy)⟩
    · exact .inr ⟨⟨c, List.mem_append.2 (.inr hc), h0, hr⟩, hn⟩
/-- A cell that is no variable, or one that has been noted. -/
theorem MRel.skip (P : BM) (K : List Int) (c : Cel) (E : List (Int × Value)) (h : c.1 = 0 → (look E c.2.1).isSome = true) : MRel P K [c] E E := ⟨by simp, fun _ h => h, fun d hd h0 => by simp at hd; subst hd; exact h h0, fun x h => .inl h⟩
/-- A variable that stands for nothing. -/
theorem MRel.free {P : BM} (K : List Int) {c : Cel} (h0 : c.1 = 0) (E : List (Int × Value)) (v : Value) (h : P c.2.1 = none) : MRel P K [c] E (putE E c.2.1 v) := by
  refine ⟨?_, fun x hx => some_putE.2 (.inr hx), fun d hd _ => ?_, fun x hx => ?_⟩
  · have h1 := putE_len E c.2.1 v
    have h2 : phi P (putE E c.2.1 v) K ≤ phi P E K := phi_mono (fun z hz => some_putE.2 (.inr hz)) K
    simp only [List.length_singleton]
    split at h1 <;> omega
  · simp at hd; subst hd; exact some_putE.2 (.inl rfl)
  · rcases some_putE.1 hx with rfl | hx
    · exact .inr ⟨⟨c, by simp, h0, .inl rfl⟩, fun u hu => by rw [h] at hu; cases hu⟩
    · exact .inl hx
theorem cell_vs : ∀ (F : Fo) (c : Cel), c ∈ F.cells → c.1 = 0 → c.2.1 ∈ vsF F
  | .nil, c, h, _ => by cases h
  | .node d k r, c, h, h0 => by
    simp only [Fo.cells, List.mem_cons, List.mem_append] at h
    rw [vs_node]
    rcases h with rfl | h | h
    · exact .inl ⟨h0, rfl⟩
    · exact .inr (.inl (cell_vs k c h h0))
    · exact .inr (.inr (cell_vs r c h h0))
theorem vs_cell : ∀ (F : Fo) (x : Int), x ∈ vsF F → ∃ c ∈ F.cells, c.1 = 0 ∧ c.2.1 = x
  | .nil, x, h => by cases h
  | .node d k r, x, h => by
    rcases (vs_node d k r x).1 h with ⟨h0, rfl⟩ | h | h
    · exact ⟨d, by simp [Fo.cells], h0, rfl⟩
    · obtain ⟨c, hc, h1⟩ := vs_cell k x h
      exact ⟨c, by simp [Fo.cells, hc], h1⟩
    · obtain ⟨c, hc, h1⟩ := vs_cell r x h
      exact ⟨c, by simp [Fo.cells, hc], h1⟩
theorem mem_vsT (t : Tr) (x : Int) : x ∈ vsT t ↔ ∃ c ∈ tcs t, c.1 = 0 ∧ c.2.1 = x := by
  rw [← tcs_fo]
  constructor
  · exact fun h => vs_cell _ x h
  · rintro ⟨c, hc, h0, rfl⟩; exact cell_vs _ c hc h0
/-- A variable that stands for a tree, gone into. -/
theorem MRel.into {P : BM} {K : List Int} {c : Cel} (h0 : c.1 = 0) {E E' : List (Int × Value)} {v : Value} {u : Tr} (h : P c.2.1 = some u) (hn : look E c.2.1 = none) (hk : c.2.1 ∈ K) (hr : MRel P K (tcs u) (putE E c.2.1 v) E') : MRel P K [c] E E' := by
  have hin : ∀ y ∈ vsT u, (look E' y).isSome = true := fun y hy => by
    obtain ⟨d, hd, d0, rfl⟩ := (mem_vsT u y).1 hy
    exact hr.vars d hd d0
  refine ⟨?_, fun x hx => hr.mono x (some_putE.2 (.inr hx)), fun d hd _ => ?_, fun x hx => ?_⟩
  · have h1 := putE_len E c.2.1 v
    rw [hn] at h1
    simp only [Option.isSome_none, Bool.false_eq_true, if_false] at h1
    have h2 := phi_put (v := v) h hn K hk
    have h3 := hr.cost
    simp only [List.length_singleton]
    omega
  · simp at hd; subst hd; exact hr.mono _ (some_putE.2 (.inl rfl))
  · rcases hr.news x hx with hx | ⟨⟨d, hd, d0, hq⟩, hn⟩
    · rcases some_putE.1 hx with rfl | hx
      · exact .inr ⟨⟨c, by simp, h0, .inl rfl⟩, fun u' hu' => by rw [h] at hu'; cases hu'; exact hin⟩
      · exact .inl hx
    · exact .inr ⟨⟨c, by simp, h0, .of_mem h ((mem_vsT u _).2 ⟨d, hd, d0, rfl⟩) hq⟩, hn⟩
/-- In the end those are noted that are reached. -/
theorem MRel.reach {P : BM} {K : List Int} {t : Tr} {E' : List (Int × Value)} (h : MRel P K (tcs t) [] E') (v : Int) : (look E' v).isSome = true ↔ Reach P t v := by
  constructor
  · intro hv
    rcases h.news v hv with hv | ⟨⟨c, hc, h0, hr⟩, _⟩
    · simp [look] at hv
    · exact Reach.of_reaches ((mem_vsT t _).2 ⟨c, hc, h0, rfl⟩) hr
  · have main : ∀ {t : Tr} {v : Int}, Reach P t v → (∀ x ∈ vsT t, (look E' x).isSome = true) → (look E' v).isSome = true := by
      intro t v hr
      induction hr with
      | here hv => exact fun ha => ha _ hv
      | @thro t u x v hx hm _ ih =>
        intro ha
        refine ih fun y hy => ?_
        rcases h.news x (ha x hx) with hx | ⟨_, hn⟩
        · simp [look] at hx
        · exact hn u hm y hy
    intro hr
    refine main hr fun x hx => ?_
    obtain ⟨c, hc, h0, rfl⟩ := (mem_vsT t x).1 hx
    exact h.vars c hc h0
/-- A store into a map that may be great. -/
theorem VMap.putBig {w : World} {b N : Nat} {E : List (Int × Value)} (h : VMap w b N E) {t e : TypeId} (ht : Try.prog.underlying t = some (.map 67 e)) (hN : N ≤ 100000000) (x : Int) (h0 : 0 ≤ x) (h1 : x ≤ 1000000) (v : Value) :
    ∃ w', (Instr.mapUpdate t (.map (some b)) (.int .i64 x) v).run Try.prog w = .ok () w' ∧ VMap w' b (N + 1) (putE E x v) ∧ w.grownBy w' (some b) := by
  obtain ⟨D, hown, hsz, hhas, hat⟩ := h
  obtain ⟨w', hrun, hown', hg⟩ := hown.update lawVar ht (by unfold maxLen; omega) (key_of x h0 h1) (show anyE v = some (.held v, []) from rfl)
  have hm := hown.isMap
  have hkl : WideAt.IsKeyLit (.int .i64 x) := trivial
  refine ⟨w', hrun, ⟨_, hown', ?_, fun y => ?_, fun y z => ?_⟩, hg⟩
  · rw [size_put (hown.tidy lawVar), hhas, hsz, putE_len]
  · rw [look_putE]
    by_cases e : y = x
    · subst e; rw [has_put_same hm hkl]; simp
    · rw [has_put_other (by simpa using e), hhas]; simp [e]
  · rw [look_putE]
    by_cases e : y = x
    · subst e
      rw [atKey_put_same hm hkl]; simp
    · rw [atKey_put_other (by simpa using e), hat]; simp [e]


end Go.Proofs.Ytedlcmkhbccjgaa

namespace Go.Proofs.Ytedlcmkhbccjgaa
open Go Go.RowKit
set_option linter.unusedVariables false

theorem zeroUnit (w : World) : (zeroValue 153).run Try.prog w = .ok (.agg #[]) w := by kernel_rfl
/-- What meet leaves as it is. -/
structure MeK (W0 : World) (EP : List (Int × Value)) (b ub mb : Nat) (W : World) : Prop where
  low : Below W0.heap.size W0 W
  ubc : W.cell? ⟨ub, 0, none⟩ = some (.map (some b))
  bnd : VMap W b EP.length EP
theorem cell_grown {w w' : World} {b mb : Nat} {v : Value} {o : Nat} (h : w.cell? ⟨b, o, none⟩ = some v) (hg : w.grownBy w' (some mb)) (hne : b ≠ mb) : w'.cell? ⟨b, o, none⟩ = some v := by
  have hlt := World.block_lt_of_cell? _ _ h
  have hb := hg.block b hlt (fun e => hne (Option.some.inj e))
  exact (World.cell?_of_block (a := ⟨b, o, none⟩) hb).trans h
theorem cell_map_ne {w : World} {b mb N : Nat} {E : List (Int × Value)} {v : Value} {o : Nat} (h : w.cell? ⟨b, o, none⟩ = some v) (hm : VMap w mb N E) : b ≠ mb := fun e => by
  obtain ⟨D, ⟨es, clock, h1, _⟩, _⟩ := hm
  subst e
  simp [World.cell?, h1] at h
theorem MeK.grown {W0 : World} {EP : List (Int × Value)} {b ub mb N : Nat} {E : List (Int × Value)} {W W' : World} (h : MeK W0 EP b ub mb W) (hm : VMap W mb N E) (hne : b ≠ mb) (hlow : W0.heap.size ≤ mb) (hg : W.grownBy W' (some mb)) : MeK W0 EP b ub mb W' :=
  ⟨h.low.grown hg h.low.size (fun k e => by cases e; exact hlow), cell_grown h.ubc hg (cell_map_ne h.ubc hm), h.bnd.of_block (hg.block b h.bnd.lt (fun e => hne (Option.some.inj e)))⟩
/-- The map of those that were met. -/
def VMet (w : World) (mb : Nat) (E : List (Int × Value)) : Prop := VMap w mb E.length E ∧ ∀ x y, look E x = some y → y = .agg #[]
theorem VMet.put {w : World} {mb N : Nat} {E : List (Int × Value)} {x : Int} (h : VMap w mb N (putE E x (.agg #[]))) (hu : ∀ x y, look E x = some y → y = .agg #[]) : VMet w mb (putE E x (.agg #[])) := ⟨h.tight, fun z y hz => by
  rw [look_putE] at hz
  split at hz
  · cases hz; rfl
  · exact hu z y hz⟩
theorem VMap.allocd {w : World} {b N : Nat} {E : List (Int × Value)} (h : VMap w b N E) (o : Obj) : VMap (w.alloc o) b N E := h.of_block (Below.heap_alloc _ _ _ h.lt)
/-- What a visit, a walk or meet does. -/
def MeOut (P : BM) (K : List Int) (mb : Nat) (cs : List Cel) (E : List (Int × Value)) (w : World) (e : Ending) (w' : World) : Prop := e = .returned (.tuple #[]) ∧ ∃ E', MRel P K cs E E' ∧ VMet w' mb E' ∧ w.grownBy w' (some mb)
/-- meet, where at most m cells are left. -/
def MeetOk (W0 : World) (Bt : Nat) (P : BM) (EP : List (Int × Value)) (b ub mb m : Nat) : Prop := ∀ (t : Tr) (v : Value) (E : List (Int × Value)) (w : World), phi P E (EP.map Prod.fst) ≤ m → t.fo.ok → FoIn W0 Bt t.fo [v] → MeK W0 EP b ub mb w → VMet w mb E → E.length + phi P E (EP.map Prod.fst) + (tcs t).length ≤ 90000000 →
  Calls Try.prog 96 #[.pointer (some ⟨ub, 0, none⟩), v, .map (some mb)] w (MeOut P (EP.map Prod.fst) mb (tcs t) E w)

section
variable (W0 : World) (Bt : Nat) (P : BM) (EP : List (Int × Value)) (b ub mb : Nat)
set_option maxRecDepth 100000 in
set_option maxHeartbeats 1000000 in
theorem meetVisit_any (hbm : BMIn W0 Bt P EP) (hPok : ∀ x u, P x = some u → u.fo.ok ∧ (tcs u).length ≤ 2000) (hne : b ≠ mb) (hlow : W0.heap.size ≤ mb) (m : Nat) (hI : ∀ k, k < m → MeetOk W0 Bt P EP b ub mb k) (mx ux : Nat) (c : Cel) (k : Fo) (v : Value) (E : List (Int × Value)) (w : World)
    (hphi : phi P E (EP.map Prod.fst) ≤ m) (hok : (Fo.node c k .nil).ok) (hn : NodeIn W0 Bt c (fun kv => FoIn W0 Bt k kv) v) (hk : MeK W0 EP b ub mb w) (hmu : VMet w mb E) (hmx : w.cell? ⟨mx, 0, none⟩ = some (.map (some mb))) (hux : w.cell? ⟨ux, 0, none⟩ = some (.pointer (some ⟨ub, 0, none⟩))) (hbig : E.length + phi P E (EP.map Prod.fst) + 1 ≤ 90000000) :
    Calls Try.prog 100 #[v, .pointer (some ⟨mx, 0, none⟩), .pointer (some ⟨ux, 0, none⟩)] w (MeOut P (EP.map Prod.fst) mb [c] E w) := by
  have a1 := isVar
  obtain ⟨hm0, hu⟩ := hmu
  have hm := hm0.allocd (.cells #[] 153)
  have hgz := World.grownBy_alloc w (.cells #[] 153) (some mb)
  have hkz := hk.grown hm0 hne hlow hgz
  have hmxz : (w.alloc (.cells #[] 153)).cell? ⟨mx, 0, none⟩ = some (.map (some mb)) := cell_grown hmx hgz (cell_map_ne hmx hm0)
  have huxz : (w.alloc (.cells #[] 153)).cell? ⟨ux, 0, none⟩ = some (.pointer (some ⟨ub, 0, none⟩)) := cell_grown hux hgz (cell_map_ne hux hm0)
  by_cases h0 : c.1 = 0
  · have hv : v = .iface 67 (.int .i64 c.2.1) := by
      rcases hn with ⟨_, e⟩ | ⟨e, _⟩ | ⟨e, _⟩ | ⟨e, _⟩
      · exact e
      · omega
      · omega
      · omega
    subst hv
    have hcb := hok.1
    rw [h0] at hcb
    have hx : 0 ≤ c.2.1 ∧ c.2.1 ≤ 1000000 := by simp [cellB] at hcb; exact ⟨hcb.1, hcb.2.1⟩
    have hlk := hm0.look (t := 151) Try.underlying151 (zeroUnit w) c.2.1 hx.1 hx.2
    cases hl : look E c.2.1 with
    | some y =>
      rw [hl] at hlk
      simp only [Option.isSome_some] at hlk
      have hy := hu _ _ hl
      subst hy
      have HF : Hid (MeOut P (EP.map Prod.fst) mb [c] E w (.returned (.tuple #[])) (w.alloc (.cells #[] 153))) := ⟨rfl, E, .skip _ _ _ _ (fun _ => by rw [hl]; rfl), ⟨hm, hu⟩, hgz⟩
      obtain ⟨x, ex⟩ : ∃ x, x = c.2.1 := ⟨_, rfl⟩
      rw [← ex] at hlk ⊢
      clear hbm hPok hI hphi hok hn hk hm hux hbig hcb hx hl h0 ex hm0 hu hgz hkz hmxz huxz
      go_enter Try.func100, Try.ntmps100
      go_wp2_with fail
      go_end0
      exact HF.out
    | none =>
      rw [hl] at hlk
      simp only [Option.isSome_none] at hlk
      obtain ⟨w1, hrun, hm1, hg1⟩ := hm.putBig (t := 151) Try.underlying151 (by omega) c.2.1 hx.1 hx.2 (.agg #[])
      have hk1 := hkz.grown hm hne hlow hg1
      have hmx1 := cell_grown hmxz hg1 (cell_map_ne hmxz hm)
      have hux1 := cell_grown huxz hg1 (cell_map_ne huxz hm)
      have hg1' := hgz.andThen hg1 (fun j hj => .inr hj)
      have hub1 := hk1.ubc
      have hlb := hk1.bnd.look (t := 89) Try.underlying89 (zeroTerm w1) c.2.1 hx.1 hx.2
      cases hp : P c.2.1 with
      | none =>
        rw [hbm.2 _ hp] at hlb
        simp only [Option.isSome_none] at hlb
        have HF : Hid (MeOut P (EP.map Prod.fst) mb [c] E w (.returned (.tuple #[])) w1) := ⟨rfl, _, .free _ h0 E (.agg #[]) hp, .put hm1 hu, hg1'⟩
        obtain ⟨x, ex⟩ : ∃ x, x = c.2.1 := ⟨_, rfl⟩
        rw [← ex] at hlk hlb hrun ⊢
        clear hbm hPok hI hphi hok hn hk hm hbig hcb hx hl h0 ex hk1 hm1 hg1 hp hm0 hu hgz hkz hg1' hux
        go_enter Try.func100, Try.ntmps100
        go_wp2_with fail
        go_end0
        exact HF.out
      | some u =>
        obtain ⟨vu, hlu, hfu⟩ := hbm.1 _ _ hp
        rw [hlu] at hlb
        simp only [Option.isSome_some] at hlb
        have hK : c.2.1 ∈ EP.map Prod.fst := by
          cases hq : decide (c.2.1 ∈ EP.map Prod.fst) with
          | true => exact of_decide_eq_true hq
          | false => rw [(look_none EP c.2.1).2 (of_decide_eq_false hq)] at hlu; cases hlu
        have hpp := phi_put (v := .agg #[]) hp hl _ hK
        have hpos : 1 ≤ (tcs u).length := by simp [tcs]
        have hlen := putE_len E c.2.1 (.agg #[])
        rw [hl] at hlen
        simp only [Option.isSome_none, Bool.false_eq_true, if_false] at hlen
        obtain ⟨uo, _⟩ := hPok _ _ hp
        have HI := hI (phi P (putE E c.2.1 (.agg #[])) (EP.map Prod.fst)) (by omega) u vu (putE E c.2.1 (.agg #[])) w1 (Nat.le_refl _) uo hfu hk1 (.put hm1 hu) (by omega)
        have HO : Hid (∀ e w', MeOut P (EP.map Prod.fst) mb (tcs u) (putE E c.2.1 (.agg #[])) w1 e w' → MeOut P (EP.map Prod.fst) mb [c] E w e w') := fun e w' ⟨h1, E', h2, h3, h4⟩ => ⟨h1, E', .into h0 hp hl hK h2, h3, hg1'.andThen h4 (fun j hj => .inr hj)⟩
        have HI2 := HI.mono HO.out
        have HI3 := HI2.mono (fun e w' h => (⟨h.1, h⟩ : e = .returned (.tuple #[]) ∧ MeOut P (EP.map Prod.fst) mb [c] E w e w'))
        obtain ⟨x, ex⟩ : ∃ x, x = c.2.1 := ⟨_, rfl⟩
        rw [← ex] at hlk hlb hrun ⊢
        clear hbm hPok hI hphi hok hn hk hm hbig hcb hx hl h0 ex hk1 hm1 hg1 hp hlu hfu hK hpp hpos hlen uo HI HI2 HO hm0 hu hgz hkz hg1' hux
        go_enter Try.func100, Try.ntmps100
        go_wp2_with fail
        refine HI3.mono ?_
        rintro e w2 ⟨rfl, hfin⟩
        have HF : Hid (MeOut P (EP.map Prod.fst) mb [c] E w (.returned (.tuple #[])) w2) := hfin
        clear hfin HI3
        go_wp2_with fail
        go_end0
        exact HF.out
  · have hty : ∃ t y, v = .iface t y ∧ ∀ W, (Instr.typeAssert (.iface t y) 53 67 true).run Try.prog W = .ok (.tuple #[.int .i64 0, .bool false]) W := by
      rcases hn with ⟨e, _⟩ | ⟨_, e⟩ | ⟨_, e⟩ | ⟨_, b, g, vs, e, _⟩
      · exact absurd e h0
      · exact ⟨_, _, e, fun W => noVar_num W _⟩
      · exact ⟨_, _, e, fun W => noVar_atom W _⟩
      · exact ⟨_, _, e, fun W => noVar_comp W _⟩
    obtain ⟨t, y, rfl, a2⟩ := hty
    have HF : Hid (MeOut P (EP.map Prod.fst) mb [c] E w (.returned (.tuple #[])) (w.alloc (.cells #[] 153))) := ⟨rfl, E, .skip _ _ _ _ (fun h => absurd h h0), ⟨hm, hu⟩, hgz⟩
    have HF2 : Hid (MeOut P (EP.map Prod.fst) mb [c] E w (.returned (.tuple #[])) w) := ⟨rfl, E, .skip _ _ _ _ (fun h => absurd h h0), ⟨hm0, hu⟩, .refl _ _⟩
    clear hbm hPok hI hphi hok hn hk hm hux hbig h0 a1 hm0 hu hgz hkz hmxz huxz
    go_enter Try.func100, Try.ntmps100
    go_wp2_with fail
    go_end0
    first | exact HF.out | exact HF2.out
end

end Go.Proofs.Ytedlcmkhbccjgaa

namespace Go.Proofs.Ytedlcmkhbccjgaa
open Go Go.RowKit
set_option linter.unusedVariables false

section
variable (W0 : World) (Bt : Nat) (P : BM) (EP : List (Int × Value)) (b ub mb : Nat)
set_option maxRecDepth 100000 in
set_option maxHeartbeats 1000000 in
theorem meetWalk_any (hbm : BMIn W0 Bt P EP) (hPok : ∀ x u, P x = some u → u.fo.ok ∧ (tcs u).length ≤ 2000) (hne : b ≠ mb) (hlow : W0.heap.size ≤ mb) (m : Nat) (hI : ∀ k, k < m → MeetOk W0 Bt P EP b ub mb k) (mx ux : Nat) : ∀ (N : Nat) (c : Cel) (k : Fo) (v : Value) (E : List (Int × Value)) (w : World), k.cells.length ≤ N → (Fo.node c k .nil).ok → FoIn W0 Bt (.node c k .nil) [v] →
    phi P E (EP.map Prod.fst) ≤ m → MeK W0 EP b ub mb w → VMet w mb E → w.cell? ⟨mx, 0, none⟩ = some (.map (some mb)) → w.cell? ⟨ux, 0, none⟩ = some (.pointer (some ⟨ub, 0, none⟩)) → E.length + phi P E (EP.map Prod.fst) + (1 + k.cells.length) ≤ 90000000 →
    Calls Try.prog 72 #[v, .func (.func 100) #[] #[.pointer (some ⟨mx, 0, none⟩), .pointer (some ⟨ux, 0, none⟩)]] w (MeOut P (EP.map Prod.fst) mb (c :: k.cells) E w) := by
  intro N
  induction N using Nat.strongRecOn with
  | _ N ih =>
    intro c k v E w hN hok hfo hphi hk hm hmx hux hbig
    obtain ⟨v', vr, e, hnode, _⟩ := hfo
    obtain ⟨rfl, rfl⟩ := List.cons.inj e
    have HV := meetVisit_any W0 Bt P EP b ub mb hbm hPok hne hlow m hI mx ux c k v E w hphi hok hnode hk hm hmx hux (by omega)
    have HIH : Hid _ := ih
    have HW : Hid (Below W0.heap.size W0 w) := hk.low
    have HK0 : Hid (MeK W0 EP b ub mb w) := hk
    have HM0 : Hid (VMap w mb E.length E) := hm.1
    have HMX : Hid (w.cell? ⟨mx, 0, none⟩ = some (.map (some mb))) := hmx
    have HUX : Hid (w.cell? ⟨ux, 0, none⟩ = some (.pointer (some ⟨ub, 0, none⟩))) := hux
    have HPH : Hid (phi P E (EP.map Prod.fst) ≤ m ∧ E.length + phi P E (EP.map Prod.fst) + (1 + k.cells.length) ≤ 90000000) := ⟨hphi, hbig⟩
    clear hphi hbig hk hm hmx hux hbm hPok hI
    have leaf : ∀ (t : TypeId) (x : Value), v = .iface t x → (t = 67 ∨ t = 139 ∨ t = 140) → c.1 ≠ 3 → Calls Try.prog 72 #[v, .func (.func 100) #[] #[.pointer (some ⟨mx, 0, none⟩), .pointer (some ⟨ux, 0, none⟩)]] w (MeOut P (EP.map Prod.fst) mb (c :: k.cells) E w) := fun t x hv ht h3 => by
      have hk : k = .nil := hok.2.2.2.1 h3
      subst hk hv
      have HA := fun W => argsLeaf_any t x W ht
      clear hok hnode HIH ih e
      go_enter Try.func72, Try.ntmps72
      go_wp2_with fail
      refine HV.mono ?_
      rintro e w1 ⟨rfl, hst⟩
      have HST : Hid (∃ E', MRel P (EP.map Prod.fst) [c] E E' ∧ VMet w1 mb E' ∧ w.grownBy w1 (some mb)) := hst
      clear hst
      go_wp2_with fail
      refine (HA _).mono ?_
      rintro e w2 ⟨rfl, rfl⟩
      go_wp2_with fail
      refine wp_loop_rounds 1 ?_
      rw [rounds_succ]
      go_wp2_with fail
      go_end0
      exact ⟨rfl, HST.out⟩
    rcases hnode with ⟨h0, hv⟩ | ⟨h0, hv⟩ | ⟨h0, hv⟩ | ⟨h0, bc, g, vs, hv, hcomp⟩
    · exact leaf _ _ hv (.inl rfl) (by rw [h0]; decide)
    · exact leaf _ _ hv (.inr (.inl rfl)) (by rw [h0]; decide)
    · exact leaf _ _ hv (.inr (.inr rfl)) (by rw [h0]; decide)
    · subst hv
      clear leaf
      have HC : Hid (CompAt W0 Bt c.2.2 k bc g vs) := hcomp
      have hvl2 : vs.length = k.count := FoIn.count _ _ hcomp.2.2.2.2.2.2
      obtain ⟨q, eq⟩ : ∃ q, q = vs.length := ⟨_, rfl⟩
      have HE : Hid (q = vs.length ∧ vs.length = k.count) := ⟨eq, hvl2⟩
      have hq : q ≤ 90000000 := by have := Fo.count_le k; have := HPH.out.2; omega
      have HK : Hid k.ok := hok.2.2.2.2.1
      have HBB : Hid (bc < W0.heap.size ∧ W0.cell? ⟨bc, 1, none⟩ = some (.slice (some ⟨g, 0, none⟩) q q)) := ⟨World.block_lt_of_cell? _ _ hcomp.2.2.2.1, by rw [eq]; exact hcomp.2.2.2.1⟩
      clear hcomp hok ih e eq hvl2
      go_enter Try.func72, Try.ntmps72
      go_wp2_with fail
      refine HV.mono ?_
      rintro e w1 ⟨rfl, E1, hr1, hm1, hg1⟩
      have hk1 := HK0.out.grown HM0.out hne hlow hg1
      have d1 : w1.cell? ⟨bc, 1, none⟩ = some (.slice (some ⟨g, 0, none⟩) q q) := ((hk1.low.cell (p := ⟨bc, 1, none⟩) HBB.out.1)).trans HBB.out.2
      have HST : Hid (∃ E2, MRel P (EP.map Prod.fst) (c :: Fo.nil.cells) E E2 ∧ VMet w1 mb E2) := ⟨E1, hr1, hm1⟩
      have HB1 : Hid (w.grownBy w1 (some mb)) := hg1
      clear hr1 hm1 hg1 hk1 HV
      go_wp2_with fail
      refine (argsComp_any bc g q _ d1).mono ?_
      rintro e w2 ⟨rfl, hw2⟩
      subst hw2
      clear d1
      go_wp2_with fail
      go_loopw [12] (fun i wr => ∃ (D R : Fo) (us vs2 : List Value) (j : Nat), j ≤ q ∧ i = .int .i64 j ∧ Hid (k = D.cat R ∧ vs = us ++ vs2 ∧ us.length = j) ∧ Hid (FoIn W0 Bt R vs2) ∧ Hid (∃ E2, MRel P (EP.map Prod.fst) (c :: D.cells) E E2 ∧ VMet wr mb E2) ∧ Hid (w.grownBy wr (some mb))) (fun i _ => q - (intOf i).toNat)
      case atStart => exact ⟨.nil, k, [], vs, 0, Nat.zero_le _, rfl, ⟨rfl, rfl, rfl⟩, HC.out.2.2.2.2.2.2, HST, HB1⟩
      case round =>
        obtain ⟨D, R, us, vs2, j, hj, rfl, HF, HR, HS, HB⟩ := hrel
        by_cases hlt : j < q
        · obtain ⟨c', k', r', rfl⟩ : ∃ c' k' r', R = .node c' k' r' := by
            cases R with
            | nil =>
              have h1 := HF.out
              have h2 : vs2 = [] := HR.out
              have h3 := HE.out.1
              rw [h1.2.1, h2, List.append_nil] at h3
              omega
            | node c' k' r' => exact ⟨c', k', r', rfl⟩
          obtain ⟨v, vr, rfl, hnode, hrest⟩ := HR.out
          have hok2 := (Fo.ok_cat D (.node c' k' r')).1 (HF.out.1 ▸ HK.out)
          have hl2 : D.cells.length + (k'.cells.length + r'.cells.length + 1) = k.cells.length := by
            rw [HF.out.1, Fo.cells_cat]; simp [Fo.cells]
          have hat : W0.cell? ⟨g, j, none⟩ = some v := by
            rw [HC.out.2.2.2.2.2.1 j (by rw [← HE.out.1]; exact hlt), HF.out.2.1]
            simp [List.getD, HF.out.2.2]
          have hkr := HK0.out.grown HM0.out hne hlow HB.out
          have c5 : wr.cell? ⟨g, j, none⟩ = some v := (hkr.low.cell (World.block_lt_of_cell? _ _ hat)).trans hat
          obtain ⟨E2, hr2, hm2⟩ := HS.out
          have hph := phi_mono (P := P) hr2.mono (EP.map Prod.fst)
          have hcost := hr2.cost
          simp only [List.length_cons] at hcost
          have HWK := HIH.out k'.cells.length (by omega) c' k' v E2 wr (Nat.le_refl _) ⟨hok2.2.1, hok2.2.2.1, hok2.2.2.2.1, hok2.2.2.2.2.1, hok2.2.2.2.2.2.1, trivial⟩ ⟨v, [], rfl, hnode, rfl⟩ (by have := HPH.out.1; omega) hkr hm2 (cell_grown HMX.out HB.out (cell_map_ne HMX.out HM0.out)) (cell_grown HUX.out HB.out (cell_map_ne HUX.out HM0.out)) (by have := HPH.out.2; omega)
          obtain ⟨vt, vx, rfl⟩ := hnode.iface
          have HRR : Hid (FoIn W0 Bt r' vr) := hrest
          have HR2 : Hid (MRel P (EP.map Prod.fst) (c :: D.cells) E E2) := hr2
          clear hok2 hl2 hat hkr hnode hrest HIH hr2 hm2 hph hcost
          go_wp2_with fail
          refine HWK.mono ?_
          rintro e w3 ⟨rfl, E3, hr3, hm3, hg3⟩
          have HN : Hid (k = (D.cat (.node c' k' .nil)).cat r' ∧ vs = (us ++ [.iface vt vx]) ++ vr ∧ (us ++ [Value.iface vt vx]).length = j + 1) := ⟨by rw [Fo.cat_assoc]; exact HF.out.1, by rw [HF.out.2.1]; simp, by simp [HF.out.2.2]⟩
          have HST3 : Hid (∃ E2, MRel P (EP.map Prod.fst) (c :: (D.cat (.node c' k' .nil)).cells) E E2 ∧ VMet w3 mb E2) := ⟨E3, by
            have h := HR2.out.app hr3
            have e : (c :: D.cells) ++ (c' :: k'.cells) = c :: (D.cat (.node c' k' .nil)).cells := by rw [Fo.cells_cat]; simp [Fo.cells]
            rwa [e] at h, hm3⟩
          have HB3 : Hid (w.grownBy w3 (some mb)) := HB.out.andThen hg3 (fun j hj => .inr hj)
          clear hr3 hm3 hg3 HWK
          go_wp2_with fail
          go_roundw
          case rel => exact ⟨D.cat (.node c' k' .nil), r', us ++ [.iface vt vx], vr, j + 1, by omega, by go_num, HN, HRR, HST3, HB3⟩
          case measure => simp [intOf]; omega
        · obtain rfl : j = q := by omega
          obtain rfl : R = .nil := by
            have h1 := FoIn.count _ _ HR.out
            have h2 := HE.out
            rw [HF.out.2.1, List.length_append] at h2
            have h3 := HF.out.2.2
            cases R with
            | nil => rfl
            | node a b d => simp [Fo.count] at h1; omega
          have HF' : Hid (D = k) := by have := HF.out.1; rw [Fo.cat_nil] at this; exact this.symm
          go_wp2_with fail
          go_end0
          refine ⟨rfl, ?_⟩
          obtain ⟨E2, h1, h2⟩ := HS.out
          rw [HF'.out] at h1
          exact ⟨E2, h1, h2, HB.out⟩
set_option maxRecDepth 100000 in
set_option maxHeartbeats 1000000 in
theorem meet_any (hbm : BMIn W0 Bt P EP) (hPok : ∀ x u, P x = some u → u.fo.ok ∧ (tcs u).length ≤ 2000) (hne : b ≠ mb) (hlow : W0.heap.size ≤ mb) : ∀ m, MeetOk W0 Bt P EP b ub mb m := by
  intro m
  induction m using Nat.strongRecOn with
  | _ m ih =>
    intro t v E w hphi hok hf hk hm hbig
    obtain ⟨w1, e1⟩ : ∃ w1, w1 = (w.alloc (.cells #[.pointer (some ⟨ub, 0, none⟩)] 81)).alloc (.cells #[.map (some mb)] 151) := ⟨_, rfl⟩
    have hg : w.grownBy w1 (some mb) := by
      rw [e1]
      exact ((World.grownBy_alloc w _ (some mb)).andThen (World.grownBy_alloc _ _ (some mb)) (fun j hj => .inr hj))
    have hmx : w1.cell? ⟨w.heap.size + 1, 0, none⟩ = some (.map (some mb)) := by
      rw [e1]
      have := World.cell?_alloc_new (w.alloc (.cells #[.pointer (some ⟨ub, 0, none⟩)] 81)) #[.map (some mb)] 151 0
      rw [World.size_alloc] at this
      exact this
    have hux : w1.cell? ⟨w.heap.size, 0, none⟩ = some (.pointer (some ⟨ub, 0, none⟩)) := by
      rw [e1]
      rw [((Below.refl (w.heap.size + 1) (w.alloc (.cells #[.pointer (some ⟨ub, 0, none⟩)] 81))).alloc (by simp) _).cell (p := ⟨w.heap.size, 0, none⟩) (by simp)]
      simp
    have hm1 : VMet w1 mb E := ⟨by rw [e1]; exact (hm.1.allocd _).allocd _, hm.2⟩
    have HWK := meetWalk_any W0 Bt P EP b ub mb hbm hPok hne hlow m ih (w.heap.size + 1) w.heap.size t.2.cells.length t.1 t.2 v E w1 (Nat.le_refl _) hok hf hphi (hk.grown hm.1 hne hlow hg) hm1 hmx hux (by simp only [tcs, List.length_cons] at hbig; omega)
    have HO : Hid (∀ e w', MeOut P (EP.map Prod.fst) mb (t.1 :: t.2.cells) E w1 e w' → e = .returned (.tuple #[]) ∧ MeOut P (EP.map Prod.fst) mb (tcs t) E w e w') := fun e w' ⟨h1, E', h2, h3, h4⟩ => ⟨h1, h1, E', h2, h3, hg.andThen h4 (fun j hj => .inr hj)⟩
    have HW2 := HWK.mono HO.out
    obtain ⟨tv, yv, rfl⟩ := FoIn.iface (show FoIn W0 Bt (.node t.1 t.2 .nil) [v] from hf)
    clear hphi hok hf hk hm hbig hg hmx hux hm1 HWK HO ih hbm hPok
    go_enter Try.func96, Try.ntmps96
    go_wp2_with fail
    rw [← e1]
    refine HW2.mono ?_
    rintro e w2 ⟨rfl, hfin⟩
    have HF : Hid (MeOut P (EP.map Prod.fst) mb (tcs t) E w (.returned (.tuple #[])) w2) := hfin
    clear hfin HW2
    go_wp2_with fail
    go_end0
    exact HF.out
end

end Go.Proofs.Ytedlcmkhbccjgaa

