/- listOf. Own work of the verifier. -/
import Derived.Test.YtopdhjnpcpkmlaaMake3
namespace Go.Proofs.Ytopdhjnpcpkmlaa
open Go Go.RowKit Go.Shelf
set_option linter.unusedVariables false
attribute [local go_sem] Oper.semAt_some

theorem NodeIn.imp2 {w w' : World} {B B' : Nat} {c : Cel} {K K' : List Value → Prop} {v : Value} (h : NodeIn w B c K v) (hB : B' ≤ B) (hc : ∀ p v, w.cell? p = some v → w'.cell? p = some v) (hs : w.heap.size ≤ w'.heap.size) (hK : ∀ vs, K vs → K' vs) : NodeIn w' B' c K' v := by
  rcases h with h | h | h | ⟨h, b, g, vs, hv, h1, h2, c0, c1, hg, cg, hk⟩
  · exact .inl h
  · exact .inr (.inl h)
  · exact .inr (.inr (.inl h))
  · exact .inr (.inr (.inr ⟨h, b, g, vs, hv, by omega, by omega, hc _ _ c0, hc _ _ c1, by omega, fun i hi => hc _ _ (cg i hi), hK _ hk⟩))
theorem FoIn.imp2 {w w' : World} {B B' : Nat} (hB : B' ≤ B) (hc : ∀ p v, w.cell? p = some v → w'.cell? p = some v) (hs : w.heap.size ≤ w'.heap.size) : ∀ (F : Fo) (vs : List Value), FoIn w B F vs → FoIn w' B' F vs
  | .nil, vs, h => h
  | .node c k r, vs, ⟨v, vr, e, hn, hr⟩ => ⟨v, vr, e, hn.imp2 hB hc hs (fun kv => FoIn.imp2 hB hc hs k kv), FoIn.imp2 hB hc hs r vr hr⟩

/-- A world with one block struck out. -/
def strike (W : World) (X : Nat) : World := W.putObj X (.deferred none)
theorem strike_size (W : World) (X : Nat) : (strike W X).heap.size = W.heap.size := World.putObj_size
theorem strike_cell {W : World} {X : Nat} (hX : X < W.heap.size) {p : Addr} {v : Value} (h : (strike W X).cell? p = some v) : p.block ≠ X ∧ W.cell? p = some v := by
  by_cases e : p.block = X
  · exfalso
    subst e
    simp only [strike, World.cell?, World.putObj_heap_same hX] at h
    cases h
  · refine ⟨e, ?_⟩
    simpa only [strike, World.cell?, World.putObj_heap_other e] using h
theorem strike_of {W : World} {X : Nat} {p : Addr} {v : Value} (e : p.block ≠ X) (h : W.cell? p = some v) : (strike W X).cell? p = some v := by
  simpa only [strike, World.cell?, World.putObj_heap_other e] using h

/-- Trees that keep clear of a block. -/
def FoX (W : World) (X B : Nat) (F : Fo) (vs : List Value) : Prop := FoIn (strike W X) B F vs
theorem FoX.imp {W W' : World} {X B : Nat} {F : Fo} {vs : List Value} (h : FoX W X B F vs) (hX : X < W.heap.size) (hc : ∀ p v, p.block ≠ X → W.cell? p = some v → W'.cell? p = some v) (hs : W.heap.size ≤ W'.heap.size) : FoX W' X B F vs :=
  FoIn.imp2 (Nat.le_refl _) (fun p v hp => strike_of (strike_cell hX hp).1 (hc p v (strike_cell hX hp).1 (strike_cell hX hp).2)) (by rw [strike_size, strike_size]; exact hs) F vs h
theorem FoX.foIn {W : World} {X B : Nat} {F : Fo} {vs : List Value} (h : FoX W X B F vs) (hX : X < W.heap.size) : FoIn W B F vs :=
  FoIn.imp2 (Nat.le_refl _) (fun p v hp => (strike_cell hX hp).2) (by rw [strike_size]; exact Nat.le_refl _) F vs h
theorem FoIn.foX {w W : World} {B : Nat} {F : Fo} {vs : List Value} (h : FoIn w B F vs) (hb : Below w.heap.size w W) : FoX W w.heap.size B F vs :=
  FoIn.imp2 (Nat.le_refl _) (fun p v hp => strike_of (by have := World.block_lt_of_cell? _ _ hp; omega) ((hb.cell (World.block_lt_of_cell? _ _ hp)).trans hp)) (by rw [strike_size]; exact hb.size) F vs h

/-- The list of terms as one tree. -/
def listT : List (Cel × Fo) → Fo
  | [] => .node nilC .nil .nil
  | x :: r => .node dot (.node x.1 x.2 (listT r)) .nil
theorem listT_cells : ∀ ts : List (Cel × Fo), (listT ts).cells = mkL (ts.map (fun x => x.1 :: x.2.cells)) ++ [nilC]
  | [] => rfl
  | x :: r => by
    have := listT_cells r
    simp only [mkL] at this
    simp only [listT, Fo.cells, this, mkL, List.map_cons, List.flatMap_cons, List.append_nil, List.cons_append, List.append_assoc]
theorem listT_count (ts : List (Cel × Fo)) : (listT ts).count = 1 := by cases ts <;> rfl
theorem listT_ok : ∀ ts : List (Cel × Fo), (∀ x ∈ ts, (Fo.node x.1 x.2 .nil).ok) → (listT ts).ok
  | [], _ => ⟨by decide, fun x hx => by simp [nilC] at hx; omega, fun h => by simp [nilC] at h, fun _ => rfl, trivial, trivial⟩
  | x :: r, h => by
    obtain ⟨h1, h2, h3, h4, h5, _⟩ := h x (by simp)
    refine ⟨by decide, fun x hx => by simp [dot] at hx; omega, fun _ => ?_, fun h => (h rfl).elim, ⟨h1, h2, h3, h4, h5, listT_ok r (fun y hy => h y (by simp [hy]))⟩, trivial⟩
    show (2 : Int) = (((listT r).count + 1 : Nat) : Int)
    rw [listT_count]; rfl

def LInv (w : World) (B : Nat) (ts : List (Cel × Fo)) (zs : List (Nat × Value)) (pre : List Itm) (W : World) : Prop :=
  ∃ t u, Boxed W w.heap.size 59 (.iface t u) ∧ (pre = upto (bkAt zs ts.length) pre.length → FoX W w.heap.size B (listT (ts.drop (ts.length - pre.length))) [.iface t u])

theorem lInv_own (w : World) (B : Nat) (ts : List (Cel × Fo)) (zs : List (Nat × Value)) : Own (LInv w B ts zs) := fun pre A C row ⟨t, u, hb, hf⟩ hg hr =>
  ⟨t, u, boxed_own (β := Unit) _ _ (fun _ => .iface t u) () A C row hb hg hr, fun e => (hf e).imp hb.lt (fun p v _ hp => cell_kept hp hg hr) hg.size⟩

theorem bKeep_b {n₀ Bs : Nat} {w : World} (hn : n₀ ≤ w.heap.size) (W : World) (l : Nat) (o o' : Obj) (hl : w.heap.size ≤ l) (h : W.heap[l]? = some o) (ho : o.isCells = false) (hw : o.isWalk = false) : BKeep n₀ Bs W (W.putObj l o') :=
  ⟨belowK_b hn W l o o' hl h ho hw, fun v hv => cell_kept hv (grownBy_putObj' W l o') (fun r e => by cases e; exact ⟨_, h, ho⟩)⟩
/-- The world behind a round. -/
def rndW (w W : World) (x : Itm) (t : Nat) (u : Value) : World :=
  ((W.alloc (.cells #[.iface x.2.1 x.2.2, .iface t u] 59)).alloc (.cells #[.string ⟨#[46]⟩, .slice (some ⟨W.heap.size, 0, none⟩) 2 2] 102)).setCell ⟨w.heap.size, 0, none⟩ (.iface 100 (.pointer (some ⟨W.heap.size + 1, 0, none⟩)))
theorem rndW_size (w W : World) (x : Itm) (t : Nat) (u : Value) : W.heap.size ≤ (rndW w W x t u).heap.size := by
  have := (grownBy_setCell' ((W.alloc (.cells #[.iface x.2.1 x.2.2, .iface t u] 59)).alloc (.cells #[.string ⟨#[46]⟩, .slice (some ⟨W.heap.size, 0, none⟩) 2 2] 102)) w.heap.size (.iface 100 (.pointer (some ⟨W.heap.size + 1, 0, none⟩)))).size
  simp only [World.size_alloc] at this
  show _ ≤ _
  simp only [rndW]
  omega
theorem rndW_heap (w W : World) (x : Itm) (t : Nat) (u : Value) (k : Nat) (hk : k < W.heap.size + 2) (hne : k ≠ w.heap.size) : (rndW w W x t u).heap[k]? = ((W.alloc (.cells #[.iface x.2.1 x.2.2, .iface t u] 59)).alloc (.cells #[.string ⟨#[46]⟩, .slice (some ⟨W.heap.size, 0, none⟩) 2 2] 102)).heap[k]? :=
  (grownBy_setCell' _ w.heap.size _).block k (by simp only [World.size_alloc]; omega) (fun e => hne (Option.some.inj e))
theorem rndW_cell {w W : World} (x : Itm) (t : Nat) (u : Value) {p : Addr} {v : Value} (hne : p.block ≠ w.heap.size) (h : W.cell? p = some v) : (rndW w W x t u).cell? p = some v := by
  have hlt := World.block_lt_of_cell? _ _ h
  refine (World.cell?_of_block (rndW_heap w W x t u p.block (by omega) hne)).trans ?_
  rw [World.cell?_alloc_some _ _ _ (by rw [World.cell?_alloc_some _ _ _ (by rw [h]; rfl), h]; rfl), World.cell?_alloc_some _ _ _ (by rw [h]; rfl), h]
theorem bKeep_step {w W : World} {t : Nat} {u : Value} (hlow : Below w.heap.size w W) (hbx : Boxed W w.heap.size 59 (.iface t u)) (x : Itm) :
    KeepsOthers W (rndW w W x t u) ∧ BKeep w.heap.size (w.heap.size + 1) W (rndW w W x t u) := by
  refine ⟨((KeepsOthers.alloc W _).trans ((KeepsOthers.alloc _ _).trans (KeepsOthers.setCell _ _ _))), ⟨?_, fun v hv => rndW_cell x t u (by simp) hv⟩⟩
  refine (((Below.refl w.heap.size W).alloc hlow.size _).alloc (by have := hlow.size; simp; omega) _).setCell (p := ⟨w.heap.size, 0, none⟩) (Nat.le_refl _) _
theorem lInv_start {w W : World} {B : Nat} (hB0 : Below w.heap.size w W) (hB : B ≤ w.heap.size) (ts : List (Cel × Fo)) : FoX W w.heap.size B (listT (ts.drop (ts.length - ([] : List Itm).length))) [.iface 76 (.string ⟨#[91, 93]⟩)] := by
  have e : ts.drop (ts.length - ([] : List Itm).length) = [] := by simp
  rw [e]
  exact ⟨_, _, rfl, .inr (.inr (.inl ⟨rfl, rfl⟩)), rfl⟩
theorem lInv_step {w W : World} {B : Nat} {ts : List (Cel × Fo)} {zs : List (Nat × Value)} {pre : List Itm} {t : Nat} {u : Value} (hB : B ≤ w.heap.size)
    (hfo : ∀ j (h : j < ts.length), FoIn w B (.node ts[j].1 ts[j].2 .nil) [.iface (zs[j]?.getD (0, .nilIface)).1 (zs[j]?.getD (0, .nilIface)).2])
    (hlow : Below w.heap.size w W) (hbx : Boxed W w.heap.size 59 (.iface t u)) (hf : pre = upto (bkAt zs ts.length) pre.length → FoX W w.heap.size B (listT (ts.drop (ts.length - pre.length))) [.iface t u]) (hlt : pre.length < ts.length) (x : Itm) :
    LInv w B ts zs (pre ++ [x]) (rndW w W x t u) := by
  have hX := hbx.lt
  refine ⟨_, _, ((hbx.alloc _).alloc _).set _, fun e => ?_⟩
  rw [List.length_append, List.length_singleton, upto_succ] at e
  obtain ⟨e1, e2⟩ := List.append_inj' e rfl
  have e3 : x = bkAt zs ts.length pre.length := by simpa using e2
  have hj : ts.length - 1 - pre.length < ts.length := by omega
  have hd : ts.drop (ts.length - (pre ++ [x]).length) = ts[ts.length - 1 - pre.length] :: ts.drop (ts.length - pre.length) := by
    rw [List.length_append, List.length_singleton, show ts.length - (pre.length + 1) = ts.length - 1 - pre.length by omega, List.drop_eq_getElem_cons hj]
    congr 2; omega
  rw [hd]
  have h1 := hf e1
  have h2 := (hfo _ hj).foX hlow
  have e4 : Value.iface x.2.1 x.2.2 = .iface (zs[ts.length - 1 - pre.length]?.getD (0, .nilIface)).1 (zs[ts.length - 1 - pre.length]?.getD (0, .nilIface)).2 := by rw [e3]; rfl
  rw [← e4] at h2
  have g1 := h1.imp (W' := rndW w W x t u) hX (fun p v hp hv => rndW_cell x t u hp hv) (rndW_size _ _ _ _ _)
  have g2 := h2.imp (W' := rndW w W x t u) hX (fun p v hp hv => rndW_cell x t u hp hv) (rndW_size _ _ _ _ _)
  have k0 : (rndW w W x t u).heap[W.heap.size]? = some (.cells #[.iface x.2.1 x.2.2, .iface t u] 59) := by
    rw [rndW_heap w W x t u _ (by omega) (by omega)]
    exact (Below.heap_alloc _ _ _ (by simp)).trans (World.alloc_heap_new W _)
  have k1 : (rndW w W x t u).heap[W.heap.size + 1]? = some (.cells #[.string ⟨#[46]⟩, .slice (some ⟨W.heap.size, 0, none⟩) 2 2] 102) := by
    rw [rndW_heap w W x t u _ (by omega) (by omega)]
    have := World.alloc_heap_new (W.alloc (.cells #[.iface x.2.1 x.2.2, .iface t u] 59)) (.cells #[.string ⟨#[46]⟩, .slice (some ⟨W.heap.size, 0, none⟩) 2 2] 102)
    rwa [World.size_alloc] at this
  obtain ⟨v', vr, e5, hn, e6⟩ := g2
  obtain ⟨rfl, rfl⟩ := List.cons.inj e5
  refine ⟨_, [], rfl, .inr (.inr (.inr ⟨rfl, W.heap.size + 1, W.heap.size, [.iface x.2.1 x.2.2, .iface t u], rfl, by omega, by omega, strike_of (by simp; omega) (by simp [World.cell?, k1]; rfl), strike_of (by simp; omega) (by simp [World.cell?, k1]), ?_, fun i hi => ?_, ⟨_, _, rfl, hn, g1⟩⟩)), rfl⟩
  · rw [strike_size]
    exact (Array.getElem?_eq_some_iff.1 k0).1
  · refine strike_of (by simp; omega) ?_
    simp only [World.cell?, k0]
    match i, hi with
    | 0, _ => rfl
    | 1, _ => rfl

set_option maxRecDepth 100000 in
set_option maxHeartbeats 2000000 in
theorem listOf_in (F : Fence) (n : Nat) (h3 : F.fn 51) (h5 : F.fn 70) (h7 : F.fn 82) (hro : F.round = none) (hn : 3 ≤ n)
    (ts : List (Cel × Fo)) (zs : List (Nat × Value)) (b cap B : Nat) (w : World) (hlen : ts.length ≤ 2000) (hb : b < w.heap.size) (hB : B ≤ w.heap.size)
    (hc : ∀ j, j < ts.length → w.cell? ⟨b, j, none⟩ = some (.iface (zs[j]?.getD (0, .nilIface)).1 (zs[j]?.getD (0, .nilIface)).2))
    (hfo : ∀ j (h : j < ts.length), FoIn w B (.node ts[j].1 ts[j].2 .nil) [.iface (zs[j]?.getD (0, .nilIface)).1 (zs[j]?.getD (0, .nilIface)).2]) :
    CallsIn F n Try.prog 51 #[.slice (some ⟨b, 0, none⟩) ts.length cap, .iface 76 (.string ⟨#[91, 93]⟩)] w fun e w' => ∃ v, e = .returned v ∧ FoIn w' B (listT ts) [v] ∧ Below w.heap.size w w' := by
  have h1 : 1 ≤ n := by omega
  refine callsIn_of_wp_marks Try.func51 rfl h3 ?_ hro
  simp only [Try.ntmps51, List.size_toArray, List.length_cons, List.length_nil, Nat.reduceAdd, Nat.reduceSub, Array.replicate_succ, Array.replicate_zero, List.push_toArray, List.append_toArray, List.nil_append, List.cons_append]
  gi_wp2_with (gi_at_call 70; refine (back_in F (n - 1) h5 hro _ _ _ _).mono ?_; rintro e w' ⟨rfl, rfl⟩)
  have bL0 := Boxed.new w 59 (.iface 76 (.string ⟨#[91, 93]⟩))
  have bL := bL0.alloc (.cells #[.slice (some ⟨b, 0, none⟩) ts.length cap] 74)
  have bN := Boxed.new (w.alloc (.cells #[.iface 76 (.string ⟨#[91, 93]⟩)] 59)) 74 (.slice (some ⟨b, 0, none⟩) ts.length cap)
  rw [World.size_alloc] at bN
  have hB0 : Below w.heap.size w ((w.alloc (.cells #[.iface 76 (.string ⟨#[91, 93]⟩)] 59)).alloc (.cells #[.slice (some ⟨b, 0, none⟩) ts.length cap] 74)) := ((Below.refl _ w).alloc (Nat.le_refl _) _).alloc (by simp) _
  refine wpIn_rangeFunc_ownG hro h1 (gf := 82) (lb := #[.pointer (some ⟨w.heap.size + 1, 0, none⟩)]) rfl h7 (enters_of Try.func82 (by kernel_rfl) rfl)
    (back_stops F (n - 1) h7 hro (by omega) (w.heap.size + 1) w.heap.size b ts.length cap zs hlen _ (by simp) (by simp; omega) hb bN.cell (fun j hj => (hB0.cell (p := ⟨b, j, none⟩) hb).trans (hc j hj))) BKeep.trans (bKeep_b (by simp; omega)) (Below.refl _ _) (fun _ => rfl)
    (fun pre W => LInv w B ts zs pre W ∧ Below w.heap.size w W)
    (fun _ _ _ => False)
    (OwnFrom.and (Own.from (lInv_own w B ts zs) _) (ownFrom_below (Nat.le_refl _) (by simp; omega)))
    (fun _ _ _ _ _ hs _ _ => hs)
    ⟨⟨_, _, bL, fun _ => lInv_start hB0 hB ts⟩, hB0⟩
    (fun x => { tmps := #[.slice (some ⟨b, 0, none⟩) ts.length cap, .iface 76 (.string ⟨#[91, 93]⟩), undef, undef, .nilIface, .pointer (some ⟨w.heap.size, 0, none⟩), undef, .iface x.2.1 x.2.2, .iface 76 (.string ⟨#[91, 93]⟩), .slice (some ⟨b, 0, none⟩) ts.length cap, .func (.func 82) #[] #[.pointer (some ⟨w.heap.size + 1, 0, none⟩)], .int .i64 (x.1 : Int), .iface x.2.1 x.2.2, undef, undef, undef, undef, undef, undef, undef], defers := [] }) ?assign ?body ?done ?stop
  case assign =>
    intro l x W K hK
    gi_wp2
    exact hK
  case body =>
    rintro l pre x W ⟨⟨t, u, hbx, hf⟩, hlow⟩ hlt
    have hcl := hbx.cell
    have hfr := hbx.frozen
    have b2 := (hbx.alloc (.cells #[.iface x.2.1 x.2.2, .iface t u] 59)).alloc (.cells #[.string ⟨#[46]⟩, .slice (some ⟨W.heap.size, 0, none⟩) 2 2] 102)
    have hcl2 := b2.cell
    have hfr2 := b2.frozen
    have HSTEP : Hid _ := lInv_step hB hfo hlow hbx hf hlt x
    have HK : Hid _ := bKeep_step hlow hbx x
    have HL : Hid _ := hlow
    clear hf
    gi_wp2
    exact ⟨HK.out.1.from _, HK.out.2, HSTEP.out, HL.out.trans HK.out.2.1⟩
  case done =>
    rintro D ys W hD rfl ⟨⟨t, u, hbx, hf⟩, hlow⟩ hK
    have hcl := hbx.cell
    have HFO : Hid (FoIn W B (listT ts) [.iface t u]) := by
      have := (hf (by rw [upto_length])).foIn hbx.lt
      rwa [upto_length, Nat.sub_self, List.drop_zero] at this
    clear hf
    gi_wp2
    refine ⟨by simp, .inl ⟨_, _, rfl, run_takeDeferred hK, ?_⟩⟩
    refine ⟨.iface t u, by simp [results, Try.f51, go_sem], _, rfl, FoIn.imp2 (Nat.le_refl _) (fun p v hp => cell_kept hp (grownBy_putObj' _ D (.deferred none)) (fun r e => by cases e; exact ⟨_, hK, rfl⟩)) (by simp) _ _ HFO.out, hlow.trans (belowK_b (w := w) (Nat.le_refl _) W D _ _ (by simp at hD; omega) hK rfl rfl)⟩
  case stop =>
    rintro D c pre W _ _ h _
    exact h.elim

theorem listOf_any (ts : List (Cel × Fo)) (zs : List (Nat × Value)) (b cap B : Nat) (w : World) (hlen : ts.length ≤ 2000) (hb : b < w.heap.size) (hB : B ≤ w.heap.size)
    (hc : ∀ j, j < ts.length → w.cell? ⟨b, j, none⟩ = some (.iface (zs[j]?.getD (0, .nilIface)).1 (zs[j]?.getD (0, .nilIface)).2))
    (hfo : ∀ j (h : j < ts.length), FoIn w B (.node ts[j].1 ts[j].2 .nil) [.iface (zs[j]?.getD (0, .nilIface)).1 (zs[j]?.getD (0, .nilIface)).2]) :
    Calls Try.prog 51 #[.slice (some ⟨b, 0, none⟩) ts.length cap, .iface 76 (.string ⟨#[91, 93]⟩)] w fun e w' => ∃ v, e = .returned v ∧ FoIn w' B (listT ts) [v] ∧ Below w.heap.size w w' :=
  callsIn_wide.1 (listOf_in Fence.wide 3 trivial trivial trivial rfl (Nat.le_refl _) ts zs b cap B w hlen hb hB hc hfo)

end Go.Proofs.Ytopdhjnpcpkmlaa
