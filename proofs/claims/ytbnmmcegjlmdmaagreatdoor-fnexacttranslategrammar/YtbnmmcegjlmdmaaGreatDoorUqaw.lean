/- Texts of Make1, Make2, Make4, GrL. Own work of the verifier. -/
import Derived.Test.YtbnmmcegjlmdmaaGreatDoorUqas
import Derived.Test.YtbnmmcegjlmdmaaGreatDoorUqat
import Derived.Test.YtbnmmcegjlmdmaaGreatDoorUqav
import Derived.Test.YtbnmmcegjlmdmaaGreatDoorUqaj
import Derived.Test.YtbnmmcegjlmdmaaGreatDoorUqap
import Derived.Test.YtbnmmcegjlmdmaaGreatDoorUqag
namespace Go.Proofs.YtbnmmcegjlmdmaaGreatDoor
open Go Go.RowKit
set_option linter.unusedVariables false
end Go.Proofs.YtbnmmcegjlmdmaaGreatDoor

namespace Go.Proofs.YtbnmmcegjlmdmaaGreatDoor
open Go Go.RowKit
set_option linter.unusedVariables false
end Go.Proofs.YtbnmmcegjlmdmaaGreatDoor

namespace Go.Proofs.YtbnmmcegjlmdmaaGreatDoor
open Go Go.RowKit Go.Shelf
set_option linter.unusedVariables false
attribute [local go_sem] Oper.semAt_some
def strike (W : World) (X : Nat) : World := W.putObj X (.deferred none)
theorem strike_size (W : World) (X : Nat) : (strike W X).heap.size = W.heap.size := World.putObj_size
theorem strike_cell {W : World} {X : Nat} (hX : X < W.heap.size) {p : Addr} {v : Value} (h : (strike W X).cell? p = some v) : p.block ≠ X ∧ W.cell? p = some v := by
  by_cases e : p.block = X
  · exfalso
    subst e
    simp only [strike, World.cell?, World.putObj_heap_same hX] at h
    cases h
  · refine ⟨e, ?_⟩
    simpa only [strike, World.cell?, World.putObj_heap_other e] using h
theorem strike_of {W : World} {X : Nat} {p : Addr} {v : Value} (e : p.block ≠ X) (h : W.cell? p = some v) : (strike W X).cell? p = some v := by
  simpa only [strike, World.cell?, World.putObj_heap_other e] using h
def FoX (W : World) (X B : Nat) (F : Fo) (vs : List Value) : Prop := FoIn (strike W X) B F vs
theorem FoX.imp {W W' : World} {X B : Nat} {F : Fo} {vs : List Value} (h : FoX W X B F vs) (hX : X < W.heap.size) (hc : ∀ p v, p.block ≠ X → W.cell? p = some v → W'.cell? p = some v) (hs : W.heap.size ≤ W'.heap.size) : FoX W' X B F vs :=
  FoIn.imp2 (Nat.le_refl _) (fun p v hp => strike_of (strike_cell hX hp).1 (hc p v (strike_cell hX hp).1 (strike_cell hX hp).2)) (by rw [strike_size, strike_size]; exact hs) F vs h
theorem FoX.foIn {W : World} {X B : Nat} {F : Fo} {vs : List Value} (h : FoX W X B F vs) (hX : X < W.heap.size) : FoIn W B F vs :=
  FoIn.imp2 (Nat.le_refl _) (fun p v hp => (strike_cell hX hp).2) (by rw [strike_size]; exact Nat.le_refl _) F vs h
theorem FoIn.foX {w W : World} {B : Nat} {F : Fo} {vs : List Value} (h : FoIn w B F vs) (hb : Below w.heap.size w W) : FoX W w.heap.size B F vs :=
  FoIn.imp2 (Nat.le_refl _) (fun p v hp => strike_of (by have := World.block_lt_of_cell? _ _ hp; omega) ((hb.cell (World.block_lt_of_cell? _ _ hp)).trans hp)) (by rw [strike_size]; exact hb.size) F vs h
def rndW (w W : World) (x : Itm) (t : Nat) (u : Value) : World :=
  ((W.alloc (.cells #[.iface x.2.1 x.2.2, .iface t u] 49)).alloc (.cells #[.string ⟨#[46]⟩, .slice (some ⟨W.heap.size, 0, none⟩) 2 2] 79)).setCell ⟨w.heap.size, 0, none⟩ (.iface 76 (.pointer (some ⟨W.heap.size + 1, 0, none⟩)))
theorem rndW_size (w W : World) (x : Itm) (t : Nat) (u : Value) : W.heap.size ≤ (rndW w W x t u).heap.size := by
  have := (grownBy_setCell' ((W.alloc (.cells #[.iface x.2.1 x.2.2, .iface t u] 49)).alloc (.cells #[.string ⟨#[46]⟩, .slice (some ⟨W.heap.size, 0, none⟩) 2 2] 79)) w.heap.size (.iface 76 (.pointer (some ⟨W.heap.size + 1, 0, none⟩)))).size
  simp only [World.size_alloc] at this
  show _ ≤ _
  simp only [rndW]
  omega
theorem rndW_heap (w W : World) (x : Itm) (t : Nat) (u : Value) (k : Nat) (hk : k < W.heap.size + 2) (hne : k ≠ w.heap.size) : (rndW w W x t u).heap[k]? = ((W.alloc (.cells #[.iface x.2.1 x.2.2, .iface t u] 49)).alloc (.cells #[.string ⟨#[46]⟩, .slice (some ⟨W.heap.size, 0, none⟩) 2 2] 79)).heap[k]? :=
  (grownBy_setCell' _ w.heap.size _).block k (by simp only [World.size_alloc]; omega) (fun e => hne (Option.some.inj e))
theorem rndW_cell {w W : World} (x : Itm) (t : Nat) (u : Value) {p : Addr} {v : Value} (hne : p.block ≠ w.heap.size) (h : W.cell? p = some v) : (rndW w W x t u).cell? p = some v := by
  have hlt := World.block_lt_of_cell? _ _ h
  refine (World.cell?_of_block (rndW_heap w W x t u p.block (by omega) hne)).trans ?_
  rw [World.cell?_alloc_some _ _ _ (by rw [World.cell?_alloc_some _ _ _ (by rw [h]; rfl), h]; rfl), World.cell?_alloc_some _ _ _ (by rw [h]; rfl), h]
theorem bKeep_step {w W : World} {t : Nat} {u : Value} (hlow : Below w.heap.size w W) (hbx : Boxed W w.heap.size 49 (.iface t u)) (x : Itm) :
    KeepsOthers W (rndW w W x t u) ∧ BKeep w.heap.size (w.heap.size + 1) W (rndW w W x t u) := by
  refine ⟨((KeepsOthers.alloc W _).trans ((KeepsOthers.alloc _ _).trans (KeepsOthers.setCell _ _ _))), ⟨?_, fun v hv => rndW_cell x t u (by simp) hv⟩⟩
  refine (((Below.refl w.heap.size W).alloc hlow.size _).alloc (by have := hlow.size; simp; omega) _).setCell (p := ⟨w.heap.size, 0, none⟩) (Nat.le_refl _) _
end Go.Proofs.YtbnmmcegjlmdmaaGreatDoor

namespace Go.Proofs.YtbnmmcegjlmdmaaGreatDoor
open Go Go.RowKit Go.Shelf
set_option linter.unusedVariables false
attribute [local go_sem] Oper.semAt_some
set_option maxRecDepth 100000 in
set_option maxHeartbeats 2000000 in
theorem back10_in (F : Fence) (n : Nat) (h7 : F.fn 84) (hro : F.round = none) (hn : 1 ≤ n) (l Bs n₀ b len cap : Nat) (zs : List (Nat × Value)) (pb : Option Addr) (hpb : ¬ 0 < len) (hlen : len ≤ 2000) (hb : b < n₀) (J Jx : List Itm → World → Prop)
    (hY : ∀ pre x W, J pre W → pre.length < len → YieldAt F (n - 1) Tryz.prog l #[.int .i64 (x.1 : Int), .iface x.2.1 x.2.2] W fun e W' =>
      (e = .returned (.bool true) ∧ J (pre ++ [x]) W' ∧ BKeep n₀ Bs W W') ∨ (e = .returned (.bool false) ∧ Jx (pre ++ [x]) W'))
    (W : World) (hBs : W.cell? ⟨Bs, 0, none⟩ = some (.slice pb len cap)) (hc : ∀ j, j < len → W.cell? ⟨b, j, none⟩ = some (.iface (zs[j]?.getD (0, .nilIface)).1 (zs[j]?.getD (0, .nilIface)).2)) (h0 : J [] W) :
    CallsIn F n Tryz.prog 84 #[.func (.yield l) #[] #[], .pointer (some ⟨Bs, 0, none⟩)] W fun e W' => (∃ v, e = .returned v) ∧
      ((∃ ys, ys = upto (bkAt zs len) len ∧ J ys W') ∨ (∃ pre, True ∧ Jx pre W')) := by
  refine callsIn_of_wp Tryz.func84 rfl h7 ?_ hro
  simp only [Tryz.ntmps84, List.size_toArray, List.length_cons, List.length_nil, Nat.reduceAdd, Nat.reduceSub, Array.replicate_succ, Array.replicate_zero, List.push_toArray, List.append_toArray, List.nil_append, List.cons_append]
  gi_wp2
  gi_loopw [3] (fun i wr => ∃ m : Nat, m ≤ len ∧ i = .int .i64 ((m : Int) - 1) ∧ J (upto (bkAt zs len) (len - m)) wr ∧ BKeep n₀ Bs W wr)
    (fun i _ => (intOf i + 1).toNat)
  case atStart => exact ⟨len, Nat.le_refl _, by go_num, by rw [Nat.sub_self]; exact h0, BKeep.refl _ _ _⟩
  case round =>
    obtain ⟨m, hm, rfl, hJs, hnx⟩ := hrel
    have hBs' := hnx.2 _ hBs
    cases m with
    | zero =>
      gi_wp2
      go_end0
      exact ⟨⟨_, rfl⟩, .inl ⟨_, rfl, hJs⟩⟩
    | succ m => exact absurd hm (by omega)
theorem back1G_in (F : Fence) (n : Nat) (h7 : F.fn 84) (hro : F.round = none) (hn : 1 ≤ n) (l Bs n₀ b len cap : Nat) (zs : List (Nat × Value)) (pb : Option Addr) (hpb : 0 < len → pb = some ⟨b, 0, none⟩) (hlen : len ≤ 2000) (hb : b < n₀) (J Jx : List Itm → World → Prop)
    (hY : ∀ pre x W, J pre W → pre.length < len → YieldAt F (n - 1) Tryz.prog l #[.int .i64 (x.1 : Int), .iface x.2.1 x.2.2] W fun e W' =>
      (e = .returned (.bool true) ∧ J (pre ++ [x]) W' ∧ BKeep n₀ Bs W W') ∨ (e = .returned (.bool false) ∧ Jx (pre ++ [x]) W'))
    (W : World) (hBs : W.cell? ⟨Bs, 0, none⟩ = some (.slice pb len cap)) (hc : ∀ j, j < len → W.cell? ⟨b, j, none⟩ = some (.iface (zs[j]?.getD (0, .nilIface)).1 (zs[j]?.getD (0, .nilIface)).2)) (h0 : J [] W) :
    CallsIn F n Tryz.prog 84 #[.func (.yield l) #[] #[], .pointer (some ⟨Bs, 0, none⟩)] W fun e W' => (∃ v, e = .returned v) ∧
      ((∃ ys, ys = upto (bkAt zs len) len ∧ J ys W') ∨ (∃ pre, True ∧ Jx pre W')) := by
  by_cases h9 : 0 < len
  · obtain rfl := hpb h9
    exact back1_in F n h7 hro hn l Bs n₀ b len cap zs hlen hb J Jx hY W hBs hc h0
  · exact back10_in F n h7 hro hn l Bs n₀ b len cap zs pb h9 hlen hb J Jx hY W hBs hc h0
theorem back_stopsG (F : Fence) (n : Nat) (h7 : F.fn 84) (hro : F.round = none) (hn : 1 ≤ n) (Bs n₀ b len cap : Nat) (zs : List (Nat × Value)) (pb : Option Addr) (hpb : 0 < len → pb = some ⟨b, 0, none⟩) (hlen : len ≤ 2000) (w : World) (hBs : Bs < w.heap.size) (hn₀ : n₀ ≤ w.heap.size) (hb : b < n₀)
    (hcB : w.cell? ⟨Bs, 0, none⟩ = some (.slice pb len cap)) (hc : ∀ j, j < len → w.cell? ⟨b, j, none⟩ = some (.iface (zs[j]?.getD (0, .nilIface)).1 (zs[j]?.getD (0, .nilIface)).2)) :
    SeqStopsK F n Tryz.prog 84 #[.pointer (some ⟨Bs, 0, none⟩)] (fun x : Itm => #[Value.int .i64 (x.1 : Int), Value.iface x.2.1 x.2.2]) (BKeep n₀ Bs) (fun ys => ys = upto (bkAt zs len) len) (fun _ => True) len w := fun l J Jx W hW _ _ hY h0 => by
  exact back1G_in F n h7 hro hn l Bs n₀ b len cap zs pb hpb hlen hb J Jx hY W ((hW.cell (p := ⟨Bs, 0, none⟩) hBs).trans hcB) (fun j hj => (hW.cell (p := ⟨b, j, none⟩) (by show b < _; omega)).trans (hc j hj)) h0
def listV (ev : Int) : List (Cel × Fo) → Fo
  | [] => .node (0, ev, []) .nil .nil
  | x :: r => .node dot (.node x.1 x.2 (listV ev r)) .nil
theorem listV_tr (ev : Int) : ∀ ts : List Tr, listV ev ts = (lstT (vT ev) ts).fo
  | [] => rfl
  | x :: r => by
    have h := listV_tr ev r
    show Fo.node dot (.node x.1 x.2 (listV ev r)) .nil = _
    rw [h]; rfl
def LInvV (ev : Int) (w : World) (B : Nat) (ts : List (Cel × Fo)) (zs : List (Nat × Value)) (pre : List Itm) (W : World) : Prop :=
  ∃ t u, Boxed W w.heap.size 49 (.iface t u) ∧ (pre = upto (bkAt zs ts.length) pre.length → FoX W w.heap.size B (listV ev (ts.drop (ts.length - pre.length))) [.iface t u])
theorem lInvV_own (ev : Int) (w : World) (B : Nat) (ts : List (Cel × Fo)) (zs : List (Nat × Value)) : Own (LInvV ev w B ts zs) := fun pre A C row ⟨t, u, hb, hf⟩ hg hr =>
  ⟨t, u, boxed_own (β := Unit) _ _ (fun _ => .iface t u) () A C row hb hg hr, fun e => (hf e).imp hb.lt (fun p v _ hp => cell_kept hp hg hr) hg.size⟩
theorem lInvV_start {ev : Int} {w W : World} {B : Nat} (hB0 : Below w.heap.size w W) (hB : B ≤ w.heap.size) (ts : List (Cel × Fo)) : FoX W w.heap.size B (listV ev (ts.drop (ts.length - ([] : List Itm).length))) [.iface 84 (.int .i64 ev)] := by
  have e : ts.drop (ts.length - ([] : List Itm).length) = [] := by simp
  rw [e]
  exact ⟨_, _, rfl, .inl ⟨rfl, rfl⟩, rfl⟩
theorem lInvV_step {ev : Int} {w W : World} {B : Nat} {ts : List (Cel × Fo)} {zs : List (Nat × Value)} {pre : List Itm} {t : Nat} {u : Value} (hB : B ≤ w.heap.size)
    (hfo : ∀ j (h : j < ts.length), FoIn w B (.node ts[j].1 ts[j].2 .nil) [.iface (zs[j]?.getD (0, .nilIface)).1 (zs[j]?.getD (0, .nilIface)).2])
    (hlow : Below w.heap.size w W) (hbx : Boxed W w.heap.size 49 (.iface t u)) (hf : pre = upto (bkAt zs ts.length) pre.length → FoX W w.heap.size B (listV ev (ts.drop (ts.length - pre.length))) [.iface t u]) (hlt : pre.length < ts.length) (x : Itm) :
    LInvV ev w B ts zs (pre ++ [x]) (rndW w W x t u) := by
  have hX := hbx.lt
  refine ⟨_, _, ((hbx.alloc _).alloc _).set _, fun e => ?_⟩
  rw [List.length_append, List.length_singleton, upto_succ] at e
  obtain ⟨e1, e2⟩ := List.append_inj' e rfl
  have e3 : x = bkAt zs ts.length pre.length := by simpa using e2
  have hj : ts.length - 1 - pre.length < ts.length := by omega
  have hd : ts.drop (ts.length - (pre ++ [x]).length) = ts[ts.length - 1 - pre.length] :: ts.drop (ts.length - pre.length) := by
    rw [List.length_append, List.length_singleton, show ts.length - (pre.length + 1) = ts.length - 1 - pre.length by omega, List.drop_eq_getElem_cons hj]
    congr 2; omega
  rw [hd]
  have h1 := hf e1
  have h2 := (hfo _ hj).foX hlow
  have e4 : Value.iface x.2.1 x.2.2 = .iface (zs[ts.length - 1 - pre.length]?.getD (0, .nilIface)).1 (zs[ts.length - 1 - pre.length]?.getD (0, .nilIface)).2 := by rw [e3]; rfl
  rw [← e4] at h2
  have g1 := h1.imp (W' := rndW w W x t u) hX (fun p v hp hv => rndW_cell x t u hp hv) (rndW_size _ _ _ _ _)
  have g2 := h2.imp (W' := rndW w W x t u) hX (fun p v hp hv => rndW_cell x t u hp hv) (rndW_size _ _ _ _ _)
  have k0 : (rndW w W x t u).heap[W.heap.size]? = some (.cells #[.iface x.2.1 x.2.2, .iface t u] 49) := by
    rw [rndW_heap w W x t u _ (by omega) (by omega)]
    exact (Below.heap_alloc _ _ _ (by simp)).trans (World.alloc_heap_new W _)
  have k1 : (rndW w W x t u).heap[W.heap.size + 1]? = some (.cells #[.string ⟨#[46]⟩, .slice (some ⟨W.heap.size, 0, none⟩) 2 2] 79) := by
    rw [rndW_heap w W x t u _ (by omega) (by omega)]
    have := World.alloc_heap_new (W.alloc (.cells #[.iface x.2.1 x.2.2, .iface t u] 49)) (.cells #[.string ⟨#[46]⟩, .slice (some ⟨W.heap.size, 0, none⟩) 2 2] 79)
    rwa [World.size_alloc] at this
  obtain ⟨v', vr, e5, hn, e6⟩ := g2
  obtain ⟨rfl, rfl⟩ := List.cons.inj e5
  refine ⟨_, [], rfl, .inr (.inr (.inr ⟨rfl, W.heap.size + 1, W.heap.size, [.iface x.2.1 x.2.2, .iface t u], rfl, by omega, by omega, strike_of (by simp; omega) (by simp [World.cell?, k1]; rfl), strike_of (by simp; omega) (by simp [World.cell?, k1]), ?_, fun i hi => ?_, ⟨_, _, rfl, hn, g1⟩⟩)), rfl⟩
  · rw [strike_size]
    exact (Array.getElem?_eq_some_iff.1 k0).1
  · refine strike_of (by simp; omega) ?_
    simp only [World.cell?, k0]
    match i, hi with
    | 0, _ => rfl
    | 1, _ => rfl
set_option maxRecDepth 100000 in
set_option maxHeartbeats 2000000 in
theorem listV_in (F : Fence) (n : Nat) (h3 : F.fn 79) (h5 : F.fn 82) (h7 : F.fn 84) (hro : F.round = none) (hn : 3 ≤ n)
    (ts : List (Cel × Fo)) (zs : List (Nat × Value)) (b cap B : Nat) (pb : Option Addr) (hpb : 0 < ts.length → pb = some ⟨b, 0, none⟩) (ev : Int) (w : World) (hlen : ts.length ≤ 2000) (hb : b < w.heap.size) (hB : B ≤ w.heap.size)
    (hc : ∀ j, j < ts.length → w.cell? ⟨b, j, none⟩ = some (.iface (zs[j]?.getD (0, .nilIface)).1 (zs[j]?.getD (0, .nilIface)).2))
    (hfo : ∀ j (h : j < ts.length), FoIn w B (.node ts[j].1 ts[j].2 .nil) [.iface (zs[j]?.getD (0, .nilIface)).1 (zs[j]?.getD (0, .nilIface)).2]) :
    CallsIn F n Tryz.prog 79 #[.slice pb ts.length cap, .iface 84 (.int .i64 ev)] w fun e w' => ∃ v, e = .returned v ∧ FoIn w' B (listV ev ts) [v] ∧ Below w.heap.size w w' := by
  have h1 : 1 ≤ n := by omega
  refine callsIn_of_wp_marks Tryz.func79 rfl h3 ?_ hro
  simp only [Tryz.ntmps79, List.size_toArray, List.length_cons, List.length_nil, Nat.reduceAdd, Nat.reduceSub, Array.replicate_succ, Array.replicate_zero, List.push_toArray, List.append_toArray, List.nil_append, List.cons_append]
  gi_wp2_with (gi_at_call 82; refine (back_in F (n - 1) h5 hro _ _ _ _).mono ?_; rintro e w' ⟨rfl, rfl⟩)
  have bL0 := Boxed.new w 49 (.iface 84 (.int .i64 ev))
  have bL := bL0.alloc (.cells #[.slice pb ts.length cap] 55)
  have bN := Boxed.new (w.alloc (.cells #[.iface 84 (.int .i64 ev)] 49)) 55 (.slice pb ts.length cap)
  rw [World.size_alloc] at bN
  have hB0 : Below w.heap.size w ((w.alloc (.cells #[.iface 84 (.int .i64 ev)] 49)).alloc (.cells #[.slice pb ts.length cap] 55)) := ((Below.refl _ w).alloc (Nat.le_refl _) _).alloc (by simp) _
  refine wpIn_rangeFunc_ownG hro h1 (gf := 84) (lb := #[.pointer (some ⟨w.heap.size + 1, 0, none⟩)]) rfl h7 (enters_of Tryz.func84 (by kernel_rfl) rfl)
    (back_stopsG F (n - 1) h7 hro (by omega) (w.heap.size + 1) w.heap.size b ts.length cap zs pb hpb hlen _ (by simp) (by simp; omega) hb bN.cell (fun j hj => (hB0.cell (p := ⟨b, j, none⟩) hb).trans (hc j hj))) BKeep.trans (bKeep_b (by simp; omega)) (Below.refl _ _) (fun _ => rfl)
    (fun pre W => LInvV ev w B ts zs pre W ∧ Below w.heap.size w W)
    (fun _ _ _ => False)
    (OwnFrom.and (Own.from (lInvV_own ev w B ts zs) _) (ownFrom_below (Nat.le_refl _) (by simp; omega)))
    (fun _ _ _ _ _ hs _ _ => hs)
    ⟨⟨_, _, bL, fun _ => lInvV_start hB0 hB ts⟩, hB0⟩
    (fun x => { tmps := #[.slice pb ts.length cap, .iface 84 (.int .i64 ev), undef, undef, .nilIface, .pointer (some ⟨w.heap.size, 0, none⟩), undef, .iface x.2.1 x.2.2, .iface 84 (.int .i64 ev), .slice pb ts.length cap, .func (.func 84) #[] #[.pointer (some ⟨w.heap.size + 1, 0, none⟩)], .int .i64 (x.1 : Int), .iface x.2.1 x.2.2, undef, undef, undef, undef, undef, undef, undef], defers := [] }) ?assign ?body ?done ?stop
  case assign =>
    intro l x W K hK
    gi_wp2
    exact hK
  case body =>
    rintro l pre x W ⟨⟨t, u, hbx, hf⟩, hlow⟩ hlt
    have hcl := hbx.cell
    have hfr := hbx.frozen
    have b2 := (hbx.alloc (.cells #[.iface x.2.1 x.2.2, .iface t u] 49)).alloc (.cells #[.string ⟨#[46]⟩, .slice (some ⟨W.heap.size, 0, none⟩) 2 2] 79)
    have hcl2 := b2.cell
    have hfr2 := b2.frozen
    have HSTEP : Hid _ := lInvV_step hB hfo hlow hbx hf hlt x
    have HK : Hid _ := bKeep_step hlow hbx x
    have HL : Hid _ := hlow
    clear hf
    gi_wp2
    exact ⟨HK.out.1.from _, HK.out.2, HSTEP.out, HL.out.trans HK.out.2.1⟩
  case done =>
    rintro D ys W hD rfl ⟨⟨t, u, hbx, hf⟩, hlow⟩ hK
    have hcl := hbx.cell
    have HFO : Hid (FoIn W B (listV ev ts) [.iface t u]) := by
      have := (hf (by rw [upto_length])).foIn hbx.lt
      rwa [upto_length, Nat.sub_self, List.drop_zero] at this
    clear hf
    gi_wp2
    refine ⟨by simp, .inl ⟨_, _, rfl, run_takeDeferred hK, ?_⟩⟩
    refine ⟨.iface t u, by simp [results, Tryz.f79, go_sem], _, rfl, FoIn.imp2 (Nat.le_refl _) (fun p v hp => cell_kept hp (grownBy_putObj' _ D (.deferred none)) (fun r e => by cases e; exact ⟨_, hK, rfl⟩)) (by simp) _ _ HFO.out, hlow.trans (belowK_b (w := w) (Nat.le_refl _) W D _ _ (by simp at hD; omega) hK rfl rfl)⟩
  case stop =>
    rintro D c pre W _ _ h _
    exact h.elim
theorem listVar_any (ts : List (Cel × Fo)) (zs : List (Nat × Value)) (b cap B : Nat) (pb : Option Addr) (hpb : 0 < ts.length → pb = some ⟨b, 0, none⟩) (ev : Int) (w : World) (hlen : ts.length ≤ 2000) (hb : b < w.heap.size) (hB : B ≤ w.heap.size)
    (hc : ∀ j, j < ts.length → w.cell? ⟨b, j, none⟩ = some (.iface (zs[j]?.getD (0, .nilIface)).1 (zs[j]?.getD (0, .nilIface)).2))
    (hfo : ∀ j (h : j < ts.length), FoIn w B (.node ts[j].1 ts[j].2 .nil) [.iface (zs[j]?.getD (0, .nilIface)).1 (zs[j]?.getD (0, .nilIface)).2]) :
    Calls Tryz.prog 79 #[.slice pb ts.length cap, .iface 84 (.int .i64 ev)] w fun e w' => ∃ v, e = .returned v ∧ FoIn w' B (listV ev ts) [v] ∧ Below w.heap.size w w' :=
  callsIn_wide.1 (listV_in Fence.wide 3 trivial trivial trivial rfl (Nat.le_refl _) ts zs b cap B pb hpb ev w hlen hb hB hc hfo)
end Go.Proofs.YtbnmmcegjlmdmaaGreatDoor

