/- Texts of Make2, Make4, Items3, Items4, OrD, OrE, OrF. Own work of the verifier. -/
import Derived.Test.YtdmmchoicngblaaGreatDoorUqai
import Derived.Test.YtdmmchoicngblaaGreatDoorUqae
import Derived.Test.YtdmmchoicngblaaGreatDoorUqam
namespace Go.Proofs.YtdmmchoicngblaaGreatDoor
set_option linter.unusedVariables false
set_option maxRecDepth 100000
section
open Go Go.RowKit
def mkR (css : List (List Cel)) : List Cel × Int := if 2000 < css.length ∨ (css.all validB) = false then ([], 1) else if 2000 < (mkL css).length + 1 then ([], 3) else (mkL css ++ [nilC], 0)
def MakeOut (w : World) (zs : List Cel) (code : Int) (e : Ending) (w' : World) : Prop :=
 ∃ p n cp, e = .returned (.tuple #[.slice p n cp, .int .i64 code]) ∧ OwnC w' w.heap.size p n cp zs ∧ Below w.heap.size w w'
theorem all_at {css : List (List Cel)} (h : css.all validB = true) (i : Nat) (hi : i < css.length) : validB (css.getD i []) = true := by
 rw [List.all_eq_true] at h; refine h _ ?_; rw [List.getD, List.getElem?_eq_getElem hi]; exact List.getElem_mem hi
theorem all_of {css : List (List Cel)} (h : ∀ i, i < css.length → validB (css.getD i []) = true) : css.all validB = true := by
 rw [List.all_eq_true]
 intro x hx
 obtain ⟨i, hi, rfl⟩ := List.mem_iff_getElem.1 hx; have := h i hi
 rwa [List.getD, List.getElem?_eq_getElem hi] at this
theorem valid_len {cs : List Cel} (h : validB cs = true) : 0 < cs.length ∧ cs.length ≤ 2000 := by
 simp only [validB, Bool.and_eq_true, decide_eq_true_eq] at h; refine ⟨?_, h.1⟩
 cases cs with
 | nil => simp [validFrom] at h
 | cons a r => simp
def mkN (css : List (List Cel)) (j : Nat) : Nat := (mkL (css.take j)).length + 1
theorem mkN_succ (css : List (List Cel)) (j : Nat) (h : j < css.length) : mkN css (j + 1) = mkN css j + (1 + (css.getD j []).length) := by
 simp only [mkN, mkL_take css j h, List.length_append, List.length_cons, List.length_nil]; omega
end
section
open Go Go.RowKit Go.Shelf
attribute [local go_sem] Oper.semAt_some
def strike (W : World) (X : Nat) : World := W.putObj X (.deferred none)
theorem strike_size (W : World) (X : Nat) : (strike W X).heap.size = W.heap.size := World.putObj_size
theorem strike_cell {W : World} {X : Nat} (hX : X < W.heap.size) {p : Addr} {v : Value} (h : (strike W X).cell? p = some v) : p.block ≠ X ∧ W.cell? p = some v := by
 by_cases e : p.block = X
 ·exfalso
  subst e; simp only [strike, World.cell?, World.putObj_heap_same hX] at h
  cases h
 ·refine ⟨e, ?_⟩
  simpa only [strike, World.cell?, World.putObj_heap_other e] using h
theorem strike_of {W : World} {X : Nat} {p : Addr} {v : Value} (e : p.block ≠ X) (h : W.cell? p = some v) : (strike W X).cell? p = some v := by
 simpa only [strike, World.cell?, World.putObj_heap_other e] using h
def FoX (W : World) (X B : Nat) (F : Fo) (vs : List Value) : Prop := FoIn (strike W X) B F vs
theorem FoX.imp {W W' : World} {X B : Nat} {F : Fo} {vs : List Value} (h : FoX W X B F vs) (hX : X < W.heap.size) (hc : ∀ p v, p.block ≠ X → W.cell? p = some v → W'.cell? p = some v) (hs : W.heap.size ≤ W'.heap.size) : FoX W' X B F vs :=
 FoIn.imp2 (Nat.le_refl _) (fun p v hp => strike_of (strike_cell hX hp).1 (hc p v (strike_cell hX hp).1 (strike_cell hX hp).2)) (by rw [strike_size, strike_size]; exact hs) F vs h
theorem FoX.foIn {W : World} {X B : Nat} {F : Fo} {vs : List Value} (h : FoX W X B F vs) (hX : X < W.heap.size) : FoIn W B F vs :=
 FoIn.imp2 (Nat.le_refl _) (fun p v hp => (strike_cell hX hp).2) (by rw [strike_size]; exact Nat.le_refl _) F vs h
theorem FoIn.foX {w W : World} {B : Nat} {F : Fo} {vs : List Value} (h : FoIn w B F vs) (hb : Below w.heap.size w W) : FoX W w.heap.size B F vs :=
 FoIn.imp2 (Nat.le_refl _) (fun p v hp => strike_of (by have := World.block_lt_of_cell? _ _ hp; omega) ((hb.cell (World.block_lt_of_cell? _ _ hp)).trans hp)) (by rw [strike_size]; exact hb.size) F vs h
def listT : List (Cel × Fo) → Fo
 | [] => .node nilC .nil .nil
 | x :: r => .node dot (.node x.1 x.2 (listT r)) .nil
theorem listT_cells : ∀ ts : List (Cel × Fo), (listT ts).cells = mkL (ts.map (fun x => x.1 :: x.2.cells)) ++ [nilC]
 | [] => rfl
 | x :: r => by
   have := listT_cells r; simp only [mkL] at this; simp only [listT, Fo.cells, this, mkL, List.map_cons, List.flatMap_cons, List.append_nil, List.cons_append, List.append_assoc]
theorem listT_count (ts : List (Cel × Fo)) : (listT ts).count = 1 := by cases ts <;> rfl
theorem listT_ok : ∀ ts : List (Cel × Fo), (∀ x ∈ ts, (Fo.node x.1 x.2 .nil).ok) → (listT ts).ok
 | [], _ => ⟨by decide, fun x hx => by simp [nilC] at hx; omega, fun h => by simp [nilC] at h, fun _ => rfl, trivial, trivial⟩
 | x :: r, h => by
   obtain ⟨h1, h2, h3, h4, h5, _⟩ := h x (by simp); refine ⟨by decide, fun x hx => by simp [dot] at hx; omega, fun _ => ?_, fun h => (h rfl).elim, ⟨h1, h2, h3, h4, h5, listT_ok r (fun y hy => h y (by simp [hy]))⟩, trivial⟩
   show (2 : Int) = (((listT r).count + 1 : Nat) : Int)
   rw [listT_count]; rfl
def LInv (w : World) (B : Nat) (ts : List (Cel × Fo)) (zs : List (Nat × Value)) (pre : List Itm) (W : World) : Prop :=
 ∃ t u, Boxed W w.heap.size 58 (.iface t u) ∧ (pre = upto (bkAt zs ts.length) pre.length → FoX W w.heap.size B (listT (ts.drop (ts.length - pre.length))) [.iface t u])
theorem lInv_own (w : World) (B : Nat) (ts : List (Cel × Fo)) (zs : List (Nat × Value)) : Own (LInv w B ts zs) := fun pre A C row ⟨t, u, hb, hf⟩ hg hr =>
 ⟨t, u, boxed_own (β := Unit) _ _ (fun _ => .iface t u) () A C row hb hg hr, fun e => (hf e).imp hb.lt (fun p v _ hp => cell_kept hp hg hr) hg.size⟩
def rndW (w W : World) (x : Itm) (t : Nat) (u : Value) : World :=
 ((W.alloc (.cells #[.iface x.2.1 x.2.2, .iface t u] 58)).alloc (.cells #[.string ⟨#[46]⟩, .slice (some ⟨W.heap.size, 0, none⟩) 2 2] 141)).setCell ⟨w.heap.size, 0, none⟩ (.iface 139 (.pointer (some ⟨W.heap.size + 1, 0, none⟩)))
theorem rndW_size (w W : World) (x : Itm) (t : Nat) (u : Value) : W.heap.size ≤ (rndW w W x t u).heap.size := by
 have := (grownBy_setCell' ((W.alloc (.cells #[.iface x.2.1 x.2.2, .iface t u] 58)).alloc (.cells #[.string ⟨#[46]⟩, .slice (some ⟨W.heap.size, 0, none⟩) 2 2] 141)) w.heap.size (.iface 139 (.pointer (some ⟨W.heap.size + 1, 0, none⟩)))).size; simp only [World.size_alloc] at this
 show _ ≤ _
 simp only [rndW]
 omega
theorem rndW_heap (w W : World) (x : Itm) (t : Nat) (u : Value) (k : Nat) (hk : k < W.heap.size + 2) (hne : k ≠ w.heap.size) : (rndW w W x t u).heap[k]? = ((W.alloc (.cells #[.iface x.2.1 x.2.2, .iface t u] 58)).alloc (.cells #[.string ⟨#[46]⟩, .slice (some ⟨W.heap.size, 0, none⟩) 2 2] 141)).heap[k]? :=
 (grownBy_setCell' _ w.heap.size _).block k (by simp only [World.size_alloc]; omega) (fun e => hne (Option.some.inj e))
theorem rndW_cell {w W : World} (x : Itm) (t : Nat) (u : Value) {p : Addr} {v : Value} (hne : p.block ≠ w.heap.size) (h : W.cell? p = some v) : (rndW w W x t u).cell? p = some v := by
 have hlt := World.block_lt_of_cell? _ _ h; refine (World.cell?_of_block (rndW_heap w W x t u p.block (by omega) hne)).trans ?_; rw [World.cell?_alloc_some _ _ _ (by rw [World.cell?_alloc_some _ _ _ (by rw [h]; rfl), h]; rfl), World.cell?_alloc_some _ _ _ (by rw [h]; rfl), h]
theorem bKeep_step {w W : World} {t : Nat} {u : Value} (hlow : Below w.heap.size w W) (hbx : Boxed W w.heap.size 58 (.iface t u)) (x : Itm) :
  KeepsOthers W (rndW w W x t u) ∧ BKeep w.heap.size (w.heap.size + 1) W (rndW w W x t u) := by
 refine ⟨((KeepsOthers.alloc W _).trans ((KeepsOthers.alloc _ _).trans (KeepsOthers.setCell _ _ _))), ⟨?_, fun v hv => rndW_cell x t u (by simp) hv⟩⟩; refine (((Below.refl w.heap.size W).alloc hlow.size _).alloc (by have := hlow.size; simp; omega) _).setCell (p := ⟨w.heap.size, 0, none⟩) (Nat.le_refl _) _
theorem lInv_start {w W : World} {B : Nat} (hB0 : Below w.heap.size w W) (hB : B ≤ w.heap.size) (ts : List (Cel × Fo)) : FoX W w.heap.size B (listT (ts.drop (ts.length - ([] : List Itm).length))) [.iface 94 (.string ⟨#[91, 93]⟩)] := by
 have e : ts.drop (ts.length - ([] : List Itm).length) = [] := by simp
 rw [e]; exact ⟨_, _, rfl, .inr (.inr (.inl ⟨rfl, rfl⟩)), rfl⟩
theorem lInv_step {w W : World} {B : Nat} {ts : List (Cel × Fo)} {zs : List (Nat × Value)} {pre : List Itm} {t : Nat} {u : Value} (hB : B ≤ w.heap.size)
  (hfo : ∀ j (h : j < ts.length), FoIn w B (.node ts[j].1 ts[j].2 .nil) [.iface (zs[j]?.getD (0, .nilIface)).1 (zs[j]?.getD (0, .nilIface)).2])
  (hlow : Below w.heap.size w W) (hbx : Boxed W w.heap.size 58 (.iface t u)) (hf : pre = upto (bkAt zs ts.length) pre.length → FoX W w.heap.size B (listT (ts.drop (ts.length - pre.length))) [.iface t u]) (hlt : pre.length < ts.length) (x : Itm) :
  LInv w B ts zs (pre ++ [x]) (rndW w W x t u) := by
 have hX := hbx.lt; refine ⟨_, _, ((hbx.alloc _).alloc _).set _, fun e => ?_⟩; rw [List.length_append, List.length_singleton, upto_succ] at e; obtain ⟨e1, e2⟩ := List.append_inj' e rfl
 have e3 : x = bkAt zs ts.length pre.length := by simpa using e2
 have hj : ts.length - 1 - pre.length < ts.length := by omega
 have hd : ts.drop (ts.length - (pre ++ [x]).length) = ts[ts.length - 1 - pre.length] :: ts.drop (ts.length - pre.length) := by
  rw [List.length_append, List.length_singleton, show ts.length - (pre.length + 1) = ts.length - 1 - pre.length by omega, List.drop_eq_getElem_cons hj]
  congr 2; omega
 rw [hd]; have h1 := hf e1; have h2 := (hfo _ hj).foX hlow
 have e4 : Value.iface x.2.1 x.2.2 = .iface (zs[ts.length - 1 - pre.length]?.getD (0, .nilIface)).1 (zs[ts.length - 1 - pre.length]?.getD (0, .nilIface)).2 := by rw [e3]; rfl
 rw [← e4] at h2; have g1 := h1.imp (W' := rndW w W x t u) hX (fun p v hp hv => rndW_cell x t u hp hv) (rndW_size _ _ _ _ _); have g2 := h2.imp (W' := rndW w W x t u) hX (fun p v hp hv => rndW_cell x t u hp hv) (rndW_size _ _ _ _ _)
 have k0 : (rndW w W x t u).heap[W.heap.size]? = some (.cells #[.iface x.2.1 x.2.2, .iface t u] 58) := by
  rw [rndW_heap w W x t u _ (by omega) (by omega)]; exact (Below.heap_alloc _ _ _ (by simp)).trans (World.alloc_heap_new W _)
 have k1 : (rndW w W x t u).heap[W.heap.size + 1]? = some (.cells #[.string ⟨#[46]⟩, .slice (some ⟨W.heap.size, 0, none⟩) 2 2] 141) := by
  rw [rndW_heap w W x t u _ (by omega) (by omega)]; have := World.alloc_heap_new (W.alloc (.cells #[.iface x.2.1 x.2.2, .iface t u] 58)) (.cells #[.string ⟨#[46]⟩, .slice (some ⟨W.heap.size, 0, none⟩) 2 2] 141)
  rwa [World.size_alloc] at this
 obtain ⟨v', vr, e5, hn, e6⟩ := g2; obtain ⟨rfl, rfl⟩ := List.cons.inj e5; refine ⟨_, [], rfl, .inr (.inr (.inr ⟨rfl, W.heap.size + 1, W.heap.size, [.iface x.2.1 x.2.2, .iface t u], rfl, by omega, by omega, strike_of (by simp; omega) (by simp [World.cell?, k1]; rfl), strike_of (by simp; omega) (by simp [World.cell?, k1]), ?_, fun i hi => ?_, ⟨_, _, rfl, hn, g1⟩⟩)), rfl⟩
 ·rw [strike_size]
  exact (Array.getElem?_eq_some_iff.1 k0).1
 ·refine strike_of (by simp; omega) ?_
  simp only [World.cell?, k0]
  match i, hi with
  | 0, _ => rfl
  | 1, _ => rfl
set_option maxHeartbeats 2000000 in
theorem listOf_in (F : Fence) (n : Nat) (h3 : F.fn 37) (h5 : F.fn 104) (h7 : F.fn 180) (hro : F.round = none) (hn : 3 ≤ n)
  (ts : List (Cel × Fo)) (zs : List (Nat × Value)) (b cap B : Nat) (w : World) (hlen : ts.length ≤ 2000) (hb : b < w.heap.size) (hB : B ≤ w.heap.size)
  (hc : ∀ j, j < ts.length → w.cell? ⟨b, j, none⟩ = some (.iface (zs[j]?.getD (0, .nilIface)).1 (zs[j]?.getD (0, .nilIface)).2))
  (hfo : ∀ j (h : j < ts.length), FoIn w B (.node ts[j].1 ts[j].2 .nil) [.iface (zs[j]?.getD (0, .nilIface)).1 (zs[j]?.getD (0, .nilIface)).2]) :
  CallsIn F n Tryz.prog 37 #[.slice (some ⟨b, 0, none⟩) ts.length cap, .iface 94 (.string ⟨#[91, 93]⟩)] w fun e w' => ∃ v, e = .returned v ∧ FoIn w' B (listT ts) [v] ∧ Below w.heap.size w w' := by
 have h1 : 1 ≤ n := by omega
 refine callsIn_of_wp_marks Tryz.func37 rfl h3 ?_ hro; simp only [Tryz.ntmps37, List.size_toArray, List.length_cons, List.length_nil, Nat.reduceAdd, Nat.reduceSub, Array.replicate_succ, Array.replicate_zero, List.push_toArray, List.append_toArray, List.nil_append, List.cons_append]
 gi_wp2_with (gi_at_call 104; refine (back_in F (n - 1) h5 hro _ _ _ _).mono ?_; rintro e w' ⟨rfl, rfl⟩)
 have bL0 := Boxed.new w 58 (.iface 94 (.string ⟨#[91, 93]⟩)); have bL := bL0.alloc (.cells #[.slice (some ⟨b, 0, none⟩) ts.length cap] 83); have bN := Boxed.new (w.alloc (.cells #[.iface 94 (.string ⟨#[91, 93]⟩)] 58)) 83 (.slice (some ⟨b, 0, none⟩) ts.length cap); rw [World.size_alloc] at bN; have hB0 : Below w.heap.size w ((w.alloc (.cells #[.iface 94 (.string ⟨#[91, 93]⟩)] 58)).alloc (.cells #[.slice (some ⟨b, 0, none⟩) ts.length cap] 83)) := ((Below.refl _ w).alloc (Nat.le_refl _) _).alloc (by simp) _; refine wpIn_rangeFunc_ownG hro h1 (gf := 180) (lb := #[.pointer (some ⟨w.heap.size + 1, 0, none⟩)]) rfl h7 (enters_of Tryz.func180 (by kernel_rfl) rfl)
  (back_stops F (n - 1) h7 hro (by omega) (w.heap.size + 1) w.heap.size b ts.length cap zs hlen _ (by simp) (by simp; omega) hb bN.cell (fun j hj => (hB0.cell (p := ⟨b, j, none⟩) hb).trans (hc j hj))) BKeep.trans (bKeep_b (by simp; omega)) (Below.refl _ _) (fun _ => rfl)
  (fun pre W => LInv w B ts zs pre W ∧ Below w.heap.size w W)
  (fun _ _ _ => False)
  (OwnFrom.and (Own.from (lInv_own w B ts zs) _) (ownFrom_below (Nat.le_refl _) (by simp; omega)))
  (fun _ _ _ _ _ hs _ _ => hs)
  ⟨⟨_, _, bL, fun _ => lInv_start hB0 hB ts⟩, hB0⟩
  (fun x => { tmps := #[.slice (some ⟨b, 0, none⟩) ts.length cap, .iface 94 (.string ⟨#[91, 93]⟩), undef, undef, .nilIface, .pointer (some ⟨w.heap.size, 0, none⟩), undef, .iface x.2.1 x.2.2, .iface 94 (.string ⟨#[91, 93]⟩), .slice (some ⟨b, 0, none⟩) ts.length cap, .func (.func 180) #[] #[.pointer (some ⟨w.heap.size + 1, 0, none⟩)], .int .i64 (x.1 : Int), .iface x.2.1 x.2.2, undef, undef, undef, undef, undef, undef, undef], defers := [] }) ?assign ?body ?done ?stop
 case assign =>
  intro l x W K hK
  gi_wp2
  exact hK
 case body =>
  rintro l pre x W ⟨⟨t, u, hbx, hf⟩, hlow⟩ hlt; have hcl := hbx.cell; have hfr := hbx.frozen; have b2 := (hbx.alloc (.cells #[.iface x.2.1 x.2.2, .iface t u] 58)).alloc (.cells #[.string ⟨#[46]⟩, .slice (some ⟨W.heap.size, 0, none⟩) 2 2] 141); have hcl2 := b2.cell; have hfr2 := b2.frozen; have HSTEP : Hid _ := lInv_step hB hfo hlow hbx hf hlt x; have HK : Hid _ := bKeep_step hlow hbx x; have HL : Hid _ := hlow; clear hf
  gi_wp2
  exact ⟨HK.out.1.from _, HK.out.2, HSTEP.out, HL.out.trans HK.out.2.1⟩
 case done =>
  rintro D ys W hD rfl ⟨⟨t, u, hbx, hf⟩, hlow⟩ hK; have hcl := hbx.cell
  have HFO : Hid (FoIn W B (listT ts) [.iface t u]) := by
   have := (hf (by rw [upto_length])).foIn hbx.lt
   rwa [upto_length, Nat.sub_self, List.drop_zero] at this
  clear hf
  gi_wp2
  refine ⟨by simp, .inl ⟨_, _, rfl, run_takeDeferred hK, ?_⟩⟩; refine ⟨.iface t u, by simp [results, Tryz.f37, go_sem], _, rfl, FoIn.imp2 (Nat.le_refl _) (fun p v hp => cell_kept hp (grownBy_putObj' _ D (.deferred none)) (fun r e => by cases e; exact ⟨_, hK, rfl⟩)) (by simp) _ _ HFO.out, hlow.trans (belowK_b (w := w) (Nat.le_refl _) W D _ _ (by simp at hD; omega) hK rfl rfl)⟩
 case stop =>
  rintro D c pre W _ _ h _; exact h.elim
theorem listOf_any (ts : List (Cel × Fo)) (zs : List (Nat × Value)) (b cap B : Nat) (w : World) (hlen : ts.length ≤ 2000) (hb : b < w.heap.size) (hB : B ≤ w.heap.size)
  (hc : ∀ j, j < ts.length → w.cell? ⟨b, j, none⟩ = some (.iface (zs[j]?.getD (0, .nilIface)).1 (zs[j]?.getD (0, .nilIface)).2))
  (hfo : ∀ j (h : j < ts.length), FoIn w B (.node ts[j].1 ts[j].2 .nil) [.iface (zs[j]?.getD (0, .nilIface)).1 (zs[j]?.getD (0, .nilIface)).2]) :
  Calls Tryz.prog 37 #[.slice (some ⟨b, 0, none⟩) ts.length cap, .iface 94 (.string ⟨#[91, 93]⟩)] w fun e w' => ∃ v, e = .returned v ∧ FoIn w' B (listT ts) [v] ∧ Below w.heap.size w w' :=
 callsIn_wide.1 (listOf_in Fence.wide 3 trivial trivial trivial rfl (Nat.le_refl _) ts zs b cap B w hlen hb hB hc hfo)
end
section
open Go Go.RowKit
end
section
open Go Go.RowKit Go.Shelf
attribute [local go_sem] Oper.semAt_some
theorem one_set {W : World} {T : Nat} {u : Value} {t : TypeId} (h : W.heap[T]? = some (.cells #[u] t)) (v : Value) : (W.setCell ⟨T, 0, none⟩ v).heap[T]? = some (.cells #[v] t) := by
 rw [heap_setCell_same _ _ _ _ _ _ h]; rfl
set_option maxHeartbeats 4000000 in
theorem items_in (l sp Bt n : Nat) (w0 : World) (c : Cel) (k : Fo) (lm : World → Nat) (J : List Value → World → Prop) (hok : (Fo.node c k .nil).ok) (hl : k.cells.length ≤ 10000) (hn : 1 ≤ n)
  (hJ : ∀ vs W W', J vs W → W.grownBy W' (some sp) → J vs W') (hJb : ∀ vs W, J vs W → Below w0.heap.size w0 W ∧ lm W = vs.length) (hsp : w0.heap.size ≤ sp)
  (hY : ∀ vs t x W rv, J vs W → vs.length ≤ 10000 → W.heap[sp]? = some (.cells #[rv] 196) → YieldAt Fence.wide (n - 1) Tryz.prog l #[.iface t x] W fun e W' => e = .returned (.bool true) ∧ J (vs ++ [.iface t x]) W' ∧ W'.heap[sp]? = W.heap[sp]?)
  (W : World) (t0 : TypeId) (x0 : Value) (hfo : FoIn w0 Bt (.node c k .nil) [.iface t0 x0]) (hS : W.heap[sp]? = some (.cells #[.iface t0 x0] 196)) (h0 : J [] W) :
  CallsIn Fence.wide n Tryz.prog 147 #[.pointer (some ⟨sp, 0, none⟩), .func (.yield l) #[] #[]] W fun e W' => (∃ v, e = .returned v) ∧ ∃ vs v2, J vs W' ∧ W'.heap[sp]? = some (.cells #[v2] 196) ∧ FoIn w0 Bt (itsF (splitF c k).1) vs ∧ FoIn w0 Bt (.node (splitF c k).2.1 (splitF c k).2.2 .nil) [v2] ∧ (itsF (splitF c k).1).ok := by
 have HJJ : Hid (∀ vs W W', J vs W → W.grownBy W' (some sp) → J vs W') := hJ; have HJB : Hid (∀ vs W, J vs W → Below w0.heap.size w0 W ∧ lm W = vs.length) := hJb; have HYY : Hid _ := hY; have HS : Hid (W.heap[sp]? = some (.cells #[.iface t0 x0] 196)) := hS; have H0 : Hid (J [] W) := h0; have HFO : Hid (FoIn w0 Bt (.node c k .nil) [.iface t0 x0]) := hfo; have HOK : Hid (Fo.node c k .nil).ok := hok; have HSP : Hid (w0.heap.size ≤ sp) := hsp; clear hJ hJb hY hS h0 hfo hok hsp; refine callsIn_of_wp Tryz.func147 rfl trivial ?_ rfl; simp only [Tryz.ntmps147, List.size_toArray, List.length_cons, List.length_nil, Nat.reduceAdd, Nat.reduceSub, Array.replicate_succ, Array.replicate_zero, List.push_toArray, List.append_toArray, List.nil_append, List.cons_append]
 gi_wp2_with fail
 gi_loopw [] (fun wr => ∃ (its : List (Cel × Fo)) (c' : Cel) (k' : Fo) (vt : TypeId) (vx : Value) (vs : List Value), vs.length + k'.cells.length ≤ 10000 ∧ Hid (splitF c k = (its ++ (splitF c' k').1, (splitF c' k').2)) ∧ Hid (FoIn w0 Bt (.node c' k' .nil) [.iface vt vx]) ∧ Hid ((Fo.node c' k' .nil).ok ∧ (itsF its).ok) ∧ Hid (FoIn w0 Bt (itsF its) vs) ∧
  Hid (wr.heap[sp]? = some (.cells #[.iface vt vx] 196)) ∧ Hid (J vs wr)) (fun wr => 10001 - lm wr)
 case atStart => exact ⟨[], c, k, t0, x0, [], by simpa using hl, rfl, HFO, ⟨HOK.out, trivial⟩, rfl, HS, H0⟩
 case round =>
  obtain ⟨its, c', k', vt, vx, vs, hle, HF, HT, HO, HI, HSP1, HJW⟩ := hrel
  have stop : ∀ W', W'.heap[sp]? = some (.cells #[.iface vt vx] 196) → J vs W' → splitF c' k' = ([], (c', k')) → ∃ vs v2, J vs W' ∧ W'.heap[sp]? = some (.cells #[v2] 196) ∧ FoIn w0 Bt (itsF (splitF c k).1) vs ∧ FoIn w0 Bt (.node (splitF c k).2.1 (splitF c k).2.2 .nil) [v2] ∧ (itsF (splitF c k).1).ok := fun W' h1 h2 h => by
   have h3 := HF.out; rw [h, List.append_nil] at h3; exact ⟨vs, _, h2, h1, by rw [h3]; exact HI.out, by rw [h3]; exact HT.out, by rw [h3]; exact HO.out.2⟩
  have STOP : Hid _ := stop; clear stop; obtain ⟨v', vr, e, hnode, _⟩ := HT.out; obtain ⟨rfl, rfl⟩ := List.cons.inj e; clear e; have s0 : wr.cell? ⟨sp, 0, none⟩ = some (.iface vt vx) := cell_of_row _ _ 0 _ _ _ HSP1.out
  have leaf : ∀ c0, c'.1 = c0 → c0 ≠ 3 → splitF c' k' = ([], (c', k')) := fun c0 h1 h2 => splitF_other _ _ (fun e => h2 (by rw [← h1, e]; rfl))
  rcases hnode with ⟨h0, hv⟩ | ⟨h0, hv⟩ | ⟨h0, hv⟩ | ⟨h0, b, g, kv, hv, hcomp⟩
  ·obtain ⟨rfl, rfl⟩ : vt = 82 ∧ vx = .int .i64 c'.2.1 := by injection hv with h1 h2; exact ⟨h1, h2⟩
   have HL : Hid _ := STOP.out wr HSP1.out HJW.out (leaf 0 h0 (by decide)); have n1 := noComp_var
   obtain ⟨x, ex⟩ : ∃ x, x = Value.int .i64 c'.2.1 := ⟨_, rfl⟩
   rw [← ex] at s0; clear leaf h0 hv ex STOP HT HI HO HF
   gi_wp2_with fail
   refine ⟨trivial, ?_⟩
   gi_wp2_with fail
   refine bodyPost_ret (results_none rfl _ _ _) rfl ⟨⟨_, rfl⟩, HL.out⟩
  ·obtain ⟨rfl, rfl⟩ : vt = 150 ∧ vx = .int .i64 c'.2.1 := by injection hv with h1 h2; exact ⟨h1, h2⟩
   have HL : Hid _ := STOP.out wr HSP1.out HJW.out (leaf 1 h0 (by decide)); have n1 := noComp_num
   obtain ⟨x, ex⟩ : ∃ x, x = Value.int .i64 c'.2.1 := ⟨_, rfl⟩
   rw [← ex] at s0; clear leaf h0 hv ex STOP HT HI HO HF
   gi_wp2_with fail
   refine ⟨trivial, ?_⟩
   gi_wp2_with fail
   refine bodyPost_ret (results_none rfl _ _ _) rfl ⟨⟨_, rfl⟩, HL.out⟩
  ·obtain ⟨rfl, rfl⟩ : vt = 94 ∧ vx = .string (strOfNums c'.2.2) := by injection hv with h1 h2; exact ⟨h1, h2⟩
   have HL : Hid _ := STOP.out wr HSP1.out HJW.out (leaf 2 h0 (by decide)); have n1 := noComp_atom
   obtain ⟨x, ex⟩ : ∃ x, x = Value.string (strOfNums c'.2.2) := ⟨_, rfl⟩
   rw [← ex] at s0; clear leaf h0 hv ex STOP HT HI HO HF
   gi_wp2_with fail
   refine ⟨trivial, ?_⟩
   gi_wp2_with fail
   refine bodyPost_ret (results_none rfl _ _ _) rfl ⟨⟨_, rfl⟩, HL.out⟩
  ·obtain ⟨rfl, rfl⟩ : vt = 139 ∧ vx = .pointer (some ⟨b, 0, none⟩) := by injection hv with h1 h2; exact ⟨h1, h2⟩
   have n1 := isComp; have hwr : Below w0.heap.size w0 wr := (HJB.out _ _ HJW.out).1; have hkc := FoIn.count _ _ hcomp.2.2.2.2.2.2; have hcn := HO.out.1.2.2.1 h0
   obtain ⟨q, eq⟩ : ∃ q, q = kv.length := ⟨_, rfl⟩
   have d0 := (hwr.cell (World.block_lt_of_cell? _ _ hcomp.2.2.1)).trans hcomp.2.2.1; have d1 := (hwr.cell (World.block_lt_of_cell? _ _ hcomp.2.2.2.1)).trans hcomp.2.2.2.1; rw [← eq] at d1; have hstr := str_eq HO.out.1.2.1 [46]
   have HSQ : Hid (c'.2.1 = q) := by show _ = _; rw [hcn, ← hkc, eq]
   obtain ⟨str, es⟩ : ∃ str, str = strOfNums c'.2.2 := ⟨_, rfl⟩
   rw [← es] at d0 hstr; have HFU := functor_any b g q str wr d0 d1; have HC : Hid (CompAt w0 Bt c'.2.2 k' b g kv) := hcomp
   have hqb : q ≤ 10000 := by have := Fo.count_le k'; omega
   by_cases hs : c'.2.2 = [46]
   ·have hs' : str.toList = [46] := hstr.2 (by rw [hs]; rfl)
    by_cases hq : q = 2
    ·have hdot : c' = dot := by
      have h1 := HSQ.out; obtain ⟨a1, a2, a3⟩ := c'; simp only at h0 hs h1; rw [h0, hs, h1, hq]; rfl
     obtain ⟨c1, k1, c2, k2, rfl⟩ := two_of (k := k') (by rw [← hkc, ← eq, hq]); obtain ⟨v1, vr1, e1, hn1, v2, vr2, e2, hn2, e3⟩ := hcomp.2.2.2.2.2.2; have e3' : vr2 = [] := e3; subst e3' e2; subst e1; obtain ⟨t1, x1, rfl⟩ := hn1.iface; obtain ⟨t2, x2, rfl⟩ := hn2.iface; have b0 := hcomp.2.2.2.2.2.1 0 (by simp); have b1 := hcomp.2.2.2.2.2.1 1 (by simp); simp only [List.getD_cons_zero, List.getD_cons_succ] at b0 b1; subst hq
     obtain ⟨W3, eW3⟩ : ∃ W3 : World → World, W3 = fun V => V.setCell ⟨sp, 0, none⟩ (.iface t2 x2) := ⟨_, rfl⟩
     have hbl := hcomp.2.2.2.2.1; have hbb : b < w0.heap.size := World.block_lt_of_cell? _ _ hcomp.2.2.1
     have HKP : Hid (∀ V, Below wr.heap.size wr V → V.cell? ⟨b, 1, none⟩ = some (.slice (some ⟨g, 0, none⟩) 2 2) ∧ V.cell? ⟨g, 0, none⟩ = some (.iface t1 x1) ∧ V.cell? ⟨g, 1, none⟩ = some (.iface t2 x2) ∧ V.heap[sp]? = some (.cells #[.iface 139 (.pointer (some ⟨b, 0, none⟩))] 196) ∧ J vs V) := fun V hV => by
      have hw := Below.on hwr hV; refine ⟨?_, (hw.cell (World.block_lt_of_cell? _ _ b0)).trans b0, (hw.cell (World.block_lt_of_cell? _ _ b1)).trans b1, (hV.block _ (Array.getElem?_eq_some_iff.1 HSP1.out).1).trans HSP1.out, HJJ.out _ _ _ HJW.out (grown_of_below hV _)⟩; exact (hV.cell (World.block_lt_of_cell? _ _ d1)).trans d1
     have HNEXT : Hid (splitF c k = ((its ++ [(c1, k1)]) ++ (splitF c2 k2).1, (splitF c2 k2).2) ∧ FoIn w0 Bt (.node c2 k2 .nil) [.iface t2 x2] ∧ ((Fo.node c2 k2 .nil).ok ∧ (itsF (its ++ [(c1, k1)])).ok) ∧ FoIn w0 Bt (itsF (its ++ [(c1, k1)])) (vs ++ [.iface t1 x1])) := by
      have hk := HO.out.1.2.2.2.2.1; refine ⟨?_, ⟨_, [], rfl, hn2, rfl⟩, ⟨hk.2.2.2.2.2, ?_⟩, ?_⟩
      ·rw [HF.out, hdot, splitF_dot]; simp
      ·rw [itsF_snoc, Fo.ok_cat]
       exact ⟨HO.out.2, hk.1, hk.2.1, hk.2.2.1, hk.2.2.2.1, hk.2.2.2.2.1, trivial⟩
      ·rw [itsF_snoc]
       exact FoIn.cat _ _ _ _ HI.out ⟨_, [], rfl, hn1, rfl⟩
     have hnn : (vs ++ [Value.iface t1 x1]).length + k2.cells.length ≤ 10000 := by simp [Fo.cells] at hle ⊢; omega
     have hnl : vs.length ≤ 10000 := by omega
     have HYN : Hid (∀ V, V.heap[sp]? = some (.cells #[.iface 139 (.pointer (some ⟨b, 0, none⟩))] 196) → J vs V → YieldAt Fence.wide (n - 1) Tryz.prog l #[.iface t1 x1] (V.setCell ⟨sp, 0, none⟩ (.iface t2 x2)) fun e W' => e = .returned (.bool true) ∧ J (vs ++ [.iface t1 x1]) W' ∧ W'.heap[sp]? = some (.cells #[.iface t2 x2] 196)) := fun V hV hj => by
      obtain ⟨fn, tmps, assign, body, hy, hR⟩ := HYY.out vs t1 x1 (V.setCell ⟨sp, 0, none⟩ (.iface t2 x2)) (.iface t2 x2) (HJJ.out _ _ _ hj (grown_setCell V ⟨sp, 0, none⟩ _)) hnl (one_set hV _); exact ⟨fn, tmps, assign, body, hy, RoundIn.mono hR fun e W' h => ⟨h.1, h.2.1, h.2.2.trans (one_set hV _)⟩⟩
     have HBS : Hid (b ≠ sp ∧ g ≠ sp) := by have := HSP.out; exact ⟨by omega, by omega⟩
     have HLM : Hid (lm wr = vs.length) := (HJB.out _ _ HJW.out).2; clear leaf h0 hv STOP HT HO HI HF hcomp hkc hcn eq es hstr hs hdot hn1 hn2 e3 hwr HSQ HFO HOK b0 b1 eW3 hbl hbb HJW HSP1 HC
     gi_wp2_with fail
     refine ⟨trivial, ?_⟩; refine CallsIn.mono (callsIn_wide.2 HFU) ?_; rintro e w2 ⟨rfl, hb2⟩; obtain ⟨f0, f1, f2, f3, f4⟩ := HKP.out w2 hb2; obtain ⟨fn, tmps, assign, body, hy, hR⟩ := HYN.out w2 f3 f4; have HR : Hid _ := hR; have s1 : w2.cell? ⟨sp, 0, none⟩ = some (.iface 139 (.pointer (some ⟨b, 0, none⟩))) := cell_of_row _ _ 0 _ _ _ f3; have z1 : w2.frozen? ⟨sp, 0, none⟩ = false := frozen_of_row _ _ 0 _ _ f3; have y0 : (w2.setCell ⟨sp, 0, none⟩ (.iface t2 x2)).cell? ⟨b, 1, none⟩ = some (.slice (some ⟨g, 0, none⟩) 2 2) := (World.cell?_setCell_other _ _ _ _ (fun e => HBS.out.1 (by have := congrArg Addr.block e; simpa using this.symm))).trans f0; have y1 : (w2.setCell ⟨sp, 0, none⟩ (.iface t2 x2)).cell? ⟨g, 0, none⟩ = some (.iface t1 x1) := (World.cell?_setCell_other _ _ _ _ (fun e => HBS.out.2 (by have := congrArg Addr.block e; simpa using this.symm))).trans f1; clear s0 d0 d1 HFU HYN HKP f3 f4 hb2 hR
     gi_wp2_with fail
     refine RoundIn.mono HR.out ?_; rintro e w4 ⟨rfl, hj4, hk4⟩; have HJ4 : Hid _ := hj4; have HK4 : Hid _ := hk4; clear hj4 hk4 hy HR
     gi_wp2_with fail
     go_roundw
     case rel => exact ⟨its ++ [(c1, k1)], c2, k2, t2, x2, vs ++ [Value.iface t1 x1], hnn, HNEXT.out.1, HNEXT.out.2.1, HNEXT.out.2.2.1, HNEXT.out.2.2.2, HK4.out, HJ4.out⟩
     case measure =>
      have h1 := HLM.out; have h2 := (HJB.out _ _ HJ4.out).2; simp only [List.length_append, List.length_singleton] at h2
      omega
    ·have hq' : ¬ ((q : Int) = 2) := by omega
     have HSO : Hid (splitF c' k' = ([], (c', k'))) := splitF_other _ _ (fun e => hq (by have h1 := HSQ.out; rw [e] at h1; simp [dot] at h1; omega)); clear leaf h0 hv HT HO HI HF hcomp hkc hcn eq es hstr hs hq HSQ hwr d0 d1
     gi_wp2_with fail
     refine ⟨trivial, ?_⟩; refine CallsIn.mono (callsIn_wide.2 HFU) ?_; rintro e w2 ⟨rfl, hb2⟩; have HL : Hid _ := STOP.out w2 ((hb2.block _ (Array.getElem?_eq_some_iff.1 HSP1.out).1).trans HSP1.out) (HJJ.out _ _ _ HJW.out (grown_of_below hb2 _)) HSO.out; clear hb2
     gi_wp2_with fail
     refine bodyPost_ret (results_none rfl _ _ _) rfl ⟨⟨_, rfl⟩, HL.out⟩
   ·have hs' : ¬ str.toList = [46] := fun h => hs (by have := hstr.1 h; simpa using this)
    have HSO : Hid (splitF c' k' = ([], (c', k'))) := splitF_other _ _ (fun e => hs (by rw [e]; rfl)); clear leaf h0 hv HT HO HI HF hcomp hkc hcn eq es hstr hs HSQ hwr d0 d1
    gi_wp2_with fail
    refine ⟨trivial, ?_⟩; refine CallsIn.mono (callsIn_wide.2 HFU) ?_; rintro e w2 ⟨rfl, hb2⟩; have HL : Hid _ := STOP.out w2 ((hb2.block _ (Array.getElem?_eq_some_iff.1 HSP1.out).1).trans HSP1.out) (HJJ.out _ _ _ HJW.out (grown_of_below hb2 _)) HSO.out; clear hb2
    gi_wp2_with fail
    refine bodyPost_ret (results_none rfl _ _ _) rfl ⟨⟨_, rfl⟩, HL.out⟩
attribute [local go_sem] Oper.semAt_some
def lenB (w : World) (h : Nat) : Nat := match w.cell? ⟨h, 0, none⟩ with
 | some (.slice _ n _) => n
 | _ => 0
theorem lenB_at {w : World} {h n c : Nat} {p : Option Addr} (e : w.cell? ⟨h, 0, none⟩ = some (.slice p n c)) : lenB w h = n := by unfold lenB; rw [e]
structure JC (w0 w : World) (sp T : Nat) (ready : Obj) (vs : List Value) (W : World) : Prop where
 low : Below w0.heap.size w0 W
 gr : w.grownBy W (some sp)
 top : T + 3 ≤ W.heap.size
 mark : W.heap[T + 1]? = some (.deferred (some []))
 rec' : W.heap[T + 2]? = some ready
 box : ∃ p n c, W.heap[T]? = some (.cells #[.slice p n c] 83) ∧ n = vs.length ∧ W.ownsRow (T + 3) 58 1 (.slice p n c) n vs
theorem JC.grown {w0 w W W' : World} {sp T : Nat} {ready : Obj} {vs : List Value} (h : JC w0 w sp T ready vs W) (hw : w0.heap.size ≤ sp) (hsp : sp < T) (hT : T = w.heap.size) (hg : W.grownBy W' (some sp)) : JC w0 w sp T ready vs W' := by
 obtain ⟨p, n, c, hb, hn, ho⟩ := h.box; have ht := h.top; refine ⟨h.low.trans ⟨hg.os, hg.tape, hg.output, hg.size, fun k hk => hg.block k (Nat.lt_of_lt_of_le hk h.low.size) (fun e => by cases e; omega)⟩, h.gr.trans hg, Nat.le_trans ht hg.size, (hg.block _ (by omega) (fun e => by cases e; omega)).trans h.mark, (hg.block _ (by omega) (fun e => by cases e; omega)).trans h.rec', p, n, c, (hg.block _ (by omega) (fun e => by cases e; omega)).trans hb, hn, ho.kept hg ?_⟩
 cases hob : Value.ownBlock (.slice p n c) with
 | none => exact .inl rfl
 | some g =>
   have := (ho.lt g hob).1; exact .inr (fun e => by cases e; omega)
theorem JC.next {w0 w W V1 w7 U : World} {sp T n c cap g7 : Nat} {p : Option Addr} {ready busy : Obj} {vs : List Value} {x : Value} (h : JC w0 w sp T ready vs W) (hw : w0.heap.size ≤ T) (hsp : sp < T) (hT : T = w.heap.size)
  (hb : W.heap[T]? = some (.cells #[.slice p n c] 83)) (hn : n = vs.length) (ho : W.ownsRow (T + 3) 58 1 (.slice p n c) n vs)
  (e1 : V1 = (W.putObj (T + 2) busy).alloc (.cells #[x] 58)) (ho7 : w7.ownsRow (T + 3) 58 1 (.slice (some ⟨g7, 0, none⟩) (n + 1) cap) (n + 1) (vs ++ [x])) (hg7 : V1.grownBy w7 (Value.ownBlock (.slice p n c)))
  (eU : U = (w7.setCell ⟨T, 0, none⟩ (.slice (some ⟨g7, 0, none⟩) (n + 1) cap)).putObj (T + 2) ready) :
  (w7.setCell ⟨T, 0, none⟩ (.slice (some ⟨g7, 0, none⟩) (n + 1) cap)).heap[T + 2]? = some busy ∧ JC w0 w sp T ready (vs ++ [x]) U ∧ U.heap[sp]? = W.heap[sp]? := by
 have ht := h.top
 have own : ∀ k, k < T + 3 → Value.ownBlock (.slice p n c) ≠ some k := fun k hk e => by have := (ho.lt k e).1; omega
 have hV : ∀ k, k < W.heap.size → k ≠ T + 2 → V1.heap[k]? = W.heap[k]? := fun k hk hne => by
  rw [e1]; exact (Below.heap_alloc _ _ _ (by simpa using hk)).trans (World.putObj_heap_other hne)
 have hVb : V1.heap[T + 2]? = some busy := by
  rw [e1]; exact (Below.heap_alloc _ _ _ (by simp; omega)).trans (World.putObj_heap_same (by omega))
 have hVs : V1.heap.size = W.heap.size + 1 := by rw [e1]; simp
 have h7 : ∀ k, k < T + 3 → w7.heap[k]? = V1.heap[k]? := fun k hk => hg7.block k (by omega) (own k hk).symm
 have h7' : ∀ k, k < T + 3 → k ≠ T + 2 → w7.heap[k]? = W.heap[k]? := fun k hk hne => (h7 k hk).trans (hV k (by omega) hne)
 have h8 : ∀ k, k ≠ T → (w7.setCell ⟨T, 0, none⟩ (.slice (some ⟨g7, 0, none⟩) (n + 1) cap)).heap[k]? = w7.heap[k]? := fun k hne => heap_setCell_other w7 ⟨T, 0, none⟩ k _ (fun e => hne e)
 have hUk : ∀ k, k ≠ T → k ≠ T + 2 → U.heap[k]? = w7.heap[k]? := fun k h1 h2 => by rw [eU]; exact (World.putObj_heap_other h2).trans (h8 k h1)
 have h8b : (w7.setCell ⟨T, 0, none⟩ (.slice (some ⟨g7, 0, none⟩) (n + 1) cap)).heap[T]? = some (.cells #[.slice (some ⟨g7, 0, none⟩) (n + 1) cap] 83) := one_set ((h7' T (by omega) (by omega)).trans hb) _
 have hs7 : W.heap.size + 1 ≤ w7.heap.size := by have := hg7.size; omega
 have hsU : U.heap.size = w7.heap.size := by rw [eU]; simp
 have hos : U.os = W.os := by rw [eU]; exact hg7.os.trans (by rw [e1]; rfl)
 have htp : U.tape = W.tape := by rw [eU]; exact hg7.tape.trans (by rw [e1]; rfl)
 have hop : U.output = W.output := by rw [eU]; exact hg7.output.trans (by rw [e1]; rfl)
 refine ⟨(h8 _ (by omega)).trans ((h7 _ (by omega)).trans hVb), ⟨⟨hos.trans h.low.os, htp.trans h.low.tape, hop.trans h.low.output, by have := h.low.size; omega, fun k hk => ?_⟩, ⟨hos.trans h.gr.os, htp.trans h.gr.tape, hop.trans h.gr.output, by have := h.gr.size; omega, fun k hk hne => ?_⟩, by omega, ?_, ?_, some ⟨g7, 0, none⟩, n + 1, cap, ?_, by simp [hn], ?_⟩, ?_⟩
 ·exact (hUk k (by omega) (by omega)).trans ((h7' k (by omega) (by omega)).trans (h.low.block k hk))
 ·exact (hUk k (by omega) (by omega)).trans ((h7' k (by omega) (by omega)).trans (h.gr.block k hk hne))
 ·exact (hUk _ (by omega) (by omega)).trans ((h7' _ (by omega) (by omega)).trans h.mark)
 ·rw [eU]; exact World.putObj_heap_same (by simp; omega)
 ·rw [eU]; exact (World.putObj_heap_other (by omega)).trans h8b
 ·rw [eU]
  have hlt : ∀ g, Value.ownBlock (.slice (some ⟨g7, 0, none⟩) (n + 1) cap) = some g → T + 3 ≤ g := fun g e => (ho7.lt g e).1
  refine (ho7.kept (grown_setCell w7 ⟨T, 0, none⟩ _) ?_).kept (grownBy_putObj' _ _ _) ?_
  ·cases hob : Value.ownBlock (.slice (some ⟨g7, 0, none⟩) (n + 1) cap) with
   | none => exact .inl rfl
   | some g => exact .inr (fun e => by have := hlt g hob; cases e; simp at this; omega)
  ·cases hob : Value.ownBlock (.slice (some ⟨g7, 0, none⟩) (n + 1) cap) with
   | none => exact .inl rfl
   | some g => exact .inr (fun e => by have := hlt g hob; cases e; omega)
 ·exact (hUk _ (by omega) (by omega)).trans (h7' _ (by omega) (by omega))
def ColOut (w0 : World) (Bt sp : Nat) (w : World) (c : Cel) (k : Fo) (e : Ending) (w' : World) : Prop :=
 ∃ p n cp vs v2, e = .returned (.slice p n cp) ∧ n = (splitF c k).1.length ∧ w'.ownsRow w.heap.size 58 1 (.slice p n cp) n vs ∧ FoIn w0 Bt (itsF (splitF c k).1) vs ∧ FoIn w0 Bt (.node (splitF c k).2.1 (splitF c k).2.2 .nil) [v2] ∧ w'.heap[sp]? = some (.cells #[v2] 196) ∧ (itsF (splitF c k).1).ok ∧ w.grownBy w' (some sp)
set_option maxHeartbeats 4000000 in
theorem appendSeq_any (sp Bt : Nat) (w0 w : World) (c : Cel) (k : Fo) (hok : (Fo.node c k .nil).ok) (hl : k.cells.length ≤ 10000) (t0 : TypeId) (x0 : Value) (hfo : FoIn w0 Bt (.node c k .nil) [.iface t0 x0]) (hB : Below w0.heap.size w0 w) (hsp : w0.heap.size ≤ sp)
  (hS : w.heap[sp]? = some (.cells #[.iface t0 x0] 196)) :
  Calls Tryz.prog 256 #[.slice none 0 0, .func (.func 147) #[.pointer (some ⟨sp, 0, none⟩)] #[]] w (ColOut w0 Bt sp w c k) := by
 have hspl : sp < w.heap.size := (Array.getElem?_eq_some_iff.1 hS).1; refine (callsIn_wide (n := 6)).1 ?_; refine callsIn_of_wp_marks Tryz.func256 rfl trivial ?_ rfl; simp only [Tryz.ntmps256, List.size_toArray, List.length_cons, List.length_nil, Nat.reduceAdd, Nat.reduceSub, Array.replicate_succ, Array.replicate_zero, List.push_toArray, List.append_toArray, List.nil_append, List.cons_append]
 gi_wp2_with fail
 obtain ⟨T, eT⟩ : ∃ T, T = w.heap.size := ⟨_, rfl⟩
 refine wpIn_range_pan (gf := 147) (first := #[.pointer (some ⟨sp, 0, none⟩)]) rfl (enters_of Tryz.func147 (by kernel_rfl) rfl) ?_; rintro l D ready busy done W1 hD hL hW1 hr1 hr2 hr3 hround
 have eD : D = T + 1 := by rw [hD, eT]; simp
 have eL : l = T + 2 := by rw [hL, eT]; simp
 clear hD hL; subst eD; subst eL
 have hbel : Below w.heap.size w W1 := by
  rw [hW1]; exact (((Below.refl _ _).alloc (Nat.le_refl _) _).alloc (by simp) _).alloc (by simp; omega) _
 have hW1s : W1.heap.size = T + 3 := by rw [hW1, eT]; simp
 have k0 : W1.heap[T]? = some (.cells #[.slice none 0 0] 83) := by
  rw [hW1, eT]; exact (Below.heap_alloc _ _ _ (by simp; omega)).trans ((Below.heap_alloc _ _ _ (by simp)).trans (heap_alloc_new _ _))
 have k1 : W1.heap[T + 1]? = some (.deferred (some [])) := by
  rw [hW1, eT]; refine (Below.heap_alloc _ _ _ (by simp)).trans ?_; have := heap_alloc_new (w.alloc (.cells #[.slice none 0 0] 83)) (.deferred (some []))
  rwa [show (w.alloc (.cells #[.slice none 0 0] 83)).heap.size = w.heap.size + 1 from by simp] at this
 have k2 : W1.heap[T + 2]? = some ready := by
  have := heap_alloc_new ((w.alloc (.cells #[.slice none 0 0] 83)).alloc (.deferred (some []))) ready; rw [show ((w.alloc (.cells #[.slice none 0 0] 83)).alloc (.deferred (some []))).heap.size = T + 2 from by rw [eT]; simp] at this; rw [hW1]; exact this
 have HJ0 : Hid (JC w0 w sp T ready [] W1) := ⟨Below.on hB hbel, grown_of_below hbel _, by omega, k1, k2, none, 0, 0, k0, rfl, World.ownsRow_nil _ _ _ _⟩
 have HS1 : Hid (W1.heap[sp]? = some (.cells #[.iface t0 x0] 196)) := (hbel.block _ hspl).trans hS
 have HTW : Hid (w0.heap.size ≤ T ∧ sp < T ∧ T = w.heap.size) := ⟨by have := hB.size; omega, by omega, eT⟩
 have HSP : Hid (w0.heap.size ≤ sp) := hsp; have HRND : Hid _ := hround; rw [← eT]
 show CallsIn _ _ _ _ #[.pointer (some ⟨sp, 0, none⟩), .func (.yield (T + 2)) #[] #[]] W1 _
 clear hround hbel hW1s k0 k1 k2 hW1 hS hB hsp hspl eT; refine (items_in (T + 2) sp Bt 5 w0 c k (fun W => lenB W T) (JC w0 w sp T ready) hok hl (by decide) (fun vs W W' h g => h.grown HSP.out HTW.out.2.1 HTW.out.2.2 g) (fun vs W h => ⟨h.low, by obtain ⟨p, n, c', hb, hn, _⟩ := h.box; rw [lenB_at (cell_of_row _ _ 0 _ _ _ hb)]; exact hn⟩) HSP.out ?round W1 t0 x0 hfo HS1.out HJ0.out).mono ?post
 case round =>
  intro vs t x W rv hj hlen hsw
  refine HRND.out #[.iface t x] W _ rfl hj.rec' ?_; rw [← HTW.out.2.2]; obtain ⟨p, n, cc, hb, hn, ho⟩ := hj.box
  obtain ⟨V, eV⟩ : ∃ V, V = W.putObj (T + 2) busy := ⟨_, rfl⟩
  have hVs : V.heap.size = W.heap.size := by rw [eV]; simp
  have htop := hj.top
  have hVb : V.heap[T]? = some (.cells #[.slice p n cc] 83) := by rw [eV]; exact (World.putObj_heap_other (by omega)).trans hb
  have hVo : V.ownsRow (T + 3) 58 1 (.slice p n cc) n vs := by
   rw [eV]; refine ho.kept (grownBy_putObj' _ _ _) ?_
   cases hob : Value.ownBlock (.slice p n cc) with
   | none => exact .inl rfl
   | some g => exact .inr (fun e => by have := (ho.lt g hob).1; cases e; omega)
  have HVO : Hid (V.ownsRow (T + 3) 58 1 (.slice p n cc) n vs) := hVo; have q0 : V.cell? ⟨T, 0, none⟩ = some (.slice p n cc) := cell_of_row _ _ 0 _ _ _ hVb
  have hTV : T + 3 ≤ V.heap.size := by omega
  have hnl : n ≤ 10000 := by omega
  obtain ⟨i0, hi, hz0, hz1, hz2⟩ := info_parts infoTerm
  have HNX : Hid (∀ g7 cap w7, w7.ownsRow (T + 3) 58 1 (.slice (some ⟨g7, 0, none⟩) (n + 1) cap) (n + 1) (vs ++ [.iface t x]) → (V.alloc (.cells #[.iface t x] 58)).grownBy w7 (Value.ownBlock (.slice p n cc)) →
    w7.heap[T]? = some (.cells #[.slice p n cc] 83) ∧ (w7.setCell ⟨T, 0, none⟩ (.slice (some ⟨g7, 0, none⟩) (n + 1) cap)).heap[T + 2]? = some busy ∧ JC w0 w sp T ready (vs ++ [.iface t x]) ((w7.setCell ⟨T, 0, none⟩ (.slice (some ⟨g7, 0, none⟩) (n + 1) cap)).putObj (T + 2) ready) ∧ ((w7.setCell ⟨T, 0, none⟩ (.slice (some ⟨g7, 0, none⟩) (n + 1) cap)).putObj (T + 2) ready).heap[sp]? = W.heap[sp]?) := fun g7 cap w7 h1 h2 => by
   refine ⟨?_, hj.next HTW.out.1 HTW.out.2.1 HTW.out.2.2 hb hn ho (by rw [eV]) h1 h2 rfl⟩; exact (h2.block T (by simp; omega) (fun e => by have := (ho.lt T e.symm).1; omega)).trans ((Below.heap_alloc _ _ _ (by omega)).trans hVb)
  have HRC : Hid (W.heap[T + 2]? = some ready) := hj.rec'; have HV : Hid (V = W.putObj (T + 2) busy) := eV; clear hj hb hn ho hVb hVo eV hsw hlen HRND HJ0 HS1 hVs htop
  gi_wp2_with fail
  refine ⟨HRC.out, ?_⟩; rw [← HV.out]; clear HV HRC; refine wpIn_block ?_; refine wpIn_region_round (by simp [noDefer]) ?_; go_wp2_with (refine wpList_append_lies _ rfl _ _ 83 rfl (T + 3) 58 i0 .nilIface 1 16 Tryz.underlying83 hi hz0 hz1 hz2 rfl (by decide) (.slice p n cc) n vs rfl (World.ownsRow.alloc (w := V) HVO.out _) ⟨V.heap.size, 0, none⟩ 1 1 [.iface t x] rfl rfl (cell_one_new V _ _) (one_iface t x) (by decide) (by unfold maxLen; omega) (by omega) (by simp; omega) _ rfl ?_; intro g7 cap7 w7 hown7 hgrow7 hat7 hlt7; have HF7 : Hid _ := HNX.out g7 cap7 w7 hown7 hgrow7; have c7 : w7.cell? ⟨T, 0, none⟩ = some (.slice p n cc) := cell_of_row _ _ 0 _ _ _ HF7.out.1; have f7 : w7.frozen? ⟨T, 0, none⟩ = false := frozen_of_row _ _ 0 _ _ HF7.out.1; clear hown7 hgrow7 hat7 hlt7); exact HF7.out.2
 case post =>
  rintro e W' ⟨⟨v, rfl⟩, vs, v2, hj, hsp2, hfo1, hfo2, hok1⟩; refine ⟨hj.rec', ?_⟩; obtain ⟨p, n, cc, hb, hn, ho⟩ := hj.box; have htop := hj.top
  obtain ⟨V, eV⟩ : ∃ V, V = W'.putObj (T + 2) done := ⟨_, rfl⟩
  have hk : ∀ k, k ≠ T + 2 → V.heap[k]? = W'.heap[k]? := fun k h => by rw [eV]; exact World.putObj_heap_other h
  rw [← eV]; have v0 : V.cell? ⟨T, 0, none⟩ = some (.slice p n cc) := cell_of_row _ _ 0 _ _ _ ((hk T (by omega)).trans hb); have hmk : V.heap[T + 1]? = some (.deferred (some [])) := (hk _ (by omega)).trans hj.mark
  have hcnt : n = (splitF c k).1.length := by
   have := FoIn.count _ _ hfo1; rw [hn, this, itsF_count]
  have hT := HTW.out
  have HFIN : Hid (ColOut w0 Bt sp w c k (.returned (.slice p n cc)) (V.putObj (T + 1) (.deferred none))) := by
   have own : ∀ g, Value.ownBlock (.slice p n cc) = some g → T + 3 ≤ g := fun g e => (ho.lt g e).1
   have hY : ∀ j, j ≠ T + 1 → j ≠ T + 2 → (V.putObj (T + 1) (.deferred none)).heap[j]? = W'.heap[j]? := fun j h1 h2 => (World.putObj_heap_other h1).trans (hk j h2)
   refine ⟨p, n, cc, vs, v2, rfl, hcnt, ?_, hfo1, hfo2, (hY sp (by omega) (by omega)).trans hsp2, hok1, ?_⟩
   ·rw [eV]
    refine World.ownsRow.mono ((ho.kept (grownBy_putObj' _ _ _) ?_).kept (grownBy_putObj' _ _ _) ?_) (by omega)
    ·cases hob : Value.ownBlock (.slice p n cc) with
     | none => exact .inl rfl
     | some g => exact .inr (fun e => by have := own g hob; cases e; omega)
    ·cases hob : Value.ownBlock (.slice p n cc) with
     | none => exact .inl rfl
     | some g => exact .inr (fun e => by have := own g hob; cases e; omega)
   ·exact ⟨by rw [eV]; exact hj.gr.os, by rw [eV]; exact hj.gr.tape, by rw [eV]; exact hj.gr.output, by rw [eV]; simpa using hj.gr.size, fun j h1 h2 => (hY j (by omega) (by omega)).trans (hj.gr.block j h1 h2)⟩
  clear hj hb hn ho hfo1 hfo2 hok1 hsp2 hk eV HRND HJ0 HS1 hcnt hT htop
  gi_wp2_with fail
  refine ⟨by simp, .inl ⟨_, _, rfl, run_takeDeferred hmk, ?_⟩⟩; exact ⟨.slice p n cc, by simp [results, Tryz.f256, go_sem], HFIN.out⟩
end
section
open Go Go.RowKit
set_option maxHeartbeats 1000000 in
theorem collectT_any (sp Bt : Nat) (w0 w : World) (c : Cel) (k : Fo) (hok : (Fo.node c k .nil).ok) (hl : k.cells.length ≤ 10000) (t0 : TypeId) (x0 : Value) (hfo : FoIn w0 Bt (.node c k .nil) [.iface t0 x0]) (hB : Below w0.heap.size w0 w) (hsp : w0.heap.size ≤ sp)
  (hS : w.heap[sp]? = some (.cells #[.iface t0 x0] 196)) :
  Calls Tryz.prog 204 #[.func (.func 147) #[.pointer (some ⟨sp, 0, none⟩)] #[]] w (ColOut w0 Bt sp w c k) := by
 have HA := appendSeq_any sp Bt w0 w c k hok hl t0 x0 hfo hB hsp hS; clear hok hl hfo hB hsp hS
 go_enter Tryz.func204, Tryz.ntmps204
 go_wp2_with fail; refine HA.mono ?_; rintro e w1 ⟨p, n, cp, vs, v2, rfl, h⟩; have H : Hid _ := h; clear h HA; go_wp2_with fail; go_ret; exact ⟨p, n, cp, vs, v2, rfl, H.out⟩
def LsOut (w0 : World) (Bt : Nat) (w : World) (its : List (Cel × Fo)) (e : Ending) (w' : World) : Prop :=
 ∃ p n cp vs, e = .returned (.tuple #[.slice p n cp, .nilIface]) ∧ n = its.length ∧ w'.ownsRow w.heap.size 58 1 (.slice p n cp) n vs ∧ FoIn w0 Bt (itsF its) vs ∧ (itsF its).ok ∧ Below w.heap.size w w'
set_option maxHeartbeats 2000000 in
theorem listArg_any (Bt : Nat) (w : World) (c : Cel) (k : Fo) (v : Value) (hok : (Fo.node c k .nil).ok) (hl : k.cells.length ≤ 10000) (hfo : FoIn w Bt (.node c k .nil) [v]) (hend : (splitF c k).2.1 = nilC) :
  Calls Tryz.prog 135 #[v] w (LsOut w Bt w (splitF c k).1) := by
 obtain ⟨t0, x0, rfl⟩ := hfo.iface
 obtain ⟨w1, e1⟩ : ∃ w1, w1 = w.alloc (.cells #[.iface t0 x0] 196) := ⟨_, rfl⟩
 have hb1 : Below w.heap.size w w1 := by rw [e1]; exact (Below.refl _ _).alloc (Nat.le_refl _) _
 have k1 : w1.heap[w.heap.size]? = some (.cells #[.iface t0 x0] 196) := by rw [e1]; exact heap_alloc_new _ _
 have HC := collectT_any w.heap.size Bt w w1 c k hok hl t0 x0 hfo hb1 (Nat.le_refl _) k1; have HB1 : Hid (Below w.heap.size w w1) := hb1; have HEND : Hid ((splitF c k).2.1 = nilC) := hend; have n1 := noVar_atom; have n2 := isAtom; clear hok hl hfo hb1 k1 hend
 go_enter Tryz.func135, Tryz.ntmps135
 go_wp2_with fail; rw [← e1]; clear e1; refine HC.mono ?_; rintro e w2 ⟨p, n, cp, vs, v2, rfl, hn, ho, hfo1, hfo2, hs2, hok1, hg⟩; rw [HEND.out] at hfo2; obtain ⟨u, vr, e, hnode, _⟩ := hfo2; obtain ⟨rfl, rfl⟩ := List.cons.inj e
 have hv : v2 = .iface 94 (.string ⟨#[91, 93]⟩) := by
  rcases hnode with ⟨h, _⟩ | ⟨h, _⟩ | ⟨_, h⟩ | ⟨h, _⟩
  ·cases h
  ·cases h
  ·exact h
  ·cases h
 subst hv
 have HFIN : Hid (LsOut w Bt w (splitF c k).1 (.returned (.tuple #[.slice p n cp, .nilIface])) w2) := by
  refine ⟨p, n, cp, vs, rfl, hn, ho.mono HB1.out.size, hfo1, hok1, HB1.out.grown hg HB1.out.size (fun j hj => by cases hj; exact Nat.le_refl _)⟩
 have q0 : w2.cell? ⟨w.heap.size, 0, none⟩ = some (.iface 94 (.string ⟨#[91, 93]⟩)) := cell_of_row _ _ 0 _ _ _ hs2; clear hn ho hfo1 hs2 hok1 hg e hnode HC; go_wp2_with fail
 go_ret2
 exact HFIN.out
end
end Go.Proofs.YtdmmchoicngblaaGreatDoor
