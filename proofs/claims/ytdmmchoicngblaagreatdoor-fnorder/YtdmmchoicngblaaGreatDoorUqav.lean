/- Texts of OrW2, OrX, OrB, OrC, OrG, OrY, OrZ3, OrZ6. Own work of the verifier. -/
import Derived.Test.YtdmmchoicngblaaGreatDoorUqat
import Derived.Test.YtdmmchoicngblaaGreatDoorUqau
namespace Go.Proofs.YtdmmchoicngblaaGreatDoor
set_option linter.unusedVariables false
set_option linter.unusedSimpArgs false
set_option maxRecDepth 100000
section
open Go Go.RowKit Go.Maps
set_option maxHeartbeats 4000000 in
theorem inOrder_any (its : List (Cel × Fo)) (vs : List Value) (p : Option Addr) (n cp Bt : Nat) (w : World) (hn : n = its.length) (h0 : 0 < n) (h12 : n ≤ 12) (ha : ArgIn w p vs) (hfo : FoIn w Bt (itsF its) vs) (hok : (itsF its).ok) (hl : (itsF its).cells.length ≤ 3900) :
  Calls Tryz.prog 162 #[.slice p n cp] w (InOut w its) := by
 have hvl : vs.length = n := by rw [FoIn.count _ _ hfo, itsF_count, hn]
 obtain ⟨g0, rfl, _⟩ := ha 0 (by omega)
 obtain ⟨w1, e1⟩ : ∃ w1, w1 = w.alloc (.cells #[.string ⟨#[]⟩, .slice (some ⟨g0, 0, none⟩) n cp] 141) := ⟨_, rfl⟩
 have hb1 : Below w.heap.size w w1 := by rw [e1]; exact (Below.refl _ _).alloc (Nat.le_refl _) _
 have k1 : w1.heap[w.heap.size]? = some (.cells #[.string ⟨#[]⟩, .slice (some ⟨g0, 0, none⟩) n cp] 141) := by rw [e1]; exact heap_alloc_new _ _
 obtain ⟨c0, ec⟩ : ∃ c0 : Cel, c0 = (3, (n : Int), []) := ⟨_, rfl⟩
 have HC0 : Hid (c0.1 = 3) := by show _ = _; rw [ec]
 have hokT : (Fo.node c0 (itsF its) .nil).ok := by
  rw [ec]; exact ⟨by simp [cellB]; omega, fun x hx => by simp at hx, fun _ => by rw [itsF_count, hn], fun h => absurd rfl h, hok, trivial⟩
 have hfc : FoC w1 (.node c0 (itsF its) .nil) [.iface 139 (.pointer (some ⟨w.heap.size, 0, none⟩))] := by
  rw [ec]; refine ⟨_, [], rfl, .inr (.inr (.inr ⟨rfl, w.heap.size, g0, cp, vs, rfl, trivial, trivial, cell_of_row _ _ 0 _ _ _ k1, by rw [hvl]; exact cell_of_row _ _ 1 _ _ _ k1, ?_, fun i hi => ?_, FoC.of _ _ (hfo.below hb1)⟩)), rfl⟩
  ·obtain ⟨g', e, hc⟩ := ha 0 (by omega)
   obtain rfl : g0 = g' := by simpa using e
   have := World.block_lt_of_cell? _ _ hc; exact Nat.lt_of_lt_of_le this hb1.size
  ·obtain ⟨g', e, hc⟩ := ha i hi
   obtain rfl : g0 = g' := by simpa using e
   exact (hb1.cell (World.block_lt_of_cell? _ _ hc)).trans hc
 obtain ⟨L, eL⟩ : ∃ L, L = visits [] (itsF its).cells := ⟨_, rfl⟩
 have hvi : visits [] (c0 :: (itsF its).cells) = L := by rw [visits_cons, eL, ec]; rfl
 have hLl : L.length ≤ 3900 := by
  have := visits_len (itsF its).cells []; rw [eL]; simp at this; omega
 have HV := variablesC_any c0 (itsF its) _ w1 hokT hfc (by omega); rw [hvi] at HV
 have HRN : Hid (∀ W, Below w1.heap.size w1 W → Calls Tryz.prog 201 #[.iface 139 (.pointer (some ⟨w.heap.size, 0, none⟩))] W fun e w' => ∃ b g us, e = .returned (.iface 139 (.pointer (some ⟨b, 0, none⟩))) ∧ w'.cell? ⟨b, 1, none⟩ = some (.slice (some ⟨g, 0, none⟩) n n) ∧ us.length = n ∧ W.heap.size ≤ g ∧ g < w'.heap.size ∧
   (∀ i, i < us.length → w'.cell? ⟨g, i, none⟩ = some (us.getD i .nilIface) ∧ w'.frozen? ⟨g, i, none⟩ = false) ∧ FoIn w' (g + 1) (itsF (its.map (mpT (renI L)))) us ∧ Below W.heap.size W w') := fun W hW => by
  refine (renumberT_any c0 (itsF its) _ W HC0.out hokT (hfc.below hW) (by omega)).mono ?_; rintro e w' ⟨b, g, us, rfl, q1, q2, q3, q4, q5, q6⟩; rw [hvi, itsF_map] at q5
  have hul : us.length = n := by rw [FoIn.count _ _ q5, itsF_count, List.length_map, hn]
  rw [hul] at q1; exact ⟨b, g, us, rfl, q1, hul, q2, q3, q4, q5, q6⟩
 obtain ⟨its1, ei1⟩ : ∃ its1, its1 = its.map (mpT (renI L)) := ⟨_, rfl⟩
 have hfm : itsF its1 = (itsF its).map (renI L) := by rw [ei1, itsF_map]
 have hok1 : (itsF its1).ok := by rw [hfm]; exact Fo.ok_ren (by omega) _ hok
 have hl1 : (itsF its1).cells.length ≤ 3900 := by rw [hfm, Fo.cells_map, List.length_map]; exact hl
 have hn1 : n = its1.length := by rw [ei1, List.length_map, hn]
 rw [← ei1] at HRN
 have HST : Hid (∀ (W : World) (g : Nat) (us : List Value), us.length = n → (∀ i, i < us.length → W.cell? ⟨g, i, none⟩ = some (us.getD i .nilIface) ∧ W.frozen? ⟨g, i, none⟩ = false) → FoIn W (g + 1) (itsF its1) us → g < W.heap.size → Calls Tryz.prog 25 #[.slice (some ⟨g, 0, none⟩) n n] W fun e w' => ∃ b, e = .returned (.func (.func 47) #[.map (some b)] #[]) ∧ Below W.heap.size W w' ∧
   Calls Tryz.prog 223 #[.slice (some ⟨g, 0, none⟩) n n, .func (.func 47) #[.map (some b)] #[]] w' (SortOut w' g its1)) := fun W g us hul hrow hf hg => by
  refine (standardN_any (itsF its1) us (some ⟨g, 0, none⟩) n n (g + 1) W W hok1 hf (fun j hj => ⟨g, rfl, (hrow j hj).1⟩) hul.symm (Below.refl _ _) (by omega)).mono ?_; rintro e w' ⟨b, N, ks, rk, rfl, hb, hfm, hrk, hns, hbel⟩; refine ⟨b, rfl, hbel, sortT_any its1 us g n n b N ks rk w' hn1 h0 h12 (fun i hi => ?_) (hf.below hbel) hok1 hns (by omega) hfm hrk (by omega) (Nat.lt_of_lt_of_le hg hbel.size)⟩; exact ⟨(hbel.cell (p := ⟨g, i, none⟩) hg).trans (hrow i hi).1, (World.frozen?_of_block (a := ⟨g, i, none⟩) (hbel.block g hg)).trans (hrow i hi).2⟩
 have hmem : ∀ x ∈ its, (mpT (lkI L) (mpT (renI L) x)) = x := fun x hx => by
  have hm : ∀ c ∈ x.1 :: x.2.cells, c.1 = 0 → c.2.1 ∈ L := fun c hc h3 => by rw [eL]; exact visits_memW _ _ c (itsF_at_cells its x hx c hc) h3
  simp only [mpT]; rw [lk_ren (hm x.1 (by simp)), lk_ren_fo x.2 fun c hc => hm c (by simp [hc])]
 have HVAR : Hid (∀ x ∈ its1, ∀ c ∈ x.1 :: x.2.cells, c.1 = 0 → c.2.1 < L.length) := fun x hx c hc h3 => by
  rw [ei1] at hx; obtain ⟨y, hy, rfl⟩ := List.mem_map.1 hx
  have hc' : c ∈ (y.1 :: y.2.cells).map (renI L) := by
   simp only [mpT, Fo.cells_map] at hc
   simpa using hc
  obtain ⟨d, hd, rfl⟩ := List.mem_map.1 hc'; rw [renI_kind] at h3
  have : d.2.1 ∈ L := by rw [eL]; exact visits_memW _ _ d (itsF_at_cells its y hy d hd) h3
  rw [renI, if_pos h3]; have := List.idxOf_lt_length_iff.2 this
  show ((L.idxOf d.2.1 : Nat) : Int) < _
  omega
 have HFINP : Hid (∀ its2 : List (Cel × Fo), its2.Perm its1 → its2.Pairwise (fun x y => cmpC (itC x) (itC y) ≤ 0) → (its2.map (mpT (lkI L))).Perm its ∧ (its2.map (mpT (lkI L))).Pairwise (fun x y => cmpC ((itC x).map (renI (visits [] (itsF its).cells))) ((itC y).map (renI (visits [] (itsF its).cells))) ≤ 0)) := fun its2 hp hs => by
  refine ⟨?_, ?_⟩
  ·have := hp.map (mpT (lkI L))
   rw [ei1, List.map_map] at this; refine this.trans ?_; rw [List.map_congr_left (f := mpT (lkI L) ∘ mpT (renI L)) (g := id) (fun x hx => hmem x hx), List.map_id]
  ·rw [List.pairwise_map]
   have back : ∀ x ∈ its2, (itC (mpT (lkI L) x)).map (renI (visits [] (itsF its).cells)) = itC x := fun x hx => by
    have hx1 := hp.subset hx; rw [ei1] at hx1; obtain ⟨y, hy, rfl⟩ := List.mem_map.1 hx1; rw [hmem y hy, ← eL]
    simp [itC, mpT, Fo.cells_map]
   exact hs.imp_of_mem fun {x y} hx hy h => by rw [back x hx, back y hy]; exact h
 have HLL : Hid (L.length ≤ 1000000 ∧ n = its1.length ∧ its1.length = its.length ∧ (itsF its1).cells.length ≤ 3900) := ⟨by omega, hn1, by omega, hl1⟩
 have HB1 : Hid (Below w.heap.size w w1) := hb1; clear hb1 k1 ec hokT hfc hvi hLl hfm hok1 hl1 hmem ei1 eL hok hl hfo ha hvl hn hn1
 go_enter Tryz.func162, Tryz.ntmps162
 go_wp2_with fail; rw [← e1]; clear e1; refine HV.mono ?_; rintro e w2 ⟨p2, n2, c2, rfl, ho2, hb2⟩
 obtain ⟨w3, e3⟩ : ∃ w3, w3 = w2.alloc (.cells #[.slice p2 n2 c2] 179) := ⟨_, rfl⟩
 have hb3 : Below w2.heap.size w2 w3 := by rw [e3]; exact (Below.refl _ _).alloc (Nat.le_refl _) _
 have k3 : w3.heap[w2.heap.size]? = some (.cells #[.slice p2 n2 c2] 179) := by rw [e3]; exact heap_alloc_new _ _
 have HVS : Hid (VS w3 w2.heap.size L) := by
  refine ⟨p2, c2, by rw [← ho2.1]; exact cell_of_row _ _ 0 _ _ _ k3, fun hp => ?_⟩; obtain ⟨b, o, e, hc⟩ := ho2.iin hp; exact ⟨b, o, e, fun i hi => (hb3.cell (World.block_lt_of_cell? _ _ (hc i hi))).trans (hc i hi)⟩
 have HB3 : Hid (Below w1.heap.size w1 w3) := Below.on hb2 hb3; have HRW := HRN.out w3 HB3.out; clear ho2 hb2 hb3 k3 HV; go_wp2_with fail; rw [← e3]; clear e3; refine HRW.mono ?_; rintro e w4 ⟨b, g, us, rfl, q1, hul, hg3, hg4, hrow, hf4, hb4⟩; have HAR := argsComp_any b g n w4 q1; have HSW := HST.out w4 g us hul hrow hf4 hg4; have HB4 : Hid (Below w3.heap.size w3 w4) := hb4; clear q1 hrow hf4 hb4 HRW HRN HST; go_wp2_with fail; refine HAR.mono ?_; rintro e w5 ⟨rfl, rfl⟩; clear HAR; go_wp2_with fail; refine HSW.mono ?_; rintro e w6 ⟨bm, rfl, hb6, HSO⟩; have HB6 : Hid (Below w3.heap.size w3 w6) := Below.on HB4.out hb6; have hg6 : g < w6.heap.size := Nat.lt_of_lt_of_le hg4 hb6.size; clear hb6 HSW; go_wp2_with fail; refine HSO.mono ?_; rintro e w7 ⟨rfl, its2, us2, hp, hs, hu2, hrow2, hf7, hok7, hg7⟩
 have hlen2 : its2.length = n := by rw [hp.length_eq]; exact HLL.out.2.1.symm
 have HB7 : Hid (Below w3.heap.size w3 w7) := HB6.out.grown hg7 HB6.out.size (fun k hk => by cases hk; exact hg3)
 have HI0 : Hid (IO w3 g L its2 0 [] its2 [] us2 w7) := ⟨rfl, rfl, rfl, HB7.out, Nat.lt_of_lt_of_le hg6 hg7.size, fun i hi => hrow2 i (by have := HLL.out.2.1; omega), rfl, hf7⟩
 have HOK7 : Hid (itsF its2).ok := hok7; have HP2 : Hid (its2.Perm its1) := hp; have HF2 : Hid _ := HFINP.out its2 hp hs
 have HG3 : Hid (w3.heap.size ≤ g ∧ its2.length = n) := ⟨hg3, hlen2⟩
 have hcl2 : Hid (∀ x ∈ its2, x.2.cells.length ≤ 3900) := fun x hx => by
  have h1 : ∀ (l : List (Cel × Fo)), x ∈ l → x.2.cells.length ≤ (itsF l).cells.length := fun l => by
   induction l with
   | nil => intro h; simp at h
   | cons y r ih =>
     intro h
     simp only [itsF, Fo.cells, List.length_cons, List.length_append]
     rcases List.mem_cons.1 h with rfl | h
     ·omega
     ·have := ih h; omega
  have := h1 its1 (hp.subset hx); have := HLL.out.2.2.2
  omega
 clear hp hs hu2 hrow2 hf7 hok7 hg7 hg6 HSO HFINP hul hlen2 hg3 hg4; go_wp2_with fail
 go_loopw [24] (fun i wr => ∃ (D R : List (Cel × Fo)) (ns vr : List Value) (j : Nat), j ≤ n ∧ i = .int .i64 j ∧ Hid (IO w3 g L its2 j D R ns vr wr)) (fun i _ => n - (intOf i).toNat)
 case atStart => exact ⟨[], its2, [], us2, 0, Nat.zero_le _, rfl, HI0⟩
 case round =>
  obtain ⟨D, R, ns, vr, j, hj, rfl, HI⟩ := hrel
  by_cases hlt : j < n
  ·obtain ⟨x, R, rfl⟩ : ∃ x R', R = x :: R' := by
    cases R with
    | nil =>
      have h1 := HI.out.its; have h2 := HI.out.len; have h3 := HG3.out.2; rw [h1] at h3
      simp at h3; omega
    | cons x R' => exact ⟨x, R', rfl⟩
   obtain ⟨v, vr, rfl, hnode, hrest⟩ := HI.out.rest
   have hx : x ∈ its2 := by rw [HI.out.its]; simp
   have hrw := HI.out.row j (by have := HG3.out.2; omega)
   have hat : wr.cell? ⟨g, j, none⟩ = some v := by
    rw [hrw.1, List.getD, List.getElem?_append_right (by rw [HI.out.nsl]; exact Nat.le_refl _), HI.out.nsl, Nat.sub_self]; rfl
   have hfr := hrw.2
   have hokx : (Fo.node x.1 x.2 .nil).ok := by
    obtain ⟨i, hi, rfl⟩ := List.mem_iff_getElem.1 hx; exact itsF_ok_at its2 HOK7.out i hi
   have HRV := replaceV_any x.2.cells.length x.1 x.2 v (g + 1) w2.heap.size L wr wr (Nat.le_refl _) hokx ⟨v, [], rfl, hnode, rfl⟩ (Below.refl _ _) (HVS.out.below HI.out.low) (HVAR.out x (HP2.out.subset hx)) HLL.out.1 (by have := hcl2.out x hx; omega); have HIJ : Hid _ := HI.out; have hgw := HI.out.gl; obtain ⟨t1, x1, rfl⟩ := hnode.iface; clear hnode hrest hrw hokx hx; go_wp2_with fail; refine HRV.mono ?_; rintro e w8 ⟨v8, rfl, hb8, hf8⟩; obtain ⟨t8, x8, rfl⟩ := hf8.iface
   have HN : Hid _ := HIJ.out.next HG3.out.1 hb8 hf8
   have c8 : w8.cell? ⟨g, j, none⟩ = some (.iface t1 x1) := (hb8.cell (p := ⟨g, j, none⟩) hgw).trans hat; have f8 : w8.frozen? ⟨g, j, none⟩ = false := (World.frozen?_of_block (a := ⟨g, j, none⟩) (hb8.block g hgw)).trans hfr; clear hb8 hf8 HRV hat hfr; go_wp2_with fail; go_roundw
   case rel => exact ⟨D ++ [x], R, ns ++ [.iface t8 x8], vr, j + 1, by omega, by go_num, HN⟩
   case measure => simp [intOf]; omega
  ·obtain rfl : j = n := by omega
   have hR : R = [] := by
    have h1 := HI.out.its; have h2 := HI.out.len; have h3 := HG3.out.2; rw [h1] at h3
    cases R with
    | nil => rfl
    | cons x R' => simp at h3; omega
   subst hR; have hvr : vr = [] := HI.out.rest
   have hD : its2 = D := by have := HI.out.its; simpa using this
   have HFIN : Hid (InOut w its (.returned (.slice (some ⟨g, 0, none⟩) j j)) wr) := by
    have hjn : j = its.length := by have := HLL.out; omega
    have h1 := HF2.out; rw [hD] at h1; have hlow := HI.out.low; have hb3w : Below w.heap.size w w3 := Below.on HB1.out HB3.out; refine ⟨g, D.map (mpT (lkI L)), ns, by rw [hjn], Nat.le_trans hb3w.size HG3.out.1, h1.1, h1.2, by rw [HI.out.nsl, hjn], fun i hi => ?_, HI.out.don, HI.out.gl, Below.on hb3w hlow⟩; have := HI.out.row i (by have := HG3.out.2; omega); rw [hvr, List.append_nil] at this; exact this
   clear hvr hD; go_wp2_with fail; go_ret; exact HFIN.out
end
section
open Go Go.RowKit
def zOf (u : Value) : Nat × Value := match u with
 | .iface t x => (t, x)
 | _ => (0, .nilIface)
theorem listOfU_any (its : List (Cel × Fo)) (us : List Value) (b n cap B : Nat) (w : World) (hn : n = its.length) (h0 : 0 < n) (hl : n ≤ 2000) (hu : us.length = n) (hB : B ≤ w.heap.size) (hc : ∀ i, i < n → w.cell? ⟨b, i, none⟩ = some (us.getD i .nilIface)) (hfo : FoIn w B (itsF its) us) :
  Calls Tryz.prog 37 #[.slice (some ⟨b, 0, none⟩) n cap, .iface 94 (.string ⟨#[91, 93]⟩)] w fun e w' => ∃ t x, e = .returned (.iface t x) ∧ FoIn w' B (listT its) [.iface t x] ∧ Below w.heap.size w w' := by
 subst hn
 have at_ : ∀ j, j < its.length → ∃ t x, us.getD j .nilIface = .iface t x ∧ ((us.map zOf)[j]?.getD (0, .nilIface)) = (t, x) ∧ ∀ h : j < its.length, FoIn w B (.node its[j].1 its[j].2 .nil) [.iface t x] := fun j hj => by
  obtain ⟨t, x, h1, h2⟩ := hfo.at_ its us j hj; exact ⟨t, x, by simp [List.getD, h1], by simp [h1, zOf], fun _ => h2⟩
 refine (listOf_any its (us.map zOf) b cap B w hl (World.block_lt_of_cell? _ _ (hc 0 h0)) hB (fun j hj => ?_) (fun j hj => ?_)).mono ?_
 ·obtain ⟨t, x, e1, e2, _⟩ := at_ j hj
  rw [hc j hj, e1, e2]
 ·obtain ⟨t, x, e1, e2, e3⟩ := at_ j hj
  rw [e2]; exact e3 hj
 ·rintro e w' ⟨v, rfl, hf, hb⟩
  obtain ⟨c, k, ek⟩ := listT_node its; rw [ek] at hf ⊢; obtain ⟨t, x, rfl⟩ := hf.iface; exact ⟨t, x, rfl, hf, hb⟩
def MsO (w : World) (v1 : Value) (its : List (Cel × Fo)) (e : Ending) (w' : World) : Prop :=
 ∃ its' g t x, its'.Perm its ∧ its'.Pairwise (fun a b => cmpC ((itC a).map (renI (visits [] (itsF its).cells))) ((itC b).map (renI (visits [] (itsF its).cells))) ≤ 0) ∧
   e = .returned (.tuple #[.agg #[.slice (some ⟨g, 0, none⟩) 1 1, .nilIface, .slice none 0 0], .nilIface]) ∧ w.heap.size ≤ g ∧ w'.cell? ⟨g, 0, none⟩ = some v1 ∧ w'.cell? ⟨g, 1, none⟩ = some (.iface t x) ∧ FoIn w' w.heap.size (listT its') [.iface t x] ∧ Below w.heap.size w w'
set_option maxHeartbeats 4000000 in
theorem msortB_any (c : Cel) (k : Fo) (ta : TypeId) (va v0 : Value) (Bt g cap on oc : Nat) (op : Option Addr) (fr : Int) (w : World) (hok : (Fo.node c k .nil).ok) (hfo : FoIn w Bt (.node c k .nil) [v0]) (hl : k.cells.length ≤ 3900) (hend : (splitF c k).2.1 = nilC) (hn0 : 0 < (splitF c k).1.length) (hn12 : (splitF c k).1.length ≤ 12) (hsl : (itsF (splitF c k).1).cells.length ≤ 3900) (h2 : Two w g v0 (.iface ta va)) :
  Calls Tryz.prog 93 #[calV op on oc g cap fr] w (MsO w (.iface ta va) (splitF c k).1) := by
 obtain ⟨vt, vx, rfl⟩ := hfo.iface
 obtain ⟨w1, e1⟩ : ∃ w1, w1 = w.alloc (Obj.cells #[.slice op on oc, .slice (some ⟨g, 0, none⟩) 2 cap, .int .i64 fr] 85) := ⟨_, rfl⟩
 obtain ⟨w2, e2⟩ : ∃ w2, w2 = w1.alloc (Obj.cells #[Value.slice none 0 0, Value.nilIface, Value.slice none 0 0] 88) := ⟨_, rfl⟩
 have hb1 : Below w.heap.size w w1 := by rw [e1]; exact (Below.refl _ _).alloc (Nat.le_refl _) _
 have hb2 : Below w1.heap.size w1 w2 := by rw [e2]; exact (Below.refl _ _).alloc (Nat.le_refl _) _
 have hb : Below w.heap.size w w2 := Below.on hb1 hb2
 have hs1 : w1.heap.size = w.heap.size + 1 := by rw [e1]; simp
 have hq : w2.cell? ⟨w.heap.size, 1, none⟩ = some (.slice (some ⟨g, 0, none⟩) 2 cap) := by
  rw [hb2.cell (p := ⟨w.heap.size, 1, none⟩) (by show w.heap.size < _; omega), e1, World.cell?, heap_alloc_new]; rfl
 have HR : Hid (∀ W, Below w2.heap.size w2 W → W.heap[w.heap.size + 1]? = some (Obj.cells #[Value.slice none 0 0, Value.nilIface, Value.slice none 0 0] 88)) := fun W hW => by
  rw [hW.block _ (by rw [e2]; simp; omega), e2, ← hs1, heap_alloc_new]
 have t2 := h2.below hb; have p0 := t2.at0; have HLA := listArg_any Bt w2 c k (.iface vt vx) hok (by omega) (FoIn.below hfo hb) hend
 have KS : Hid (∀ W, Below w2.heap.size w2 W → W.cell? ⟨w.heap.size, 1, none⟩ = some (.slice (some ⟨g, 0, none⟩) 2 cap) ∧ W.cell? ⟨g, 1, none⟩ = some (.iface ta va)) := fun W hW => ⟨(hW.cell (World.block_lt_of_cell? _ _ hq)).trans hq, (t2.below hW).at1⟩
 have HB : Hid (Below w.heap.size w w2) := hb; have HGL : Hid (g < w.heap.size) := World.block_lt_of_cell? _ _ h2.at0
 have HS : Hid (w2.heap.size = w.heap.size + 2) := by show _ = _; rw [e2]; simp; omega
 obtain ⟨its, ei⟩ : ∃ its, its = (splitF c k).1 := ⟨_, rfl⟩
 rw [← ei] at HLA hn0 hn12 hsl ⊢
 have HN : Hid (0 < its.length ∧ its.length ≤ 12 ∧ (itsF its).cells.length ≤ 3900) := ⟨hn0, hn12, hsl⟩
 have tok0 : True := trivial; have tok1 : True := trivial; have tok2 : True := trivial; rw [e1] at e2; clear e1 hb1 hb2 hb hs1 t2 hok hfo h2 hl hend hn0 hn12 hsl ei
 go_enter Tryz.func93, Tryz.ntmps93
 have p0' := p0; have hq' := hq; rw [e2] at p0' hq'; go_wp2_with fail; rw [← e2]; clear p0' hq' e2 p0 hq; refine HLA.mono ?_; rintro e w3 ⟨p3, n3, c3, vs, rfl, hn3, ho3, hf3, hok3, hb3⟩; have HB3 : Hid (Below w2.heap.size w2 w3) := hb3; have hd : Below w3.heap.size w3 (w3.drewN 1) := below_drewN (Below.refl _ _) 1; have HD : Hid (Below w2.heap.size w2 (w3.drewN 1)) := Below.on hb3 hd
 have HIN : Hid (Calls Tryz.prog 162 #[.slice p3 n3 c3] (w3.drewN 1) (InOut (w3.drewN 1) its)) := by
  have hvl : vs.length = n3 := by rw [FoIn.count _ _ hf3, itsF_count, hn3]
  refine inOrder_any its vs p3 n3 c3 Bt (w3.drewN 1) hn3 (by rw [hn3]; exact HN.out.1) (by rw [hn3]; exact HN.out.2.1) (fun j hj => ?_) (hf3.below (Below.on hb3 hd)) hok3 HN.out.2.2; obtain ⟨g3, cap3, hv, _, _⟩ := ho3.form (by rw [hn3]; exact HN.out.1); simp only [Value.slice.injEq, true_and] at hv; obtain ⟨rfl, rfl⟩ := hv; refine ⟨g3, rfl, ?_⟩; have := ho3.cellAt j (by omega); rw [show (w3.drewN 1).cell? ⟨g3, j, none⟩ = w3.cell? ⟨g3, j, none⟩ from rfl, this]
  simp [List.getD, hj]
 obtain ⟨q1, q0⟩ := KS.out w3 hb3
 have hS : w3.cell? ⟨w.heap.size, 1, none⟩ = some (.slice (some ⟨g, 0, none⟩) 2 cap) ∧ w3.cell? ⟨g, 1, none⟩ = some (.iface ta va) := ⟨q1, q0⟩
 clear hn3 ho3 hf3 hok3 hb3 hd HLA q1 q0; go_wp2_with fail
 go_region_held3 (fun W => W.cell? ⟨w.heap.size, 1, none⟩ = some (.slice (some ⟨g, 0, none⟩) 2 cap) ∧ W.cell? ⟨g, 1, none⟩ = some (.iface ta va)) (first | exact kk4 | exact kk3 | exact kk2 | exact kk | exact hS | go_keep)
  (first
    | (have _t := tok0; go_at_call 162; refine Calls.mono HIN.out ?_; rintro e w4 ⟨g4, its4, us4, rfl, hg4, hp4, hs4, hu4, hr4, hf4, hgl4, hb4⟩; have HB4 : Hid (Below w2.heap.size w2 w4) := Below.on HD.out hb4; have kk := KS.out w4 HB4.out; have HLO := listOfU_any its4 us4 g4 its.length its.length w2.heap.size w4 hp4.length_eq.symm HN.out.1 (by have := HN.out.2.1; omega) hu4 HB4.out.size (fun i hi => (hr4 i hi).1) (hf4.mono (by have := HD.out.size; omega)); have HPS : Hid _ := And.intro hp4 hs4; clear hg4 hp4 hs4 hu4 hr4 hf4 hgl4 hb4 tok0)
    | (have _t := tok1; go_at_call 37; refine Calls.mono HLO ?_; rintro e w5 ⟨t5, x5, rfl, hf5, hb5⟩; have HB5 : Hid (Below w2.heap.size w2 w5) := Below.on HB4.out hb5; have kk2 := KS.out w5 HB5.out; have HF5 : Hid _ := hf5; have HU := unifying_ok ta t5 va x5 w5; clear hf5 hb5 tok1)
    | (have _t := tok2; go_at_call 130; refine Calls.mono HU ?_; rintro e w6 ⟨g6, rfl, hg6, c0, c1, hb6⟩; have HB6 : Hid (Below w2.heap.size w2 w6) := Below.on HB5.out hb6; have kk3 := KS.out w6 HB6.out; have kk4 : (wr3 w6 (w.heap.size + 1) (.slice (some ⟨g6, 0, none⟩) 1 1) .nilIface (.slice none 0 0)).cell? ⟨w.heap.size, 1, none⟩ = some (.slice (some ⟨g, 0, none⟩) 2 cap) ∧ (wr3 w6 (w.heap.size + 1) (.slice (some ⟨g6, 0, none⟩) 1 1) .nilIface (.slice none 0 0)).cell? ⟨g, 1, none⟩ = some (.iface ta va) := ⟨(wr3_ne (by show w.heap.size ≠ _; omega)).trans kk3.1, (wr3_ne (by have := HGL.out; show g ≠ _; omega)).trans kk3.2⟩; have HC6 : Hid _ := And.intro hg6 (And.intro c0 (And.intro c1 hb6)); obtain ⟨b0, b1, b2, b3⟩ := Box3.of_block (HR.out w6 HB6.out); clear hg6 c0 c1 hb6 tok2))
 rename_i hheld
 clear hheld; have HX := Box3.of_block (HR.out w6 HB6.out); have HP : Hid _ := wr3_box HX (.slice (some ⟨g6, 0, none⟩) 1 1) .nilIface (.slice none 0 0)
 have FIN : Hid (MsO w (.iface ta va) its (.returned (.tuple #[.agg #[.slice (some ⟨g6, 0, none⟩) 1 1, .nilIface, .slice none 0 0], .nilIface])) (wr3 w6 (w.heap.size + 1) (.slice (some ⟨g6, 0, none⟩) 1 1) .nilIface (.slice none 0 0))) := by
  have hs5 := HB5.out.size; have hS2 := HS.out; have hg6 := HC6.out.1; refine ⟨its4, g6, t5, x5, HPS.out.1, HPS.out.2, rfl, by omega, (wr3_ne (by show g6 ≠ _; omega)).trans HC6.out.2.1, (wr3_ne (by show g6 ≠ _; omega)).trans HC6.out.2.2.1, ?_, wr3_below (Below.on HB.out HB6.out) (Nat.le_succ _)⟩; exact FoIn.imp (by omega) (fun b o hb hl => (wr3_ne (by show b ≠ _; omega)).trans (HC6.out.2.2.2.cell (p := ⟨b, o, none⟩) hl)) (by simpa [wr3] using HC6.out.2.2.2.size) _ _ HF5.out
 clear kk kk2 kk3 kk4 hS HX
 go_wp2
 obtain ⟨d0, d1, d2, _⟩ := HP.out; exact bodyPost_ret (v := .tuple #[.agg #[.slice (some ⟨g6, 0, none⟩) 1 1, .nilIface, .slice none 0 0], .nilIface]) (by simp [results, Tryz.results93, go_sem, d0, d1, d2]) rfl FIN.out
end
section
open Go Go.RowKit Go.Maps
theorem pair_out {w : World} {B : Nat} {c a a' : Cel} {k k' : Fo} {v : Value} (h0 : c.1 = 3) (h : FoIn w B (.node c (.node a k (.node a' k' .nil)) .nil) [v]) :
  ∃ b g t x t' x', v = .iface 139 (.pointer (some ⟨b, 0, none⟩)) ∧ w.cell? ⟨b, 1, none⟩ = some (.slice (some ⟨g, 0, none⟩) 2 2) ∧ w.cell? ⟨g, 0, none⟩ = some (.iface t x) ∧ w.cell? ⟨g, 1, none⟩ = some (.iface t' x') ∧
    FoIn w B (.node a k .nil) [.iface t x] ∧ FoIn w B (.node a' k' .nil) [.iface t' x'] := by
 obtain ⟨v', vr, e, hn, _⟩ := h; obtain ⟨rfl, rfl⟩ := List.cons.inj e
 rcases hn with ⟨h1, _⟩ | ⟨h1, _⟩ | ⟨h1, _⟩ | ⟨_, b, g, vs, rfl, _, _, _, c1, _, cg, u, vr, rfl, hn1, u', vr', rfl, hn2, hr⟩
 ·rw [h0] at h1; cases h1
 ·rw [h0] at h1; cases h1
 ·rw [h0] at h1; cases h1
 ·obtain rfl : vr' = [] := hr
  obtain ⟨t, x, rfl⟩ := hn1.iface; obtain ⟨t', x', rfl⟩ := hn2.iface; exact ⟨b, g, t, x, t', x', rfl, c1, cg 0 (by simp), cg 1 (by simp), ⟨_, [], rfl, hn1, rfl⟩, ⟨_, [], rfl, hn2, rfl⟩⟩
def ordC (xs ys : List Cel) : Int := cmpC (xs.map (renI (visits [] (xs ++ ys)))) (ys.map (renI (visits [] (xs ++ ys))))
set_option maxHeartbeats 4000000 in
theorem orderOf_any (c : Cel) (k : Fo) (v : Value) (c' : Cel) (k' : Fo) (v' : Value) (Bt : Nat) (w : World) (hok : (Fo.node c k .nil).ok) (hok' : (Fo.node c' k' .nil).ok) (hfo : FoIn w Bt (.node c k .nil) [v]) (hfo' : FoIn w Bt (.node c' k' .nil) [v']) (hl : k.cells.length + k'.cells.length ≤ 3900) :
  Calls Tryz.prog 133 #[v, v'] w fun e w' => e = .returned (.int .i64 (ordC (c :: k.cells) (c' :: k'.cells))) ∧ Below w.heap.size w w' := by
 obtain ⟨t1, x1, rfl⟩ := hfo.iface; obtain ⟨t2, x2, rfl⟩ := hfo'.iface
 obtain ⟨w1, e1⟩ : ∃ w1, w1 = w.alloc (.cells #[.iface t1 x1, .iface t2 x2] 58) := ⟨_, rfl⟩
 obtain ⟨w2, e2⟩ : ∃ w2, w2 = w1.alloc (.cells #[.string ⟨#[]⟩, .slice (some ⟨w.heap.size, 0, none⟩) 2 2] 141) := ⟨_, rfl⟩
 have hs1 : w1.heap.size = w.heap.size + 1 := by rw [e1]; simp
 have hb1 : Below w.heap.size w w1 := by rw [e1]; exact (Below.refl _ _).alloc (Nat.le_refl _) _
 have hb2 : Below w1.heap.size w1 w2 := by rw [e2]; exact (Below.refl _ _).alloc (Nat.le_refl _) _
 have hB2 : Below w.heap.size w w2 := Below.on hb1 hb2; have g1 : w2.heap[w.heap.size]? = some (.cells #[.iface t1 x1, .iface t2 x2] 58) := (hb2.block _ (by omega)).trans (by rw [e1]; exact heap_alloc_new _ _)
 have g2 : w2.heap[w.heap.size + 1]? = some (.cells #[.string ⟨#[]⟩, .slice (some ⟨w.heap.size, 0, none⟩) 2 2] 141) := by rw [e2, ← hs1]; exact heap_alloc_new _ _
 obtain ⟨F2, eF⟩ : ∃ F2, F2 = Fo.node c k (.node c' k' .nil) := ⟨_, rfl⟩
 have hcells : F2.cells = (c :: k.cells) ++ (c' :: k'.cells) := by rw [eF]; simp [Fo.cells]
 have hokF : (Fo.node (3, 2, []) F2 .nil).ok := by
  subst eF; refine ⟨by decide, fun x hx => by simp at hx, fun _ => rfl, fun h => absurd rfl h, ⟨hok.1, hok.2.1, hok.2.2.1, hok.2.2.2.1, hok.2.2.2.2.1, hok'.1, hok'.2.1, hok'.2.2.1, hok'.2.2.2.1, hok'.2.2.2.2.1, trivial⟩, trivial⟩
 have hF2 : FoIn w2 0 (.node (3, 2, []) F2 .nil) [.iface 139 (.pointer (some ⟨w.heap.size + 1, 0, none⟩))] := by
  subst eF; refine comp_in (g := w.heap.size) (vs := [.iface t1 x1, .iface t2 x2]) (Nat.zero_le _) (Nat.zero_le _) (cell_of_row _ _ 0 _ _ _ g2) (cell_of_row _ _ 1 _ _ _ g2) (Array.getElem?_eq_some_iff.1 g1).1 (fun i hi => ?_) ?_
  ·rcases (by simp at hi; omega : i = 0 ∨ i = 1) with rfl | rfl
   ·exact cell_of_row _ _ 0 _ _ _ g1
   ·exact cell_of_row _ _ 1 _ _ _ g1
  ·obtain ⟨_, _, e, hn, hr⟩ := (hfo.below hB2).mono (Nat.zero_le _)
   cases e
   exact ⟨_, _, rfl, hn, (hfo'.below hB2).mono (Nat.zero_le _)⟩
 have HRN := renumber_any (3, 2, []) F2 _ 0 w2 hokF hF2 (by rw [hcells]; simp; omega)
 have hvi : visits [] ((3, 2, []) :: F2.cells) = visits [] ((c :: k.cells) ++ (c' :: k'.cells)) := by rw [visits_cons, hcells]; rfl
 rw [hvi] at HRN
 obtain ⟨L, eL⟩ : ∃ L, L = visits [] ((c :: k.cells) ++ (c' :: k'.cells)) := ⟨_, rfl⟩
 have hLl : L.length ≤ 1000000 := by
  have := visits_len ((c :: k.cells) ++ (c' :: k'.cells)) []; rw [eL]; simp at this ⊢; omega
 rw [← eL] at HRN
 have HANS : Hid (ordC (c :: k.cells) (c' :: k'.cells) = cmpC (renI L c :: (k.map (renI L)).cells) (renI L c' :: (k'.map (renI L)).cells)) := by
  show _ = _
  rw [ordC, ← eL, Fo.cells_map, Fo.cells_map, List.map_cons, List.map_cons]
 have HSTD : Hid (∀ (g B : Nat) (u u' : Value) (W : World), FoIn W B (.node (renI L c) (k.map (renI L)) .nil) [u] → FoIn W B (.node (renI L c') (k'.map (renI L)) .nil) [u'] → W.cell? ⟨g, 0, none⟩ = some u → W.cell? ⟨g, 1, none⟩ = some u' →
   Calls Tryz.prog 25 #[.slice (some ⟨g, 0, none⟩) 2 2] W fun e w' => ∃ b, e = .returned (.func (.func 47) #[.map (some b)] #[]) ∧ Below W.heap.size W w' ∧
    Calls Tryz.prog 47 #[.map (some b), u, u'] w' fun e w'' => e = .returned (.int .i64 (ordC (c :: k.cells) (c' :: k'.cells))) ∧ Below w'.heap.size w' w'') := fun g B u u' W hu hu' h0 h1 => by
  have ok1 := Fo.ok_ren hLl _ hok; have ok2 := Fo.ok_ren hLl _ hok'
  have l1 : (k.map (renI L)).cells.length = k.cells.length := by rw [Fo.cells_map]; simp
  have l2 : (k'.map (renI L)).cells.length = k'.cells.length := by rw [Fo.cells_map]; simp
  have ha : ArgIn W (some ⟨g, 0, none⟩) [u, u'] := fun j hj => ⟨g, rfl, by
   rcases (by simp at hj; omega : j = 0 ∨ j = 1) with rfl | rfl
   ·exact h0
   ·exact h1⟩
  have hff : FoIn W B (.node (renI L c) (k.map (renI L)) (.node (renI L c') (k'.map (renI L)) .nil)) [u, u'] := by
   obtain ⟨_, _, e, hn, hr⟩ := hu
   cases e
   exact ⟨_, _, rfl, hn, hu'⟩
  refine (standardN_any (.node (renI L c) (k.map (renI L)) (.node (renI L c') (k'.map (renI L)) .nil)) [u, u'] _ 2 2 B W W ⟨ok1.1, ok1.2.1, ok1.2.2.1, ok1.2.2.2.1, ok1.2.2.2.2.1, ok2⟩ hff ha rfl (Below.refl _ _) (by simp only [Fo.cells, List.length_cons, List.length_append, List.length_nil, l1, l2]; omega)).mono ?_; rintro e w' ⟨b, N, ks, rk, rfl, hb, hfm, hrk, hns, hbel⟩
  have n1 : NamesIn ks (renI L c :: (k.map (renI L)).cells) := hns.sub fun x hx => by
   simp only [Fo.cells, List.mem_cons, List.mem_append] at hx ⊢; rcases hx with h | h <;> simp [h]
  have n2 : NamesIn ks (renI L c' :: (k'.map (renI L)).cells) := hns.sub fun x hx => by
   simp only [Fo.cells, List.mem_cons, List.mem_append] at hx ⊢; rcases hx with h | h <;> simp [h]
  refine ⟨b, rfl, hbel, ?_⟩; have HC := compareG_any W B b N ks rk 5000 (by omega) _ _ u _ _ u' w' (by rw [l1]; omega) ok1 ok2 hu hu' n1 n2 ⟨fun hp => (hbel.cell (World.block_lt_of_cell? _ _ hp)).trans hp, hbel.size⟩ hfm; rw [compare_cells hrk _ _ _ _ ok1 ok2 n1 n2, ← HANS.out] at HC
  exact HC.mono fun e w'' ⟨h1, h2⟩ => ⟨h1, h2.bel⟩
 have HW2 : Hid (Below w.heap.size w w2) := hB2; have tok0 : True := trivial; have tok1 : True := trivial; rw [e1] at e2; subst eF; clear hs1 hb1 hb2 hB2 g1 g2 e1 hcells hokF hF2 hvi eL hLl hfo hfo' hok hok' hl HANS
 generalize ordC (c :: k.cells) (c' :: k'.cells) = R at *
 go_enter Tryz.func133, Tryz.ntmps133
 go_wp2_with fail; rw [← e2]; clear e2; refine HRN.mono ?_; rintro e w3 ⟨v3, rfl, hfo3, hb3⟩; rw [show renI L (3, 2, []) = (3, 2, []) from rfl] at hfo3; obtain ⟨b3, g3, ta, xa, tb, xb, rfl, h1, h2, h3, hu, hu'⟩ := pair_out rfl hfo3; have HB3 : Hid (Below w.heap.size w (w3.drewN 1)) := below_drewN (Below.on HW2.out hb3) 1; have HAR := argsComp_any b3 g3 2 w3 h1; have hd : Below w3.heap.size w3 (w3.drewN 1) := below_drewN (Below.refl _ _) 1; have HST := HSTD.out g3 _ _ _ (w3.drewN 1) (hu.below hd) (hu'.below hd) h2 h3; clear hd; have G2 : Hid _ := h2; have G3 : Hid _ := h3; clear hfo3 hb3 HRN h1 hu hu'; go_wp2_with fail; refine HAR.mono ?_; rintro e w4 ⟨rfl, rfl⟩; clear HAR; go_wp2_with fail
 have hS : w4.cell? ⟨g3, 0, none⟩ = some (.iface ta xa) ∧ w4.cell? ⟨g3, 1, none⟩ = some (.iface tb xb) := ⟨h2, h3⟩
 go_region_held3 (fun W => W.cell? ⟨g3, 0, none⟩ = some (.iface ta xa) ∧ W.cell? ⟨g3, 1, none⟩ = some (.iface tb xb)) (first | exact kk2 | exact kk | exact hS | go_keep)
  (first
    | (have _t := tok0; go_at_call 25; refine Calls.mono HST ?_; rintro e w5 ⟨bm, rfl, hb5, HCM⟩; have kk : w5.cell? ⟨g3, 0, none⟩ = some (.iface ta xa) ∧ w5.cell? ⟨g3, 1, none⟩ = some (.iface tb xb) := ⟨(hb5.cell (World.block_lt_of_cell? _ _ h2)).trans h2, (hb5.cell (World.block_lt_of_cell? _ _ h3)).trans h3⟩; have HB5 : Hid (Below w.heap.size w w5) := Below.on HB3.out hb5; clear hb5 tok0)
    | (have _t := tok1; go_at_call 47; refine Calls.mono HCM ?_; rintro e w6 ⟨rfl, hb6⟩; have kk2 : w6.cell? ⟨g3, 0, none⟩ = some (.iface ta xa) ∧ w6.cell? ⟨g3, 1, none⟩ = some (.iface tb xb) := ⟨(hb6.cell (World.block_lt_of_cell? _ _ kk.1)).trans kk.1, (hb6.cell (World.block_lt_of_cell? _ _ kk.2)).trans kk.2⟩; have HB6 : Hid (Below w.heap.size w w6) := Below.on HB5.out hb6; clear hb6 tok1))
 rename_i hheld
 clear hheld; go_wp2_with fail; go_ret; exact ⟨rfl, HB6.out⟩
end
section
open Go Go.RowKit
def sgnN (r : Int) : List Int := if r < 0 then [60] else if 0 < r then [62] else [61]
structure Thr (w : World) (g : Nat) (v0 v1 v2 : Value) : Prop where
 at0 : w.cell? ⟨g, 0, none⟩ = some v0
 at1 : w.cell? ⟨g, 1, none⟩ = some v1
 at2 : w.cell? ⟨g, 2, none⟩ = some v2
theorem Thr.below {w w' : World} {g : Nat} {v0 v1 v2 : Value} (h : Thr w g v0 v1 v2) (hb : Below w.heap.size w w') : Thr w' g v0 v1 v2 :=
 ⟨(hb.cell (World.block_lt_of_cell? _ _ h.at0)).trans h.at0, (hb.cell (World.block_lt_of_cell? _ _ h.at1)).trans h.at1, (hb.cell (World.block_lt_of_cell? _ _ h.at2)).trans h.at2⟩
abbrev calV3 (op : Option Addr) (on oc : Nat) (g cap : Nat) (fr : Int) : Value := .agg #[.slice op on oc, .slice (some ⟨g, 0, none⟩) 3 cap, .int .i64 fr]
set_option maxHeartbeats 4000000 in
theorem compareB_any (c : Cel) (k : Fo) (c' : Cel) (k' : Fo) (ta : TypeId) (va v1 v2 : Value) (Bt g cap on oc : Nat) (op : Option Addr) (fr : Int) (w : World) (hok : (Fo.node c k .nil).ok) (hok' : (Fo.node c' k' .nil).ok) (hfo : FoIn w Bt (.node c k .nil) [v1]) (hfo' : FoIn w Bt (.node c' k' .nil) [v2])
  (hl : k.cells.length + k'.cells.length ≤ 3900) (h2 : Thr w g (.iface ta va) v1 v2) :
  Calls Tryz.prog 66 #[calV3 op on oc g cap fr] w (PairE w (.iface ta va) (.iface 94 (.string (strOfNums (sgnN (ordC (c :: k.cells) (c' :: k'.cells))))))) := by
 obtain ⟨vt, vx, rfl⟩ := hfo.iface; obtain ⟨vt', vx', rfl⟩ := hfo'.iface
 obtain ⟨w1, e1⟩ : ∃ w1, w1 = w.alloc (Obj.cells #[.slice op on oc, .slice (some ⟨g, 0, none⟩) 3 cap, .int .i64 fr] 85) := ⟨_, rfl⟩
 obtain ⟨w2, e2⟩ : ∃ w2, w2 = w1.alloc (Obj.cells #[Value.slice none 0 0, Value.nilIface, Value.slice none 0 0] 88) := ⟨_, rfl⟩
 have hb1 : Below w.heap.size w w1 := by rw [e1]; exact (Below.refl _ _).alloc (Nat.le_refl _) _
 have hb2 : Below w1.heap.size w1 w2 := by rw [e2]; exact (Below.refl _ _).alloc (Nat.le_refl _) _
 have hb : Below w.heap.size w w2 := Below.on hb1 hb2
 have hs1 : w1.heap.size = w.heap.size + 1 := by rw [e1]; simp
 have hq : w2.cell? ⟨w.heap.size, 1, none⟩ = some (.slice (some ⟨g, 0, none⟩) 3 cap) := by
  rw [hb2.cell (p := ⟨w.heap.size, 1, none⟩) (by show w.heap.size < _; omega), e1, World.cell?, heap_alloc_new]; rfl
 have HR : Hid (∀ W, Below w2.heap.size w2 W → W.heap[w.heap.size + 1]? = some (Obj.cells #[Value.slice none 0 0, Value.nilIface, Value.slice none 0 0] 88)) := fun W hW => by
  rw [hW.block _ (by rw [e2]; simp; omega), e2, ← hs1, heap_alloc_new]
 have t2 := h2.below hb; have p1 := t2.at1; have p2 := t2.at2; have hd : Below w2.heap.size w2 (w2.drewN 1) := below_drewN (Below.refl _ _) 1
 have HOR : Hid (∀ W, Below w2.heap.size w2 W → Calls Tryz.prog 133 #[.iface vt vx, .iface vt' vx'] W fun e w' => e = .returned (.int .i64 (ordC (c :: k.cells) (c' :: k'.cells))) ∧ Below W.heap.size W w') := fun W hW =>
  orderOf_any c k _ c' k' _ Bt W hok hok' ((FoIn.below hfo hb).below hW) ((FoIn.below hfo' hb).below hW) hl
 have HQ : Hid (∀ W, Below w2.heap.size w2 W → W.cell? ⟨w.heap.size, 1, none⟩ = some (.slice (some ⟨g, 0, none⟩) 3 cap) ∧ W.cell? ⟨g, 0, none⟩ = some (.iface ta va)) := fun W hW => ⟨(hW.cell (World.block_lt_of_cell? _ _ hq)).trans hq, (t2.below hW).at0⟩
 have HB : Hid (Below w.heap.size w w2) := hb
 have HS : Hid (w2.heap.size = w.heap.size + 2) := by show _ = _; rw [e2]; simp; omega
 have HD : Hid (Below w2.heap.size w2 (w2.drewN 1)) := hd
 have hS : w2.cell? ⟨w.heap.size, 1, none⟩ = some (.slice (some ⟨g, 0, none⟩) 3 cap) ∧ w2.cell? ⟨g, 1, none⟩ = some (.iface vt vx) ∧ w2.cell? ⟨g, 2, none⟩ = some (.iface vt' vx') := ⟨hq, p1, p2⟩
 have KS : Hid (∀ W, Below w2.heap.size w2 W → W.cell? ⟨w.heap.size, 1, none⟩ = some (.slice (some ⟨g, 0, none⟩) 3 cap) ∧ W.cell? ⟨g, 1, none⟩ = some (.iface vt vx) ∧ W.cell? ⟨g, 2, none⟩ = some (.iface vt' vx')) := fun W hW => ⟨(hW.cell (World.block_lt_of_cell? _ _ hq)).trans hq, (t2.below hW).at1, (t2.below hW).at2⟩
 generalize ordC (c :: k.cells) (c' :: k'.cells) = R at *
 have tok0 : True := trivial; rw [e1] at e2; clear e1 hb1 hb2 hb hs1 t2 hok hok' hfo hfo' h2 hl hd hq p1 p2
 go_enter Tryz.func66, Tryz.ntmps66
 go_wp2_with fail; rw [← e2]; clear e2
 go_region_held3 (fun W => W.cell? ⟨w.heap.size, 1, none⟩ = some (.slice (some ⟨g, 0, none⟩) 3 cap) ∧ W.cell? ⟨g, 1, none⟩ = some (.iface vt vx) ∧ W.cell? ⟨g, 2, none⟩ = some (.iface vt' vx')) (first | exact kk | exact hS | go_keep)
  (first
    | (have _t := tok0; go_at_call 133; refine Calls.mono (HOR.out (w2.drewN 1) HD.out) ?_; rintro e w3 ⟨rfl, hb3⟩; have HB3 : Hid (Below w2.heap.size w2 w3) := Below.on HD.out hb3; have kk := KS.out w3 HB3.out; clear hb3 tok0))
 rename_i hheld
 clear hheld; obtain ⟨q1, q0⟩ := HQ.out w3 HB3.out; clear kk hS HOR
 have tail : ∀ (s : List Int), Calls Tryz.prog 130 #[.iface ta va, .iface 94 (.string (strOfNums s)), .nilIface] w3 (PairE w3 (.iface ta va) (.iface 94 (.string (strOfNums s)))) := fun s => unifying_ok ta 94 va _ w3
 have fin : ∀ (s : List Int) (e : Ending) (w4 : World), PairE w3 (.iface ta va) (.iface 94 (.string (strOfNums s))) e w4 → ∃ g4, e = .returned (.tuple #[.agg #[.slice (some ⟨g4, 0, none⟩) 1 1, .nilIface, .slice none 0 0], .nilIface]) ∧ Box3 w4 (w.heap.size + 1) (.slice none 0 0) .nilIface (.slice none 0 0) ∧
   Box3 (wr3 w4 (w.heap.size + 1) (.slice (some ⟨g4, 0, none⟩) 1 1) .nilIface (.slice none 0 0)) (w.heap.size + 1) (.slice (some ⟨g4, 0, none⟩) 1 1) .nilIface (.slice none 0 0) ∧
   PairE w (.iface ta va) (.iface 94 (.string (strOfNums s))) (.returned (.tuple #[.agg #[.slice (some ⟨g4, 0, none⟩) 1 1, .nilIface, .slice none 0 0], .nilIface])) (wr3 w4 (w.heap.size + 1) (.slice (some ⟨g4, 0, none⟩) 1 1) .nilIface (.slice none 0 0)) := by
  rintro s e w4 ⟨g4, rfl, hg4, c0, c1, hb4⟩; have hB4 := Below.on HB3.out hb4; have HX := Box3.of_block (HR.out w4 hB4); have hs3 := HB3.out.size; have hS := HS.out; exact ⟨g4, rfl, HX, wr3_box HX _ _ _, g4, rfl, by omega, (wr3_ne (by show g4 ≠ _; omega)).trans c0, (wr3_ne (by show g4 ≠ _; omega)).trans c1, wr3_below (Below.on HB.out hB4) (Nat.le_succ _)⟩
 have HF : Hid _ := fin; have HT : Hid _ := tail; clear fin tail
 by_cases h1 : R < 0
 rotate_right
 case' _ =>
  by_cases h2 : 0 < R
  rotate_right
  case' _ =>
   have hsg : sgnN R = [61] := by rw [sgnN, if_neg h1, if_neg h2]
   have HU := HT.out [61]; have HFI := HF.out [61]; have es : strOfNums [61] = ⟨#[61]⟩ := rfl
  rotate_right
  case' _ =>
   have hsg : sgnN R = [62] := by rw [sgnN, if_neg h1, if_pos h2]
   have HU := HT.out [62]; have HFI := HF.out [62]; have es : strOfNums [62] = ⟨#[62]⟩ := rfl
 rotate_right
 case' _ =>
  have hsg : sgnN R = [60] := if_pos h1; have HU := HT.out [60]; have HFI := HF.out [60]; have es : strOfNums [60] = ⟨#[60]⟩ := rfl
 all_goals
  rw [es] at HU HFI; go_wp2_with fail; refine HU.mono ?_
  intro e w4 h4
  obtain ⟨g4, rfl, HX, HP0, FIN0⟩ := HFI e w4 h4; have HP : Hid _ := HP0; have FIN : Hid _ := FIN0; obtain ⟨b0, b1, b2, b3⟩ := HX; clear h4 HU HFI HP0 FIN0
  go_wp2
  obtain ⟨d0, d1, d2, _⟩ := HP.out; exact bodyPost_ret (v := .tuple #[.agg #[.slice (some ⟨g4, 0, none⟩) 1 1, .nilIface, .slice none 0 0], .nilIface]) (by simp [results, Tryz.results66, go_sem, d0, d1, d2]) rfl (by rw [hsg, es]; exact FIN.out)
def nCmp : List Int := [99, 111, 109, 112, 97, 114, 101]
def vrT (n : Int) : Tr := ((0, n, []), .nil)
def atT (s : List Int) : Tr := ((2, 0, s), .nil)
theorem tab_cmp : buTab (strOfNums nCmp, ((3 : Nat) : Int)) = some 66 := buTab_at 11 (by decide)
theorem vrT_small {n : Int} (h0 : 0 ≤ n) (h1 : n ≤ 1000000) : smallT (vrT n) := smallT.of ⟨by simp [vrT, cellB]; omega, fun x hx => by simp [vrT] at hx, fun e => by simp [vrT] at e, fun _ => rfl, trivial, trivial⟩ (by simp [vrT, Fo.cells])
theorem atT_small {s : List Int} (hs : s.length ≤ 100) (hb : Byte s) : smallT (atT s) := smallT.of ⟨by simp [atT, cellB]; omega, hb, fun e => by simp [atT] at e, fun _ => rfl, trivial, trivial⟩ (by simp [atT, Fo.cells])
theorem thr_of {W : World} {p : Option Addr} {A B C : Tr} (h : ArgT W p [A, B, C]) : ∃ g va vb vc, p = some ⟨g, 0, none⟩ ∧ Thr W g va vb vc ∧ FoIn W 0 A.fo [va] ∧ FoIn W 0 B.fo [vb] ∧ FoIn W 0 C.fo [vc] := by
 obtain ⟨g, v, rfl, h1, h2⟩ := h 0 (by simp); obtain ⟨g', u, e, h3, h4⟩ := h 1 (by simp)
 obtain rfl : g = g' := by simpa using e
 obtain ⟨g'', t, e2, h5, h6⟩ := h 2 (by simp)
 obtain rfl : g = g'' := by simpa using e2
 exact ⟨g, v, u, t, rfl, ⟨h1, h3, h5⟩, h2, h4, h6⟩
structure AB3 (w : World) (pn : Option Addr) (s : List Int) (pa : Option Addr) (A B C : Tr) : Prop where
 nm : BIn w pn s
 ar : ArgsB w pa [A, B, C]
 ok : okTs [A, B, C]
def XC (n : Int) (s : List Int) : Value → Value → Value → World → Prop := fun x0 x1 x2 W => ∃ g, x0 = .slice (some ⟨g, 0, none⟩) 1 1 ∧ x1 = .nilIface ∧ x2 = .slice none 0 0 ∧ W.cell? ⟨g, 0, none⟩ = some (.iface 82 (.int .i64 n)) ∧ W.cell? ⟨g, 1, none⟩ = some (.iface 94 (.string (strOfNums s)))
theorem sgnN_len (r : Int) : (sgnN r).length ≤ 100 ∧ Byte (sgnN r) := by
 unfold sgnN
 split
 ·exact ⟨by decide, fun x hx => by simp at hx; omega⟩
 ·split <;> exact ⟨by decide, fun x hx => by simp at hx; omega⟩
set_option maxHeartbeats 1000000 in
theorem bu_cmp {w : World} {a a2 : Addr} {p0 : Option Addr} {n0 c0 : Nat} (H : BuW w a a2 p0 n0 c0) (pn : Option Addr) (cn : Nat) (pa : Option Addr) (ca : Nat) (n fr : Int) (A B : Tr) (hn0 : 0 ≤ n) (hn1 : n ≤ 1000000) (hf0 : 0 ≤ fr) (hf1 : fr ≤ 1000000) (hA : AB3 w pn nCmp pa (vrT n) A B) (hl : A.2.cells.length + B.2.cells.length ≤ 3900) :
  Calls Tryz.prog 13 #[.slice p0 n0 c0, .slice pn 7 cn, .slice pa 3 ca, .int .i64 fr] w (BuOk w 0 [[(0, n, [])]] [[(2, 0, sgnN (ordC A.cs B.cs))]]) := by
 obtain ⟨s, es⟩ : ∃ s, s = sgnN (ordC A.cs B.cs) := ⟨_, rfl⟩
 have hs := sgnN_len (ordC A.cs B.cs); rw [← es] at hs ⊢
 have hvar : ∀ V : World, FoIn V 0 (vrT n).fo [.iface 82 (.int .i64 n)] := fun V => ⟨_, [], rfl, .inl ⟨rfl, rfl⟩, rfl⟩
 have hat : ∀ V : World, FoIn V 0 (atT s).fo [.iface 94 (.string (strOfNums s))] := fun V => atom_in rfl
 refine (builtin_by 66 p0 n0 c0 pn nCmp 7 cn pa 3 ca [vrT n, A, B] fr 0 (XC n s) (YL [[(0, n, [])]] [[(2, 0, s)]]) w rfl (by decide) hA.nm rfl (by decide) hA.ok hA.ar hf0 hf1 tab_cmp H.ops ?_ ?_ ?_ (fun v0 v1 v2 v3 W T a b c d => YL.set v0 v1 v2 v3 W T a b c d)).mono fun e w' h => YL.out h
 ·intro W b p c hW hM hT
  obtain ⟨g, va, vb, vc, rfl, h2, hfa, hfb, hfc⟩ := thr_of hT; obtain rfl := var_of (n := n) hfa; have HW := H.below hW
  refine (run_holds 66 b 92 (strOfNums nCmp) 3 buTab (.slice p0 n0 c0) (.slice (some ⟨g, 0, none⟩) 3 c) (.int .i64 fr) a a2 (fun p n' c V => ∃ g, p = some ⟨g, 0, none⟩ ∧ n' = 1 ∧ c = 1 ∧ V.cell? ⟨g, 0, none⟩ = some (.iface 82 (.int .i64 n)) ∧ V.cell? ⟨g, 1, none⟩ = some (.iface 94 (.string (strOfNums s)))) W hM ⟨by decide, by decide⟩ tab_cmp rfl rfl rfl HW.fl HW.by' (fun p n' c V h => ?_) (fun W => by kernel_rfl) (fun V hV => ?_)).mono fun e w' h => ?_
  ·obtain ⟨g, rfl, rfl, rfl, h0, h1⟩ := h
   exact beyond_pair (vrT n) (atT s) (vrT_small hn0 hn1) (atT_small hs.1 hs.2) g _ _ _ _ V h0 h1 (hvar V) (hat V)
  ·refine (compareB_any A.1 A.2 B.1 B.2 82 (.int .i64 n) vb vc 0 g c n0 c0 p0 fr V (hA.ok 1 (by simp)).1 (hA.ok 2 (by simp)).1 (hfb.below hV) (hfc.below hV) hl (h2.below hV)).mono fun e w' h => ?_
   obtain ⟨g', rfl, hg, k0, k1, hb⟩ := h; rw [show (A.1 :: A.2.cells) = A.cs from rfl, show (B.1 :: B.2.cells) = B.cs from rfl, ← es] at k1; exact ⟨_, 1, 1, rfl, hb, fun U hU => ⟨g', rfl, rfl, rfl, (World.cell?_of_block (a := ⟨g', 0, none⟩) (hU.2 g' hg (World.block_lt_of_cell? _ _ k0))).trans k0, (World.cell?_of_block (a := ⟨g', 1, none⟩) (hU.2 g' hg (World.block_lt_of_cell? _ _ k0))).trans k1⟩⟩
  ·obtain ⟨p, n', c, rfl, hb, g, rfl, rfl, rfl, h0, h1⟩ := h
   exact ⟨_, _, _, rfl, rfl, rfl, rfl, ⟨g, rfl, rfl, rfl, h0, h1⟩, hb⟩
 ·rintro x0 x1 x2 W W' ⟨g, rfl, rfl, rfl, h0, h1⟩ hb
  exact ⟨g, rfl, rfl, rfl, (hb.cell (World.block_lt_of_cell? _ _ h0)).trans h0, (hb.cell (World.block_lt_of_cell? _ _ h1)).trans h1⟩
 ·rintro W x0 x1 x2 hW ⟨g, rfl, rfl, rfl, h0, h1⟩
  refine (inCells_pairs (some ⟨g, 0, none⟩) 1 1 none 0 0 [(vrT n, atT s)] W rfl (by decide) (fun t h => ?_) (fun i hi => ?_)).mono fun e w' h => ?_
  ·obtain rfl : t = (vrT n, atT s) := by simpa using h
   exact ⟨(vrT_small hn0 hn1).1, by simp [vrT, Fo.cells], (atT_small hs.1 hs.2).1, by simp [atT, Fo.cells]⟩
  ·obtain rfl : i = 0 := by simp at hi; exact hi
   exact ⟨g, _, _, rfl, h0, h1, hvar W, hat W⟩
  ·obtain ⟨pl, cl, pr, cr, rfl, h1, h2, hb⟩ := h
   exact ⟨_, _, _, _, rfl, rfl, rfl, rfl, rfl, ⟨_, pl, cl, pr, cr, rfl, rfl, rfl, rfl, h1, h2⟩, hb⟩
def nMs : List Int := [109, 115, 111, 114, 116]
theorem tab_ms : buTab (strOfNums nMs, ((2 : Nat) : Int)) = some 93 := buTab_at 38 (by decide)
def OrdP (its its' : List (Cel × Fo)) : Prop := its'.Perm its ∧ its'.Pairwise (fun a b => cmpC ((itC a).map (renI (visits [] (itsF its).cells))) ((itC b).map (renI (visits [] (itsF its).cells))) ≤ 0)
def XM (n : Int) (its : List (Cel × Fo)) : Value → Value → Value → World → Prop := fun x0 x1 x2 W => ∃ its' g t x, OrdP its its' ∧ x0 = .slice (some ⟨g, 0, none⟩) 1 1 ∧ x1 = .nilIface ∧ x2 = .slice none 0 0 ∧ W.cell? ⟨g, 0, none⟩ = some (.iface 82 (.int .i64 n)) ∧ W.cell? ⟨g, 1, none⟩ = some (.iface t x) ∧ FoIn W 0 (listT its') [.iface t x]
def YM (n : Int) (its : List (Cel × Fo)) : Value → Value → Value → Value → World → Prop := fun v0 v1 v2 v3 W => ∃ its', OrdP its its' ∧ YL [[(0, n, [])]] [(listT its').cells] v0 v1 v2 v3 W
theorem listT_tr {its : List (Cel × Fo)} (hok : ∀ x ∈ its, (Fo.node x.1 x.2 .nil).ok) (hl : (listT its).cells.length ≤ 2000) : ∃ A : Tr, A.fo = listT its ∧ A.cs = (listT its).cells ∧ smallT A := by
 obtain ⟨c, k, ek⟩ := listT_node its; have ho := listT_ok its hok; rw [ek] at ho hl ⊢
 have hc : (Fo.node c k .nil).cells = c :: k.cells := by simp [Fo.cells]
 rw [hc] at hl ⊢; exact ⟨(c, k), rfl, rfl, smallT.of ho (by simpa using hl)⟩
set_option maxHeartbeats 1000000 in
theorem bu_ms {w : World} {a a2 : Addr} {p0 : Option Addr} {n0 c0 : Nat} (H : BuW w a a2 p0 n0 c0) (pn : Option Addr) (cn : Nat) (pa : Option Addr) (ca : Nat) (n fr : Int) (A : Tr) (its : List (Cel × Fo)) (hn0 : 0 ≤ n) (hn1 : n ≤ 1000000) (hf0 : 0 ≤ fr) (hf1 : fr ≤ 1000000) (hA : AB2 w pn nMs pa A (vrT n))
  (hl : A.2.cells.length ≤ 3900) (hsp : splitF A.1 A.2 = (its, (nilC, .nil))) (h0 : 0 < its.length) (h12 : its.length ≤ 12) (hsl : (itsF its).cells.length ≤ 3900) (hoks : ∀ x ∈ its, (Fo.node x.1 x.2 .nil).ok) (hls : ∀ its' : List (Cel × Fo), its'.Perm its → (listT its').cells.length ≤ 2000) :
  Calls Tryz.prog 13 #[.slice p0 n0 c0, .slice pn 5 cn, .slice pa 2 ca, .int .i64 fr] w fun e w' => ∃ its', OrdP its its' ∧ BuOk w 0 [[(0, n, [])]] [(listT its').cells] e w' := by
 have hvar : ∀ V : World, FoIn V 0 (vrT n).fo [.iface 82 (.int .i64 n)] := fun V => ⟨_, [], rfl, .inl ⟨rfl, rfl⟩, rfl⟩
 have htr : ∀ its', OrdP its its' → ∃ B : Tr, B.fo = listT its' ∧ B.cs = (listT its').cells ∧ smallT B := fun its' h => listT_tr (fun x hx => hoks x (h.1.subset hx)) (hls its' h.1)
 refine (builtin_by 93 p0 n0 c0 pn nMs 5 cn pa 2 ca [A, vrT n] fr 0 (XM n its) (YM n its) w rfl (by decide) hA.nm rfl (by decide) hA.ok hA.ar hf0 hf1 tab_ms H.ops ?_ ?_ ?_ (fun v0 v1 v2 v3 W T a b c d ⟨its', h1, h2⟩ hT => ⟨its', h1, YL.set v0 v1 v2 v3 W T a b c d h2 hT⟩)).mono fun e w' ⟨v0, v1, v2, v3, he, ⟨its', h1, h2⟩, hb⟩ => ⟨its', h1, YL.out ⟨v0, v1, v2, v3, he, h2, hb⟩⟩
 ·intro W b p c hW hM hT
  obtain ⟨g, va, vb, rfl, h2, hfa, hfb⟩ := two_ofL hT; obtain rfl := var_of (n := n) hfb; have HW := H.below hW
  refine (run_holds 93 b 92 (strOfNums nMs) 2 buTab (.slice p0 n0 c0) (.slice (some ⟨g, 0, none⟩) 2 c) (.int .i64 fr) a a2 (fun p n' c V => n' = 1 ∧ c = 1 ∧ XM n its (.slice p n' c) .nilIface (.slice none 0 0) V) W hM ⟨by decide, by decide⟩ tab_ms rfl rfl rfl HW.fl HW.by' (fun p n' c V h => ?_) (fun W => by kernel_rfl) (fun V hV => ?_)).mono fun e w' h => ?_
  ·obtain ⟨rfl, rfl, its', g, t, x, ho, hg, _, _, k0, k1, hf⟩ := h
   obtain ⟨B, e1, e2, hs⟩ := htr its' ho; rw [← e1] at hf; simp only [Value.slice.injEq, and_true] at hg; subst hg; exact beyond_pair (vrT n) B (vrT_small hn0 hn1) hs g _ _ _ _ V k0 k1 (hvar V) hf
  ·refine (msortB_any A.1 A.2 82 (.int .i64 n) va 0 g c n0 c0 p0 fr V (hA.ok 0 (by simp)).1 (hfa.below hV) hl (by rw [hsp]) (by rw [hsp]; exact h0) (by rw [hsp]; exact h12) (by rw [hsp]; exact hsl) (h2.below hV)).mono fun e w' h => ?_
   rw [hsp] at h; obtain ⟨its', g', t, x, hp, hs, rfl, hg, k0, k1, hf, hb⟩ := h; refine ⟨_, 1, 1, rfl, hb, fun U hU => ⟨rfl, rfl, its', g', t, x, ⟨hp, hs⟩, rfl, rfl, rfl, (World.cell?_of_block (a := ⟨g', 0, none⟩) (hU.2 g' hg (World.block_lt_of_cell? _ _ k0))).trans k0, (World.cell?_of_block (a := ⟨g', 1, none⟩) (hU.2 g' hg (World.block_lt_of_cell? _ _ k0))).trans k1, ?_⟩⟩; exact FoIn.imp (Nat.zero_le _) (fun b o hb hlt => World.cell?_of_block (a := ⟨b, o, none⟩) (hU.2 b hb hlt)) hU.1 _ _ hf
  ·obtain ⟨p, n', c, rfl, hb, rfl, rfl, hX⟩ := h
   exact ⟨_, _, _, rfl, rfl, rfl, rfl, hX, hb⟩
 ·rintro x0 x1 x2 W W' ⟨its', g, t, x, ho, rfl, rfl, rfl, k0, k1, hf⟩ hb
  exact ⟨its', g, t, x, ho, rfl, rfl, rfl, (hb.cell (World.block_lt_of_cell? _ _ k0)).trans k0, (hb.cell (World.block_lt_of_cell? _ _ k1)).trans k1, hf.below hb⟩
 ·rintro W x0 x1 x2 hW ⟨its', g, t, x, ho, rfl, rfl, rfl, k0, k1, hf⟩
  obtain ⟨B, e1, e2, hs⟩ := htr its' ho; rw [← e1] at hf
  refine (inCells_pairs (some ⟨g, 0, none⟩) 1 1 none 0 0 [(vrT n, B)] W rfl (by decide) (fun t h => ?_) (fun i hi => ?_)).mono fun e w' h => ?_
  ·obtain rfl : t = (vrT n, B) := by simpa using h
   exact ⟨(vrT_small hn0 hn1).1, by simp [vrT, Fo.cells], hs.1, by have := hs.2.1; show B.2.cells.length ≤ 10000; omega⟩
  ·obtain rfl : i = 0 := by simp at hi; exact hi
   exact ⟨g, _, _, rfl, k0, k1, hvar W, hf⟩
  ·obtain ⟨pl, cl, pr, cr, rfl, h1, h2, hb⟩ := h
   have er : rights [(vrT n, B)] = [(listT its').cells] := by rw [← e2]; rfl
   rw [er] at h2; exact ⟨_, _, _, _, rfl, rfl, rfl, rfl, rfl, ⟨its', ho, _, pl, cl, pr, cr, rfl, rfl, rfl, rfl, h1, h2⟩, hb⟩
end
section
open Go
theorem map_id_of {f : Cel → Cel} {l : List Cel} (h : ∀ c ∈ l, f c = c) : l.map f = l := by
 rw [List.map_congr_left (g := id) (fun c hc => h c hc), List.map_id]
theorem ordC_num {xs ys : List Cel} {m : Nat} (h : visits [] (xs ++ ys) = rngI m) : ordC xs ys = cmpC xs ys := by
 have hr := ren_id h; rw [ordC, map_id_of fun c hc => hr c (List.mem_append_left _ hc), map_id_of fun c hc => hr c (List.mem_append_right _ hc)]
theorem OrdP.num {its its' : List (Cel × Fo)} {m : Nat} (h : OrdP its its') (hn : visits [] (itsF its).cells = rngI m) : its'.Perm its ∧ its'.Pairwise (fun a b => cmpC (itC a) (itC b) ≤ 0) := by
 have hr := ren_id hn; refine ⟨h.1, h.2.imp_of_mem fun {a b} ha hb hab => ?_⟩
 have e : ∀ x ∈ its', (itC x).map (renI (visits [] (itsF its).cells)) = itC x := fun x hx =>
  map_id_of fun c hc => hr c (itsF_at_cells its x (h.1.subset hx) c hc)
 rw [e a ha, e b hb] at hab; exact hab
end
section
open Go Go.RowKit
def fI (a b : Cel × Fo) : Bool := eqT (a, b)
theorem foIn_zip {w : World} {B : Nat} : ∀ d : List (Value × (Cel × Fo)), (∀ x ∈ d, FoIn w B (.node x.2.1 x.2.2 .nil) [x.1]) → FoIn w B (itsF (d.map (·.2))) (d.map (·.1))
 | [], _ => rfl
 | x :: d, h => by
   obtain ⟨v, vr, e, hn, _⟩ := h x (List.mem_cons_self ..); obtain ⟨rfl, _⟩ := List.cons.inj e; exact ⟨_, _, rfl, hn, foIn_zip d fun y hy => h y (List.mem_cons_of_mem _ hy)⟩
def CpR (w : World) (blk cap : Nat) (its : List (Cel × Fo)) (e : Ending) (w' : World) : Prop :=
 ∃ us', e = .returned (.slice (some ⟨blk, 0, none⟩) (compB fI its).length cap) ∧ us'.length = (compB fI its).length ∧ (∀ i, i < (compB fI its).length → w'.cell? ⟨blk, i, none⟩ = some (us'.getD i .nilIface)) ∧ FoIn w' (blk + 1) (itsF (compB fI its)) us' ∧ w.grownBy w' (some blk)
theorem compactI_any (its : List (Cel × Fo)) (us : List Value) (blk n cap : Nat) (w : World) (hn : n = its.length) (hu : us.length = n) (h0 : 0 < n) (h12 : n ≤ 12) (hcap : n ≤ cap) (hc2 : cap ≤ 100) (hgl : blk < w.heap.size)
  (hrow : ∀ i, i < n → w.cell? ⟨blk, i, none⟩ = some (us.getD i .nilIface) ∧ w.frozen? ⟨blk, i, none⟩ = false)
  (hfo : FoIn w (blk + 1) (itsF its) us) (hok : ∀ x ∈ its, (Fo.node x.1 x.2 .nil).ok) (hl : ∀ x ∈ its, x.2.cells.length ≤ 3900) :
  Calls Tryz.prog 163 #[.slice (some ⟨blk, 0, none⟩) n cap, .func (.func 164) #[] #[]] w (CpR w blk cap its) := by
 obtain ⟨d, ed⟩ : ∃ d, d = us.zip its := ⟨_, rfl⟩
 have d1 : d.map (·.1) = us := by rw [ed]; exact List.map_fst_zip (by omega)
 have d2 : d.map (·.2) = its := by rw [ed]; exact List.map_snd_zip (by omega)
 have dl : n = d.length := by rw [ed, List.length_zip]; omega
 have at_ : ∀ i (h : i < d.length), d[i].1 = us.getD i .nilIface ∧ d[i].2 ∈ its ∧ FoIn w (blk + 1) (.node d[i].2.1 d[i].2.2 .nil) [d[i].1] := fun i h => by
  have hi : i < its.length := by omega
  obtain ⟨t, x, h1, h2⟩ := hfo.at_ its us i hi
  have e1 : d[i].1 = us.getD i .nilIface := by
   have : (d.map (·.1))[i]? = us[i]? := by rw [d1]
   rw [List.getElem?_map, List.getElem?_eq_getElem h, h1] at this; rw [List.getD, h1]
   simpa using this
  have e2 : d[i].2 = its[i] := by
   have : (d.map (·.2))[i]? = its[i]? := by rw [d2]
   rw [List.getElem?_map, List.getElem?_eq_getElem h, List.getElem?_eq_getElem hi] at this
   simpa using this
  refine ⟨e1, by rw [e2]; exact List.getElem_mem hi, ?_⟩; rw [e1, e2, List.getD, h1]; exact h2
 have hm : ∀ x ∈ d, x.2 ∈ its := fun x hx => by rw [← d2]; exact List.mem_map.2 ⟨x, hx, rfl⟩
 refine (compactB_any d blk n cap w dl h0 h12 hcap hc2 hgl (fun i h => ?_) (fun i h => (at_ i h).2.2) (fun x hx => hok _ (hm x hx)) (fun x hx => hl _ (hm x hx))).mono ?_
 ·rw [(at_ i h).1]
  exact hrow i (by omega)
 ·rintro e w' ⟨rfl, hc, hg⟩
  have hk : (compB fE d).map (·.2) = compB fI its := by rw [compB_map (·.2) fE fI (fun _ _ => rfl), d2]
  have hkl : (compB fE d).length = (compB fI its).length := by rw [← hk, List.length_map]
  have hF : ∀ x ∈ d, FoIn w' (blk + 1) (.node x.2.1 x.2.2 .nil) [x.1] := fun x hx => by
   obtain ⟨i, hi, rfl⟩ := List.mem_iff_getElem.1 hx; exact FoIn.imp (Nat.le_refl _) (fun b o hb hlt => World.cell?_of_block (a := ⟨b, o, none⟩) (hg.block b hlt (fun e => by have := Option.some.inj e; omega))) hg.size _ _ (at_ i hi).2.2
  refine ⟨(compB fE d).map (·.1), by rw [hkl], by rw [List.length_map, hkl], fun i hi => ?_, ?_, hg⟩
  ·rw [hc i (by omega), List.getD, List.getElem?_map, List.getElem?_eq_getElem (by omega)]; rfl
  ·rw [← hk]
   exact foIn_zip _ fun x hx => hF x ((compB_sub fE d).subset hx)
theorem items_small {its : List (Cel × Fo)} {N : Nat} (h : (itsF its).cells.length ≤ N) : ∀ x ∈ its, x.2.cells.length ≤ N := fun x hx => by
 have h1 : ∀ (l : List (Cel × Fo)), x ∈ l → x.2.cells.length ≤ (itsF l).cells.length := fun l => by
  induction l with
  | nil => intro h; simp at h
  | cons y r ih =>
    intro h
    simp only [itsF, Fo.cells, List.length_cons, List.length_append]
    rcases List.mem_cons.1 h with rfl | h
    ·omega
    ·have := ih h; omega
 have := h1 its hx
 omega
theorem items_ok {its : List (Cel × Fo)} (h : (itsF its).ok) : ∀ x ∈ its, (Fo.node x.1 x.2 .nil).ok := fun x hx => by
 obtain ⟨i, hi, rfl⟩ := List.mem_iff_getElem.1 hx; exact itsF_ok_at its h i hi
theorem compB_pos {α : Type} (f : α → α → Bool) : ∀ l : List α, 0 < l.length → 0 < (compB f l).length
 | x :: r, _ => by simp [compB]
def SoO (w : World) (v1 : Value) (its : List (Cel × Fo)) (e : Ending) (w' : World) : Prop :=
 ∃ its' g t x, its'.Perm its ∧ its'.Pairwise (fun a b => cmpC ((itC a).map (renI (visits [] (itsF its).cells))) ((itC b).map (renI (visits [] (itsF its).cells))) ≤ 0) ∧
   e = .returned (.tuple #[.agg #[.slice (some ⟨g, 0, none⟩) 1 1, .nilIface, .slice none 0 0], .nilIface]) ∧ w.heap.size ≤ g ∧ w'.cell? ⟨g, 0, none⟩ = some v1 ∧ w'.cell? ⟨g, 1, none⟩ = some (.iface t x) ∧ FoIn w' w.heap.size (listT (compB fI its')) [.iface t x] ∧ Below w.heap.size w w'
set_option maxHeartbeats 4000000 in
theorem sortC_any (c : Cel) (k : Fo) (ta : TypeId) (va v0 : Value) (Bt g cap on oc : Nat) (op : Option Addr) (fr : Int) (w : World) (hok : (Fo.node c k .nil).ok) (hfo : FoIn w Bt (.node c k .nil) [v0]) (hl : k.cells.length ≤ 3900) (hend : (splitF c k).2.1 = nilC) (hn0 : 0 < (splitF c k).1.length) (hn12 : (splitF c k).1.length ≤ 12) (hsl : (itsF (splitF c k).1).cells.length ≤ 3900) (h2 : Two w g v0 (.iface ta va)) :
  Calls Tryz.prog 94 #[calV op on oc g cap fr] w (SoO w (.iface ta va) (splitF c k).1) := by
 obtain ⟨vt, vx, rfl⟩ := hfo.iface
 obtain ⟨w1, e1⟩ : ∃ w1, w1 = w.alloc (Obj.cells #[.slice op on oc, .slice (some ⟨g, 0, none⟩) 2 cap, .int .i64 fr] 85) := ⟨_, rfl⟩
 obtain ⟨w2, e2⟩ : ∃ w2, w2 = w1.alloc (Obj.cells #[Value.slice none 0 0, Value.nilIface, Value.slice none 0 0] 88) := ⟨_, rfl⟩
 have hb1 : Below w.heap.size w w1 := by rw [e1]; exact (Below.refl _ _).alloc (Nat.le_refl _) _
 have hb2 : Below w1.heap.size w1 w2 := by rw [e2]; exact (Below.refl _ _).alloc (Nat.le_refl _) _
 have hb : Below w.heap.size w w2 := Below.on hb1 hb2
 have hs1 : w1.heap.size = w.heap.size + 1 := by rw [e1]; simp
 have hq : w2.cell? ⟨w.heap.size, 1, none⟩ = some (.slice (some ⟨g, 0, none⟩) 2 cap) := by
  rw [hb2.cell (p := ⟨w.heap.size, 1, none⟩) (by show w.heap.size < _; omega), e1, World.cell?, heap_alloc_new]; rfl
 have HR : Hid (∀ W, Below w2.heap.size w2 W → W.heap[w.heap.size + 1]? = some (Obj.cells #[Value.slice none 0 0, Value.nilIface, Value.slice none 0 0] 88)) := fun W hW => by
  rw [hW.block _ (by rw [e2]; simp; omega), e2, ← hs1, heap_alloc_new]
 have t2 := h2.below hb; have p0 := t2.at0; have HLA := listArg_any Bt w2 c k (.iface vt vx) hok (by omega) (FoIn.below hfo hb) hend
 have KS : Hid (∀ W, Below w2.heap.size w2 W → W.cell? ⟨w.heap.size, 1, none⟩ = some (.slice (some ⟨g, 0, none⟩) 2 cap) ∧ W.cell? ⟨g, 1, none⟩ = some (.iface ta va)) := fun W hW => ⟨(hW.cell (World.block_lt_of_cell? _ _ hq)).trans hq, (t2.below hW).at1⟩
 have HB : Hid (Below w.heap.size w w2) := hb; have HGL : Hid (g < w.heap.size) := World.block_lt_of_cell? _ _ h2.at0
 have HS : Hid (w2.heap.size = w.heap.size + 2) := by show _ = _; rw [e2]; simp; omega
 obtain ⟨its, ei⟩ : ∃ its, its = (splitF c k).1 := ⟨_, rfl⟩
 rw [← ei] at HLA hn0 hn12 hsl ⊢
 have HN : Hid (0 < its.length ∧ its.length ≤ 12 ∧ (itsF its).cells.length ≤ 3900) := ⟨hn0, hn12, hsl⟩
 have tok0 : True := trivial; have tok1 : True := trivial; have tok2 : True := trivial; have tok3 : True := trivial; rw [e1] at e2; clear e1 hb1 hb2 hb hs1 t2 hok hfo h2 hl hend hn0 hn12 hsl ei
 go_enter Tryz.func94, Tryz.ntmps94
 have p0' := p0; have hq' := hq; rw [e2] at p0' hq'; go_wp2_with fail; rw [← e2]; clear p0' hq' e2 p0 hq; refine HLA.mono ?_; rintro e w3 ⟨p3, n3, c3, vs, rfl, hn3, ho3, hf3, hok3, hb3⟩; have HB3 : Hid (Below w2.heap.size w2 w3) := hb3; have hd : Below w3.heap.size w3 (w3.drewN 1) := below_drewN (Below.refl _ _) 1; have HD : Hid (Below w2.heap.size w2 (w3.drewN 1)) := Below.on hb3 hd
 have HIN : Hid (Calls Tryz.prog 162 #[.slice p3 n3 c3] (w3.drewN 1) (InOut (w3.drewN 1) its)) := by
  have hvl : vs.length = n3 := by rw [FoIn.count _ _ hf3, itsF_count, hn3]
  refine inOrder_any its vs p3 n3 c3 Bt (w3.drewN 1) hn3 (by rw [hn3]; exact HN.out.1) (by rw [hn3]; exact HN.out.2.1) (fun j hj => ?_) (hf3.below (Below.on hb3 hd)) hok3 HN.out.2.2; obtain ⟨g3, cap3, hv, _, _⟩ := ho3.form (by rw [hn3]; exact HN.out.1); simp only [Value.slice.injEq, true_and] at hv; obtain ⟨rfl, rfl⟩ := hv; refine ⟨g3, rfl, ?_⟩; have := ho3.cellAt j (by omega); rw [show (w3.drewN 1).cell? ⟨g3, j, none⟩ = w3.cell? ⟨g3, j, none⟩ from rfl, this]
  simp [List.getD, hj]
 have HIT : Hid (∀ x ∈ its, (Fo.node x.1 x.2 .nil).ok ∧ x.2.cells.length ≤ 3900) := fun x hx => ⟨items_ok hok3 x hx, items_small HN.out.2.2 x hx⟩
 obtain ⟨q1, q0⟩ := KS.out w3 hb3
 have hS : w3.cell? ⟨w.heap.size, 1, none⟩ = some (.slice (some ⟨g, 0, none⟩) 2 cap) ∧ w3.cell? ⟨g, 1, none⟩ = some (.iface ta va) := ⟨q1, q0⟩
 clear hn3 ho3 hf3 hok3 hb3 hd HLA q1 q0; go_wp2_with fail
 go_region_held3 (fun W => W.cell? ⟨w.heap.size, 1, none⟩ = some (.slice (some ⟨g, 0, none⟩) 2 cap) ∧ W.cell? ⟨g, 1, none⟩ = some (.iface ta va)) (first | exact kk4 | exact kkc | exact kk3 | exact kk2 | exact kk | exact hS | go_keep)
  (first
    | (have _t := tok0; go_at_call 162; refine Calls.mono HIN.out ?_; rintro e w4 ⟨g4, its4, us4, rfl, hg4, hp4, hs4, hu4, hr4, hf4, hgl4, hb4⟩; have HB4 : Hid (Below w2.heap.size w2 w4) := Below.on HD.out hb4; have kk := KS.out w4 HB4.out; have HCF := compactI_any its4 us4 g4 its.length its.length w4 hp4.length_eq.symm hu4 HN.out.1 HN.out.2.1 (Nat.le_refl _) (by have := HN.out.2.1; omega) hgl4 hr4 hf4 (fun x hx => (HIT.out x (hp4.subset hx)).1) (fun x hx => (HIT.out x (hp4.subset hx)).2); have HPS : Hid (its4.Perm its ∧ w2.heap.size ≤ g4 ∧ its4.Pairwise (fun x y => cmpC ((itC x).map (renI (visits [] (itsF its).cells))) ((itC y).map (renI (visits [] (itsF its).cells))) ≤ 0)) := ⟨hp4, by have := HD.out.size; omega, hs4⟩; clear hg4 hp4 hs4 hu4 hr4 hf4 hgl4 hb4 tok0)
    | (have _t := tok3; go_at_call 163; refine Calls.mono HCF ?_; rintro e wc ⟨usc, rfl, huc, hrc, hfc, hgc⟩; have HBC : Hid (Below w2.heap.size w2 wc) := HB4.out.grown hgc HB4.out.size (fun k hk => by cases hk; exact HPS.out.2.1); have kkc := KS.out wc HBC.out; have HLO := listOfU_any (compB fI its4) usc g4 (compB fI its4).length its.length w2.heap.size wc rfl (compB_pos _ _ (by have := HPS.out.1.length_eq; have := HN.out.1; omega)) (by have := (compB_sub fI its4).length_le; have := HPS.out.1.length_eq; have := HN.out.2.1; omega) huc HBC.out.size hrc (hfc.mono (by have := HPS.out.2.1; omega)); clear huc hrc hfc hgc tok3)
    | (have _t := tok1; go_at_call 37; refine Calls.mono HLO ?_; rintro e w5 ⟨t5, x5, rfl, hf5, hb5⟩; have HB5 : Hid (Below w2.heap.size w2 w5) := Below.on HBC.out hb5; have kk2 := KS.out w5 HB5.out; have HF5 : Hid _ := hf5; have HU := unifying_ok ta t5 va x5 w5; clear hf5 hb5 tok1)
    | (have _t := tok2; go_at_call 130; refine Calls.mono HU ?_; rintro e w6 ⟨g6, rfl, hg6, c0, c1, hb6⟩; have HB6 : Hid (Below w2.heap.size w2 w6) := Below.on HB5.out hb6; have kk3 := KS.out w6 HB6.out; have kk4 : (wr3 w6 (w.heap.size + 1) (.slice (some ⟨g6, 0, none⟩) 1 1) .nilIface (.slice none 0 0)).cell? ⟨w.heap.size, 1, none⟩ = some (.slice (some ⟨g, 0, none⟩) 2 cap) ∧ (wr3 w6 (w.heap.size + 1) (.slice (some ⟨g6, 0, none⟩) 1 1) .nilIface (.slice none 0 0)).cell? ⟨g, 1, none⟩ = some (.iface ta va) := ⟨(wr3_ne (by show w.heap.size ≠ _; omega)).trans kk3.1, (wr3_ne (by have := HGL.out; show g ≠ _; omega)).trans kk3.2⟩; have HC6 : Hid _ := And.intro hg6 (And.intro c0 (And.intro c1 hb6)); obtain ⟨b0, b1, b2, b3⟩ := Box3.of_block (HR.out w6 HB6.out); clear hg6 c0 c1 hb6 tok2))
 rename_i hheld
 clear hheld; have HX := Box3.of_block (HR.out w6 HB6.out); have HP : Hid _ := wr3_box HX (.slice (some ⟨g6, 0, none⟩) 1 1) .nilIface (.slice none 0 0)
 have FIN : Hid (SoO w (.iface ta va) its (.returned (.tuple #[.agg #[.slice (some ⟨g6, 0, none⟩) 1 1, .nilIface, .slice none 0 0], .nilIface])) (wr3 w6 (w.heap.size + 1) (.slice (some ⟨g6, 0, none⟩) 1 1) .nilIface (.slice none 0 0))) := by
  have hs5 := HB5.out.size; have hS2 := HS.out; have hg6 := HC6.out.1; refine ⟨its4, g6, t5, x5, HPS.out.1, HPS.out.2.2, rfl, by omega, (wr3_ne (by show g6 ≠ _; omega)).trans HC6.out.2.1, (wr3_ne (by show g6 ≠ _; omega)).trans HC6.out.2.2.1, ?_, wr3_below (Below.on HB.out HB6.out) (Nat.le_succ _)⟩; exact FoIn.imp (by omega) (fun b o hb hl => (wr3_ne (by show b ≠ _; omega)).trans (HC6.out.2.2.2.cell (p := ⟨b, o, none⟩) hl)) (by simpa [wr3] using HC6.out.2.2.2.size) _ _ HF5.out
 clear kk kk2 kk3 kk4 kkc hS HX
 go_wp2
 obtain ⟨d0, d1, d2, _⟩ := HP.out; exact bodyPost_ret (v := .tuple #[.agg #[.slice (some ⟨g6, 0, none⟩) 1 1, .nilIface, .slice none 0 0], .nilIface]) (by simp [results, Tryz.results94, go_sem, d0, d1, d2]) rfl FIN.out
end
end Go.Proofs.YtdmmchoicngblaaGreatDoor
