/- MakeList of the implementation. Own work of the verifier. -/
import Derived.Test.YtopdhjnpcpkmlaaMake4
namespace Go.Proofs.Ytopdhjnpcpkmlaa
open Go Go.RowKit
set_option linter.unusedVariables false

theorem trees_of : ∀ (css : List (List Cel)), (∀ i, i < css.length → ∀ j, j < (css.getD i []).length → Byte ((css.getD i []).getD j Cel.none).2.2) → css.all validB = true → ∃ ts : List (Cel × Fo), css = ts.map itC ∧ ∀ x ∈ ts, (Fo.node x.1 x.2 .nil).ok
  | [], _, _ => ⟨[], rfl, fun x h => by simp at h⟩
  | cs :: r, hb, hv => by
    simp only [List.all_cons, Bool.and_eq_true] at hv
    obtain ⟨ts, e, h⟩ := trees_of r (fun i hi j hj => by have := hb (i + 1) (by simp; omega) j (by simpa using hj); simpa using this) hv.2
    obtain ⟨c, k, e1, e2, _⟩ := tree_of (cs := cs) (fun j hj => by have := hb 0 (by simp) j (by simpa using hj); simpa using this) hv.1
    exact ⟨(c, k) :: ts, by rw [List.map_cons, ← e, e1]; rfl, fun x hx => by
      rcases List.mem_cons.1 hx with rfl | hx
      · exact e2
      · exact h x hx⟩
theorem trees_at {css : List (List Cel)} {ts : List (Cel × Fo)} (e : css = ts.map itC) (i : Nat) (h : i < ts.length) : css.getD i [] = ts[i].1 :: ts[i].2.cells := by
  rw [e, List.getD, List.getElem?_map, List.getElem?_eq_getElem h]; rfl
theorem listT_node (ts : List (Cel × Fo)) : ∃ c k, listT ts = .node c k .nil := by cases ts <;> exact ⟨_, _, rfl⟩
theorem get_set_ne {α : Type} (l : List α) (i j : Nat) (a : α) (h : i ≠ j) : (l.set i a)[j]? = l[j]? := List.getElem?_set_ne h
theorem zs_snoc_at (zs : List (Nat × Value)) (z : Nat × Value) (i k : Nat) (hk : zs.length = k) : (zs ++ [z])[i]?.getD (0, .nilIface) = if i = k then z else zs[i]?.getD (0, .nilIface) := by
  by_cases e : i = k
  · rw [if_pos e, e, ← hk]; simp
  · rw [if_neg e]
    by_cases h : i < zs.length
    · rw [List.getElem?_append_left h]
    · rw [List.getElem?_append_right (by omega)]
      have : ([z] : List (Nat × Value))[i - zs.length]? = none := by simp; omega
      rw [this]
      have h2 : zs[i]? = none := by simp; omega
      rw [h2]

/-- The parts so far. -/
def PartsAt (wr : World) (B g n : Nat) (ts : List (Cel × Fo)) (zs : List (Nat × Value)) (j : Nat) : Prop :=
  zs.length = j ∧ (∃ vs, wr.ownsRow B 59 1 (.slice (some ⟨g, 0, none⟩) n n) n vs ∧ ∀ i, i < j → vs[i]? = some (.iface (zs[i]?.getD (0, .nilIface)).1 (zs[i]?.getD (0, .nilIface)).2)) ∧
  ∀ i (h : i < ts.length), i < j → FoIn wr (g + 1) (.node ts[i].1 ts[i].2 .nil) [.iface (zs[i]?.getD (0, .nilIface)).1 (zs[i]?.getD (0, .nilIface)).2]
theorem PartsAt.below {wr w2 : World} {B g n : Nat} {ts : List (Cel × Fo)} {zs : List (Nat × Value)} {j : Nat} (h : PartsAt wr B g n ts zs j) (hb : Below wr.heap.size wr w2) : PartsAt w2 B g n ts zs j := by
  obtain ⟨h1, ⟨vs, h2, h3⟩, h4⟩ := h
  exact ⟨h1, ⟨vs, row_below h2 hb, h3⟩, fun i h hi => (h4 i h hi).below hb⟩
theorem PartsAt.next {w2 : World} {B g n : Nat} {ts : List (Cel × Fo)} {zs : List (Nat × Value)} {j : Nat} (h : PartsAt w2 B g n ts zs j) (hjn : j < n) (hj : j < ts.length) {t : Nat} {u : Value} (hfo : FoIn w2 (g + 1) (.node ts[j].1 ts[j].2 .nil) [.iface t u]) :
    PartsAt (w2.setCell ⟨g, j, none⟩ (.iface t u)) B g n ts (zs ++ [(t, u)]) (j + 1) := by
  obtain ⟨h1, ⟨vs, h2, h3⟩, h4⟩ := h
  have hlen : vs.length = n := by have := h2.1; omega
  have hc : ∀ b o, g + 1 ≤ b → b < w2.heap.size → (w2.setCell ⟨g, j, none⟩ (.iface t u)).cell? ⟨b, o, none⟩ = w2.cell? ⟨b, o, none⟩ := fun b o hb _ => World.cell?_of_block (Below.heap_setCell _ _ _ _ (show b ≠ g by omega))
  refine ⟨by simp [h1], ⟨vs.set j (.iface t u), (h2.stored j _).1, fun i hi => ?_⟩, fun i h hi => ?_⟩
  · rw [zs_snoc_at _ _ _ _ h1]
    by_cases e : i = j
    · rw [if_pos e, e, List.getElem?_set_self (by omega)]
    · rw [if_neg e, get_set_ne _ _ _ _ (fun x => e x.symm)]; exact h3 i (by omega)
  · rw [zs_snoc_at _ _ _ _ h1]
    by_cases e : i = j
    · subst e
      rw [if_pos rfl]
      exact FoIn.imp (Nat.le_refl _) hc (by simp) _ _ hfo
    · rw [if_neg e]
      exact FoIn.imp (Nat.le_refl _) hc (by simp) _ _ (h4 i h (by omega))
theorem PartsAt.cell {wr : World} {B g n : Nat} {ts : List (Cel × Fo)} {zs : List (Nat × Value)} {j : Nat} (h : PartsAt wr B g n ts zs j) (i : Nat) (hi : i < n) : ∃ y, wr.cell? ⟨g, i, none⟩ = some y ∧ wr.frozen? ⟨g, i, none⟩ = false := by
  obtain ⟨h1, ⟨vs, h2, h3⟩, h4⟩ := h
  have hlen : vs.length = n := by have := h2.1; omega
  exact ⟨vs[i], (h2.cellAt i (by omega)).trans (List.getElem?_eq_getElem (by omega)), h2.frozenAt i⟩
theorem PartsAt.cells {wr : World} {B g n : Nat} {ts : List (Cel × Fo)} {zs : List (Nat × Value)} {j : Nat} (h : PartsAt wr B g n ts zs j) (i : Nat) (hi : i < j) (hin : i < n) : wr.cell? ⟨g, i, none⟩ = some (.iface (zs[i]?.getD (0, .nilIface)).1 (zs[i]?.getD (0, .nilIface)).2) := by
  obtain ⟨h1, ⟨vs, h2, h3⟩, h4⟩ := h
  exact (h2.cellAt i (by omega)).trans (h3 i hi)

set_option maxRecDepth 100000 in
set_option maxHeartbeats 1000000 in
theorem implMake_any (css : List (List Cel)) (p : Option Addr) (n c : Nat) (w : World) (hn : n = css.length) (hb : css.length + tll css ≤ 1048576) (hby : ∀ i, i < css.length → ∀ j, j < (css.getD i []).length → Byte ((css.getD i []).getD j Cel.none).2.2) (hin : CCIn w p css) (hti : TightCC w p css) :
    Calls Try.prog 28 #[.slice p n c] w (MakeOut w (mkR css).1 (mkR css).2) := by
  have HI : Hid (CCIn w p css) := hin
  have HTI : Hid (TightCC w p css) := hti
  have HBY : Hid (∀ i, i < css.length → ∀ j, j < (css.getD i []).length → Byte ((css.getD i []).getD j Cel.none).2.2) := hby
  have HN : Hid (n = css.length) := hn
  have hnb : n ≤ 1048576 := by omega
  clear hin hti hby
  by_cases hl : n ≤ 2000
  · have hl' : ¬ (2000 : Int) < n := by omega
    clear hn
    go_enter Try.func28, Try.ntmps28
    go_wp2_with fail
    clear hl'
    go_loopw [4, 15] (fun s i wr => ∃ (j m : Nat), j ≤ n ∧ m ≤ 2001 * j + 1 ∧ i = .int .i64 j ∧ s = .int .i64 m ∧ Hid (m = mkN css j ∧ ∀ i, i < j → validB (css.getD i []) = true) ∧ Hid (Below w.heap.size w wr)) (fun _ i _ => n - (intOf i).toNat)
    case atStart => exact ⟨0, 1, Nat.zero_le _, by decide, rfl, rfl, ⟨rfl, fun i h => by omega⟩, Below.refl _ _⟩
    case round =>
      obtain ⟨j, m, hj, hm, rfl, rfl, HM, HB⟩ := hrel
      by_cases hlt : j < n
      · have hjl : j < css.length := by rw [← HN.out]; exact hlt
        obtain ⟨b, o, rfl, hcss⟩ := (HI.out.below HB.out) (by omega)
        obtain ⟨qi, ci, x0, x1⟩ := hcss j hjl
        have hbj := tll_at css j hjl
        have HV := implValid_any qi ci (css.getD j []) wr (by omega) x1
        obtain ⟨li, eli⟩ : ∃ li, li = (css.getD j []).length := ⟨_, rfl⟩
        have HLI : Hid (li = (css.getD j []).length) := eli
        rw [← eli] at x0 HV
        have X0 : Hid (wr.cell? ⟨b, o + j, none⟩ = some (.slice qi li ci)) := x0
        have HSU : Hid _ := mkN_succ css j hjl
        clear hcss x1 hbj eli
        by_cases hv : validB (css.getD j []) = true
        · rw [hv] at HV
          have hli : li ≤ 2000 := by rw [HLI.out]; exact (valid_len hv).2
          have HVV : Hid _ := hv
          clear hv
          go_wp2_with fail
          refine HV.mono ?_
          rintro e w2 ⟨rfl, hb2⟩
          have HB2 : Hid (Below w.heap.size w w2) := Below.on HB.out hb2
          clear hb2 HV x0
          go_wp2_with fail
          go_roundw
          case rel => exact ⟨j + 1, m + (1 + li), by omega, by omega, by go_num, by go_num, ⟨by rw [HSU.out, HM.out.1, HLI.out], fun i hi => by
            by_cases e : i = j
            · subst e; exact HVV.out
            · exact HM.out.2 i (by omega)⟩, HB2⟩
          case measure => simp [intOf]; omega
        · have hvf : validB (css.getD j []) = false := by simpa using hv
          rw [hvf] at HV
          have HR : Hid (mkR css = ([], 1)) := by
            show _ = _
            rw [mkR, if_pos]
            right
            cases h : css.all validB with
            | false => rfl
            | true => exact absurd (all_at h j hjl) hv
          clear hv hvf
          go_wp2_with fail
          refine HV.mono ?_
          rintro e w2 ⟨rfl, hb2⟩
          have HF : Hid (MakeOut w (mkR css).1 (mkR css).2 (.returned (.tuple #[.slice none 0 0, .int .i64 1])) w2) := by
            rw [HR.out]
            exact ⟨_, _, _, rfl, OwnC.nil _ _, Below.on HB.out hb2⟩
          clear hb2
          go_wp2_with fail
          go_ret2
          exact HF.out
      · obtain rfl : j = n := by omega
        have hall : css.all validB = true := all_of (by rw [← HN.out]; exact HM.out.2)
        have hmk : m = (mkL css).length + 1 := by
          rw [HM.out.1, mkN, List.take_of_length_le (by rw [← HN.out]; exact Nat.le_refl _)]
        by_cases hbig : 2000 < m
        · have hbig' : (2000 : Int) < m := by omega
          have HF : Hid (MakeOut w (mkR css).1 (mkR css).2 (.returned (.tuple #[.slice none 0 0, .int .i64 3])) wr) := by
            have e : mkR css = ([], 3) := by rw [mkR, if_neg (by rw [hall, ← HN.out]; simp; omega), if_pos (by omega)]
            rw [e]
            exact ⟨_, _, _, rfl, OwnC.nil _ _, HB.out⟩
          clear hall hmk hbig
          go_wp2_with fail
          go_ret2
          exact HF.out
        · have hbig' : ¬ (2000 : Int) < m := by omega
          have HR : Hid (mkR css = (mkL css ++ [nilC], 0)) := by show _ = _; rw [mkR, if_neg (by rw [hall, ← HN.out]; simp; omega), if_neg (by omega)]
          have HSZ : Hid ((mkL css).length ≤ 2000) := by show _ ≤ _; omega
          obtain ⟨ts, ets, hok⟩ := trees_of css HBY.out hall
          have HTS : Hid (css = ts.map itC ∧ (∀ x ∈ ts, (Fo.node x.1 x.2 .nil).ok) ∧ j = ts.length) := ⟨ets, hok, by rw [HN.out, ets, List.length_map]⟩
          obtain ⟨i0, hi, hz0, hz1, hz2⟩ := info_parts infoTerm
          have hmx : j ≤ maxLen := by unfold maxLen; omega
          clear hall hmk hbig ets hok
          go_wp2_with (at_make; refine wpList_make_full _ rfl _ _ 74 rfl wr.heap.size 59 i0 .nilIface 1 Try.underlying74 hi hz0 hz1 _ _ _ _ j rfl rfl rfl rfl (by rw [hz2]; omega) hmx (Nat.le_refl _) ?_; intro w1 hown hgrow)
          obtain ⟨g, eg⟩ : ∃ g, g = wr.heap.size := ⟨_, rfl⟩
          have HB1 : Hid (Below w.heap.size w w1) := Below.on HB.out ((Below.refl _ _).grown hgrow (Nat.le_refl _) (fun k h => by cases h))
          have hg1 : w.heap.size ≤ g ∧ g < w1.heap.size := by
            rw [eg]
            exact ⟨HB.out.size, (hown.lt wr.heap.size rfl).2⟩
          rw [← eg] at hown ⊢
          have HP : Hid (PartsAt w1 g g j ts [] 0) := ⟨rfl, ⟨_, hown, fun i h => by omega⟩, fun i _ h => by omega⟩
          clear hown hgrow eg
          go_loopw [35] (fun i wr => ∃ (k : Nat) (zs : List (Nat × Value)), k ≤ j ∧ i = .int .i64 k ∧ Hid (PartsAt wr g g j ts zs k) ∧ Hid (Below w.heap.size w wr) ∧ g < wr.heap.size) (fun i _ => j - (intOf i).toNat)
          case atStart => exact ⟨0, [], Nat.zero_le _, rfl, HP, HB1, hg1.2⟩
          case round =>
            obtain ⟨k, zs, hk, rfl, HPk, HBk, hgk⟩ := hrel
            by_cases hlt : k < j
            · have hkl : k < css.length := by rw [← HN.out]; exact hlt
              have hkt : k < ts.length := by rw [← HTS.out.2.2]; exact hlt
              obtain ⟨b, o, rfl, hcss⟩ := (HI.out.below HBk.out) (by omega)
              obtain ⟨qi, ci, x0, x1⟩ := hcss k hkl
              obtain ⟨q', x0'⟩ := (HTI.out.below HBk.out) b o rfl k hkl
              have hci : ci = (css.getD k []).length := by
                have := x0.symm.trans x0'
                simp only [Option.some.injEq, Value.slice.injEq, true_and] at this
                exact this.2
              have hbj := tll_at css k hkl
              have eit := trees_at HTS.out.1 k hkt
              have HT := termOf_any ts[k].1 ts[k].2 qi (css.getD k []).length ci wr (HTS.out.2.1 _ (List.getElem_mem hkt)) (by rw [eit]; simp) (by omega) (by omega) (by rw [← eit]; exact x1)
              obtain ⟨li, eli⟩ : ∃ li, li = (css.getD k []).length := ⟨_, rfl⟩
              rw [← eli] at x0 HT
              clear hcss x1 hbj eli eit x0' hci
              go_wp2_with fail
              refine HT.mono ?_
              rintro e w2 ⟨v, rfl, hfo, hb2⟩
              obtain ⟨vt, vu, rfl⟩ := hfo.iface
              have HP2 : Hid (PartsAt w2 g g j ts zs k) := HPk.out.below hb2
              obtain ⟨y, y0, y1⟩ := PartsAt.cell HP2.out k hlt
              have HNX : Hid (PartsAt (w2.setCell ⟨g, k, none⟩ (.iface vt vu)) g g j ts (zs ++ [(vt, vu)]) (k + 1)) := PartsAt.next HP2.out hlt hkt (FoIn.imp (B' := g + 1) (by omega) (fun _ _ _ _ => rfl) (Nat.le_refl _) _ _ hfo)
              have HB2 : Hid (Below w.heap.size w w2) := Below.on HBk.out hb2
              have hgk2 : g < w2.heap.size := by have := hb2.size; omega
              clear hfo hb2 HT x0
              go_wp2_with fail
              go_roundw
              case rel => exact ⟨k + 1, _, by omega, by go_num, HNX, HB2.out.setCell (p := ⟨g, k, none⟩) hg1.1 _, by simp; omega⟩
              case measure => simp [intOf]; omega
            · obtain rfl : k = j := by omega
              have HLO := listOf_any ts zs g ts.length (g + 1) wr (by rw [← HTS.out.2.2]; exact hl) hgk hgk (fun i hi => HPk.out.cells i (by rw [HTS.out.2.2]; exact hi) (by rw [HTS.out.2.2]; exact hi)) (fun i hi => HPk.out.2.2 i hi (by rw [HTS.out.2.2]; exact hi))
              rw [← HTS.out.2.2] at HLO
              go_wp2_with fail
              refine HLO.mono ?_
              rintro e w2 ⟨v, rfl, hfo, hb2⟩
              have HB2 : Hid (Below w.heap.size w w2) := Below.on HBk.out hb2
              obtain ⟨cT, kT, eT⟩ := listT_node ts
              have hcT : cT :: kT.cells = mkL css ++ [nilC] := by
                have h1 := listT_cells ts
                rw [eT] at h1
                simp only [Fo.cells, List.append_nil] at h1
                rw [h1, HTS.out.1]; rfl
              have hokT := listT_ok ts HTS.out.2.1
              rw [eT] at hokT hfo
              have HCO := cellsOf_any cT kT v (g + 1) w2 hokT hfo (by
                have := congrArg List.length hcT
                have h2 := HSZ.out
                simp at this
                omega)
              rw [hcT] at HCO
              obtain ⟨vt, vu, rfl⟩ := hfo.iface
              clear hfo hb2 HLO hokT
              go_wp2_with fail
              refine HCO.mono ?_
              rintro e w3 ⟨r3, m3, c3, rfl, ho3, hb3⟩
              have HF : Hid (MakeOut w (mkR css).1 (mkR css).2 (.returned (.tuple #[.slice r3 m3 c3, .int .i64 0])) w3) := by
                rw [HR.out]
                exact ⟨_, _, _, rfl, ho3.mono HB2.out.size, Below.on HB2.out hb3⟩
              clear ho3 hb3 HCO
              go_wp2_with fail
              go_ret2
              exact HF.out
  · have hl' : (2000 : Int) < n := by omega
    have HF : Hid (MakeOut w (mkR css).1 (mkR css).2 (.returned (.tuple #[.slice none 0 0, .int .i64 1])) w) := by
      have e : mkR css = ([], 1) := by rw [mkR, if_pos (.inl (by omega))]
      rw [e]
      exact ⟨_, _, _, rfl, OwnC.nil _ _, Below.refl _ _⟩
    clear hn
    go_enter Try.func28, Try.ntmps28
    go_wp2_with fail
    go_ret2
    exact HF.out

end Go.Proofs.Ytopdhjnpcpkmlaa
