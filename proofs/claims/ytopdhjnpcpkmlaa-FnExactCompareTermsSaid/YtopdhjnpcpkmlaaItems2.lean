/- ListItems of the program. Own work of the verifier. -/
import Derived.Test.YtopdhjnpcpkmlaaItems1
import Derived.WideShapes
namespace Go.Proofs.Ytopdhjnpcpkmlaa
open Go Go.RowKit
set_option linter.unusedVariables false

theorem FoIn.at_ {w : World} {B : Nat} : ∀ (its : List (Cel × Fo)) (vs : List Value), FoIn w B (itsF its) vs → ∀ i (h : i < its.length), ∃ t x, vs[i]? = some (.iface t x) ∧ FoIn w B (.node its[i].1 its[i].2 .nil) [.iface t x]
  | [], vs, _, i, h => by simp at h
  | a :: r, vs, ⟨v, vr, e, hn, hr⟩, 0, _ => by
    obtain ⟨t, x, rfl⟩ := hn.iface
    exact ⟨t, x, by rw [e]; rfl, _, [], rfl, hn, rfl⟩
  | a :: r, vs, ⟨v, vr, e, hn, hr⟩, i + 1, h => by
    obtain ⟨t, x, h1, h2⟩ := FoIn.at_ r vr hr i (by simpa using h)
    exact ⟨t, x, by rw [e]; simpa using h1, by simpa using h2⟩
theorem itsF_ok_at : ∀ (its : List (Cel × Fo)), (itsF its).ok → ∀ i (h : i < its.length), (Fo.node its[i].1 its[i].2 .nil).ok
  | [], _, i, h => by simp at h
  | a :: r, ⟨h1, h2, h3, h4, h5, h6⟩, 0, _ => ⟨h1, h2, h3, h4, h5, trivial⟩
  | a :: r, ⟨h1, h2, h3, h4, h5, h6⟩, i + 1, h => by simpa using itsF_ok_at r h6 i (by simpa using h)
theorem itsF_count : ∀ its : List (Cel × Fo), (itsF its).count = its.length
  | [] => rfl
  | a :: r => by simp [itsF, Fo.count, itsF_count r]

/-- The cells of an item. -/
def itC (x : Cel × Fo) : List Cel := x.1 :: x.2.cells
/-- The empty list. -/
def nilC : Cel := (2, 0, [91, 93])
/-- All that stands in the items and behind them is there. -/
theorem split_size : ∀ (N : Nat) (c : Cel) (k : Fo), k.cells.length ≤ N → ((splitF c k).1.map (fun x => (itC x).length)).sum + (itC (splitF c k).2).length ≤ k.cells.length + 1 ∧ (∀ x ∈ (splitF c k).1, x.2.cells.length ≤ k.cells.length)
  | N, c, .nil, _ => by simp [splitF, itC, Fo.cells]
  | N, c, .node c1 k1 .nil, _ => by simp [splitF, itC, Fo.cells]
  | N, c, .node c1 k1 (.node c2 k2 (.node a b d)), _ => by simp [splitF, itC, Fo.cells]
  | 0, c, .node c1 k1 (.node c2 k2 .nil), h => by simp [Fo.cells] at h
  | N + 1, c, .node c1 k1 (.node c2 k2 .nil), h => by
    by_cases e : c = dot
    · subst e
      have ih := split_size N c2 k2 (by simp [Fo.cells] at h; omega)
      rw [splitF_dot]
      simp only [List.map_cons, List.sum_cons, itC, List.length_cons, Fo.cells, List.length_append, List.length_nil] at ih ⊢
      refine ⟨by omega, fun x hx => ?_⟩
      rcases List.mem_cons.1 hx with rfl | hx
      · simp; omega
      · have := ih.2 x hx; omega
    · rw [splitF_other _ _ e]
      simp [itC]

theorem neq_atom (w : World) (a b : ByteArray) : (binOp .neq 59 (.iface 76 (.string a)) (.iface 76 (.string b))).run Try.prog w = .ok (.bool (!(a == b))) w := by kernel_rfl
theorem neq_var (w : World) (x : Value) (b : ByteArray) : (binOp .neq 59 (.iface 67 x) (.iface 76 (.string b))).run Try.prog w = .ok (.bool true) w := by kernel_rfl
theorem neq_num (w : World) (x : Value) (b : ByteArray) : (binOp .neq 59 (.iface 107 x) (.iface 76 (.string b))).run Try.prog w = .ok (.bool true) w := by kernel_rfl
theorem neq_comp (w : World) (x : Value) (b : ByteArray) : (binOp .neq 59 (.iface 100 x) (.iface 76 (.string b))).run Try.prog w = .ok (.bool true) w := by kernel_rfl

theorem str_beq {xs : List Int} (hb : Byte xs) (l : List UInt8) : (strOfNums xs == (⟨l.toArray⟩ : ByteArray)) = decide (xs = l.map (fun u => (u.toNat : Int))) := by
  have e : (strOfNums xs == (⟨l.toArray⟩ : ByteArray)) = ((strOfNums xs).data == l.toArray) := rfl
  rw [e, Bool.eq_iff_iff, beq_iff_eq, decide_eq_true_iff, ← str_eq hb, ByteArray.toList_eq]
  constructor
  · intro h; rw [h]
  · intro h; rw [← h]

/-- What ListItems answers of a tree: the items, and the code. -/
def itemsR (c : Cel) (k : Fo) : List (List Cel) × Int := if (splitF c k).2.1 = nilC then ((splitF c k).1.map itC, 0) else ([], 4)
def ItemsOut (w : World) (css : List (List Cel)) (code : Int) (e : Ending) (w' : World) : Prop :=
  ∃ p n cp, e = .returned (.tuple #[.slice p n cp, .int .i64 code]) ∧ OwnCC w' w.heap.size w'.heap.size p n cp css ∧ Below w.heap.size w w'

theorem end_neq {w : World} {Bt : Nat} {c : Cel} {k : Fo} {t : TypeId} {x : Value} (hok : (Fo.node c k .nil).ok) (h : FoIn w Bt (.node c k .nil) [.iface t x]) (W : World) :
    (binOp .neq 59 (.iface t x) (.iface 76 (.string ⟨#[91, 93]⟩))).run Try.prog W = .ok (.bool (!decide (c = nilC))) W := by
  obtain ⟨v', vr, e, hnode, _⟩ := h
  obtain ⟨rfl, rfl⟩ := List.cons.inj e
  have oth : c.1 ≠ 2 → (!decide (c = nilC)) = true := fun h0 => by
    have : c ≠ nilC := fun e => h0 (by rw [e]; rfl)
    simpa using this
  rcases hnode with ⟨h0, hv⟩ | ⟨h0, hv⟩ | ⟨h0, hv⟩ | ⟨h0, b, g, kv, hv, _⟩
  · rw [hv, neq_var, oth (by rw [h0]; decide)]
  · rw [hv, neq_num, oth (by rw [h0]; decide)]
  · have hc1 : c.2.1 = 0 := by have := hok.1; rw [h0] at this; simp [cellB] at this; exact this.2
    have e1 := str_beq hok.2.1 [91, 93]
    rw [hv, neq_atom]
    have e2 : (strOfNums c.2.2 == (⟨#[91, 93]⟩ : ByteArray)) = decide (c = nilC) := by
      rw [e1]
      congr 1
      rw [eq_iff_iff]
      constructor
      · intro h
        obtain ⟨a, b, d⟩ := c
        simp only at h0 hc1 h
        rw [h0, hc1, h]; rfl
      · intro h; rw [h]; rfl
    rw [e2]
  · rw [hv, neq_comp, oth (by rw [h0]; decide)]

set_option maxRecDepth 100000 in
set_option maxHeartbeats 1000000 in
theorem implItems_any (cs : List Cel) (p : Option Addr) (n cap : Nat) (c : Cel) (k : Fo) (w : World) (hok : (Fo.node c k .nil).ok) (hcs : cs = c :: k.cells) (hlen : cs.length ≤ 2000) (hvl : validB cs = true) (hn : n = cs.length) (hc : n ≤ cap) (hm : cap ≤ 1000000000) (hin : CIn w p cs) :
    Calls Try.prog 32 #[.slice p n cap] w (ItemsOut w (itemsR c k).1 (itemsR c k).2) := by
  subst hn
  have HV := implValid_any p cap cs w (by omega) hin
  rw [hvl] at HV
  have HI : Hid (CIn w p cs) := hin
  have HOK : Hid ((Fo.node c k .nil).ok ∧ cs = c :: k.cells) := ⟨hok, hcs⟩
  have hkl : k.cells.length ≤ 10000 := by rw [hcs] at hlen; simp at hlen; omega
  have HSZ : Hid _ := split_size k.cells.length c k (Nat.le_refl _)
  clear hin hok hcs hvl
  go_enter Try.func32, Try.ntmps32
  go_wp2_with fail
  refine HV.mono ?_
  rintro e w1 ⟨rfl, hb1⟩
  have HB1 : Hid (Below w.heap.size w w1) := hb1
  have HT := termOf_any c k p cs.length cap w1 HOK.out.1 (by rw [HOK.out.2]; simp) hc hm (by rw [← HOK.out.2]; exact HI.out.below hb1)
  clear hb1 HV
  go_wp2_with fail
  refine HT.mono ?_
  rintro e w2 ⟨v, rfl, hfo, hb2⟩
  have HB2 : Hid (Below w.heap.size w w2) := Below.on HB1.out hb2
  have HSP := splitList_any c k v _ w2 w2 HOK.out.1 hfo (Below.refl _ _) hkl
  obtain ⟨vt, vx, rfl⟩ := hfo.iface
  clear hfo hb2 HT
  go_wp2_with fail
  refine HSP.mono ?_
  rintro e w3 ⟨ps, ns, cps, ve, vs, rfl, hns, hrow, hits, hend, hoki, hoke, hb3⟩
  obtain ⟨et, ex, rfl⟩ := hend.iface
  have hneq := fun W => end_neq hoke hend W
  have HB3 : Hid (Below w.heap.size w w3) := Below.on HB2.out hb3
  have HW3 : Hid (Below w2.heap.size w2 w3) := hb3
  have HITS : Hid _ := hits
  have HOKI : Hid (itsF (splitF c k).1).ok := hoki
  have HNS : Hid (ns = (splitF c k).1.length) := hns
  have HROW : Hid (w3.ownsRow w2.heap.size 59 1 (.slice ps ns cps) ns vs) := hrow
  have hnsb : ns ≤ 2000 := by
    have h1 := HSZ.out.1
    have h2 : ∀ l : List (Cel × Fo), l.length ≤ (l.map (fun x => (itC x).length)).sum := fun l => by
      induction l with
      | nil => simp
      | cons a r ih => simp only [List.map_cons, List.sum_cons, List.length_cons, itC]; simp only [itC, List.length_cons] at ih; omega
    have h3 := h2 (splitF c k).1
    have h4 := HOK.out.2
    rw [h4] at hlen
    simp at hlen
    omega
  have hBs : w.heap.size ≤ w3.heap.size := HB3.out.size
  clear hb3 hits hend hoki hoke hns hrow HSP
  by_cases he : (splitF c k).2.1 = nilC
  · have hneq' : ∀ W, (binOp .neq 59 (.iface et ex) (.iface 76 (.string ⟨#[91, 93]⟩))).run Try.prog W = .ok (.bool false) W := fun W => by rw [hneq W]; simp [he]
    have HR : Hid (itemsR c k = ((splitF c k).1.map itC, 0)) := by show _ = _; rw [itemsR, if_pos he]
    clear hneq he
    go_wp2_with fail
    go_loopw [6, 23] (fun s i wr => ∃ (j : Nat) (p4 : Option Addr) (n4 c4 : Nat), j ≤ ns ∧ n4 = j ∧ i = .int .i64 j ∧ s = .slice p4 n4 c4 ∧ Hid (OwnCC wr w3.heap.size wr.heap.size p4 n4 c4 (((splitF c k).1.take j).map itC)) ∧ Hid (Below w3.heap.size w3 wr)) (fun _ i _ => ns - (intOf i).toNat)
    case atStart => exact ⟨0, none, 0, 0, Nat.zero_le _, rfl, rfl, rfl, OwnCC.nil _ _ _, Below.refl _ _⟩
    case round =>
      obtain ⟨j, p4, n4, c4, hj, rfl, rfl, rfl, HO, HB⟩ := hrel
      by_cases hlt : n4 < ns
      · have hjl : n4 < (splitF c k).1.length := by rw [← HNS.out]; exact hlt
        obtain ⟨g, cc, hv, hbg, hgs⟩ := HROW.out.form (by omega)
        simp only [Value.slice.injEq, true_and] at hv
        obtain ⟨rfl, rfl⟩ := hv
        obtain ⟨it, ix, hx1, hx2⟩ := FoIn.at_ _ _ HITS.out n4 hjl
        have d0 : wr.cell? ⟨g, n4, none⟩ = some (.iface it ix) := (HB.out.cell (p := ⟨g, n4, none⟩) hgs).trans ((HROW.out.cellAt n4 (by omega)).trans hx1)
        have hx3 := (hx2.below HW3.out).below HB.out
        have HCO := cellsOf_any _ _ _ _ wr (itsF_ok_at _ HOKI.out n4 hjl) hx3 (by have := HSZ.out.2 _ (List.getElem_mem hjl); omega)
        have HX : Hid (((splitF c k).1.take n4).map itC ++ [itC (splitF c k).1[n4]] = ((splitF c k).1.take (n4 + 1)).map itC) := by
          show _ = _
          rw [List.take_succ_eq_append_getElem hjl, List.map_append]; rfl
        have hBw : w3.heap.size ≤ wr.heap.size := HB.out.size
        clear hx1 hx2 hx3
        go_wp2_with fail
        refine HCO.mono ?_
        rintro e w5 ⟨q5, m5, c5, rfl, ho5, hb5⟩
        have HO5 : Hid (OwnC w5 wr.heap.size q5 m5 c5 (itC (splitF c k).1[n4])) := ho5
        have HB5 : Hid (Below wr.heap.size wr w5) := hb5
        clear ho5 hb5 HCO d0
        go_wp2_with (at_builtin; refine app_item wr w5 rfl _ _ rfl w3.heap.size p4 n4 c4 _ rfl HO.out HB5.out hBw q5 m5 c5 _ HO5.out rfl (by omega) ?_; intro g6 n6 cap6 w6 hown6 hb6 hn6)
        have HO6 : Hid (OwnCC w6 w3.heap.size w6.heap.size (some ⟨g6, 0, none⟩) n6 cap6 (((splitF c k).1.take (n4 + 1)).map itC)) := by rw [← HX.out]; exact hown6
        have HB6 : Hid (Below w3.heap.size w3 w6) := (Below.on HB.out (HB5.out.alloc HB5.out.size _)).trans hb6
        have HN6 : Hid (n6 = n4 + 1) := hn6.out
        clear hown6 hb6 hn6
        go_roundw
        case rel => exact ⟨n4 + 1, _, _, _, by omega, HN6.out, by go_num, rfl, HO6, HB6⟩
        case measure => simp [intOf]; omega
      · obtain rfl : n4 = ns := by omega
        have HFIN : Hid (ItemsOut w (itemsR c k).1 (itemsR c k).2 (.returned (.tuple #[.slice p4 n4 c4, .int .i64 0])) wr) := by
          rw [HR.out]
          refine ⟨_, _, _, rfl, ?_, HB3.out.trans (HB.out.mono hBs)⟩
          have := HO.out.down hBs
          rwa [List.take_of_length_le (by rw [← HNS.out]; exact Nat.le_refl _)] at this
        go_wp2_with fail
        go_ret2
        exact HFIN.out
  · have hneq' : ∀ W, (binOp .neq 59 (.iface et ex) (.iface 76 (.string ⟨#[91, 93]⟩))).run Try.prog W = .ok (.bool true) W := fun W => by rw [hneq W]; simp [he]
    have HFIN : Hid (ItemsOut w (itemsR c k).1 (itemsR c k).2 (.returned (.tuple #[.slice none 0 0, .int .i64 4])) w3) := by
      show ItemsOut _ _ _ _ _
      rw [itemsR, if_neg he]
      exact ⟨_, _, _, rfl, OwnCC.nil _ _ _, HB3.out⟩
    clear hneq he
    go_wp2_with fail
    go_ret2
    exact HFIN.out

end Go.Proofs.Ytopdhjnpcpkmlaa
