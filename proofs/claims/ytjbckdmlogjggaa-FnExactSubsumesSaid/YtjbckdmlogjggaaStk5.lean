/- open whatever the pair; isSame. Own work of the verifier. -/
import Derived.Test.YtjbckdmlogjggaaStk4
import Derived.Deep.LoopGhost
namespace Go.Proofs.Ytjbckdmlogjggaa
open Go Go.RowKit
set_option linter.unusedVariables false

theorem open_any (W0 : World) (Bt : Nat) (w : World) (B sb so : Nat) (p : Option Addr) (n c : Nat) (st : List TT) (x : TT) (v1 v2 : Value) (h : Stk W0 Bt w B sb so p n c st) (hW : Below W0.heap.size W0 w) (hB0 : W0.heap.size ≤ B) (hBs : B ≤ sb) (hn : n ≤ 100000)
    (hx1 : FoIn W0 Bt x.1.fo [v1]) (hx2 : FoIn W0 Bt x.2.fo [v2]) (ho1 : x.1.ok) (ho2 : x.2.ok) :
    Calls Try.prog 64 #[.pointer (some ⟨sb, so, none⟩), .agg #[v1, v2]] w (OpenOut W0 Bt w B sb so (Value.ownBlock (.slice p n c)) st x) := by
  by_cases h3 : x.1.1.1 = 3 ∧ x.2.1.1 = 3
  · obtain ⟨u1, r1, e1, hn1, _⟩ := hx1
    obtain ⟨rfl, rfl⟩ := List.cons.inj e1
    obtain ⟨u2, r2, e2, hn2, _⟩ := hx2
    obtain ⟨rfl, rfl⟩ := List.cons.inj e2
    have comp : ∀ {c : Cel} {k : Fo} {v : Value}, NodeIn W0 Bt c (fun kv => FoIn W0 Bt k kv) v → c.1 = 3 → ∃ b g vs, v = .iface 108 (.pointer (some ⟨b, 0, none⟩)) ∧ CompAt W0 Bt c.2.2 k b g vs := fun {c k v} hn h => by
      rcases hn with ⟨e, _⟩ | ⟨e, _⟩ | ⟨e, _⟩ | ⟨_, b, g, vs, hv, hc⟩
      · omega
      · omega
      · omega
      · exact ⟨b, g, vs, hv, hc⟩
    obtain ⟨b1, g1, vs1, rfl, hc1⟩ := comp hn1 h3.1
    obtain ⟨b2, g2, vs2, rfl, hc2⟩ := comp hn2 h3.2
    exact callsIn_wide.1 (openComp_wide W0 Bt w B sb so p n c st x b1 g1 b2 g2 vs1 vs2 h hW hB0 hBs hn hc1 hc2 ho1 ho2 h3.1 h3.2)
  · exact openLeaf_any W0 Bt w B sb so p n c st x v1 v2 h hx1 hx2 ho1 ho2 h3

/-- A stack of one pair, just made: its row, and its box. -/
theorem Stk.made {W0 : World} {Bt : Nat} (w : World) (x : TT) (v1 v2 : Value) (t : TypeId) (h1 : FoIn W0 Bt x.1.fo [v1]) (h2 : FoIn W0 Bt x.2.fo [v2]) :
    Stk W0 Bt ((w.alloc (.cells #[v1, v2] 91)).alloc (.cells #[.slice (some ⟨w.heap.size, 0, none⟩) 1 1] t)) w.heap.size (w.heap.size + 1) 0 (some ⟨w.heap.size, 0, none⟩) 1 1 [x] := by
  have hb := heap_alloc_new (w.alloc (.cells #[v1, v2] 91)) (.cells #[.slice (some ⟨w.heap.size, 0, none⟩) 1 1] t)
  rw [World.size_alloc] at hb
  have hr : ((w.alloc (.cells #[v1, v2] 91)).alloc (.cells #[.slice (some ⟨w.heap.size, 0, none⟩) 1 1] t)).heap[w.heap.size]? = some (.cells #[v1, v2] 91) := (Below.heap_alloc _ _ _ (by simp)).trans (heap_alloc_new _ _)
  refine ⟨cell_of_row _ _ 0 _ _ _ hb, frozen_of_row _ _ 0 _ _ hb, rfl, ⟨[(v1, v2)], ⟨rfl, .inr ⟨w.heap.size, 1, #[v1, v2], rfl, Nat.le_refl _, hr, Nat.le_refl _, by decide, rfl, rfl⟩⟩, ⟨_, [], rfl, h1, h2, rfl⟩⟩, fun g e => by cases e; omega⟩

set_option maxRecDepth 100000 in
set_option maxHeartbeats 1000000 in
theorem isSame_any (W0 : World) (Bt : Nat) (w : World) (x : TT) (v1 v2 : Value) (hW : Below W0.heap.size W0 w) (hx1 : FoIn W0 Bt x.1.fo [v1]) (hx2 : FoIn W0 Bt x.2.fo [v2]) (ho1 : x.1.ok) (ho2 : x.2.ok) (hl : x.1.2.cells.length ≤ 10000) :
    Calls Try.prog 36 #[v1, v2] w fun e w' => e = .returned (.bool (eqT x)) ∧ Below w.heap.size w w' := by
  obtain ⟨t1, y1, rfl⟩ := FoIn.iface (show FoIn W0 Bt (.node x.1.1 x.1.2 .nil) [v1] from hx1)
  obtain ⟨t2, y2, rfl⟩ := FoIn.iface (show FoIn W0 Bt (.node x.2.1 x.2.2 .nil) [v2] from hx2)
  have HS : Hid _ := Stk.made w x (.iface t1 y1) (.iface t2 y2) 93 hx1 hx2
  have HB : Hid (∀ a b, Below w.heap.size w ((w.alloc a).alloc b)) := fun a b => ((Below.refl _ _).alloc (Nat.le_refl _) _).alloc (by simp) _
  have HW : Hid (Below W0.heap.size W0 w) := hW
  have HOK : Hid (x.1.ok ∧ x.2.ok) := ⟨ho1, ho2⟩
  have HE : Hid (sames [x] = eqT x) := by simp [sames, Hid]
  obtain ⟨R, eR⟩ : ∃ R, R = eqT x := ⟨_, rfl⟩
  rw [← eR] at HE ⊢
  clear hW hx1 hx2 ho1 ho2 eR
  go_enter Try.func36, Try.ntmps36
  go_wp2
  go_loopg [] (load [x]) (fun k wr => ∃ (p : Option Addr) (n c : Nat) (st : List TT), wr.cell? ⟨w.heap.size + 1, 0, none⟩ = some (.slice p n c) ∧ n ≤ 100000 ∧ Hid (Stk W0 Bt wr w.heap.size (w.heap.size + 1) 0 p n c st ∧ (∀ y ∈ st, y.1.ok ∧ y.2.ok) ∧ load st = k ∧ k ≤ 20000 ∧ sames st = R ∧ Below w.heap.size w wr))
  case atStart => exact ⟨_, _, _, [x], HS.out.cell, by decide, HS.out, fun y hy => by rw [List.mem_singleton.1 hy]; exact HOK.out, rfl, by simp [load]; omega, HE.out, HB.out _ _⟩
  case round =>
    obtain ⟨p, n, c, st, hcell, hn, HR⟩ := hrel
    rcases List.eq_nil_or_concat st with rfl | ⟨st', y, rfl⟩
    · have hn0 : n = 0 := HR.out.1.len
      subst hn0
      have HF : Hid (R = true) := HR.out.2.2.2.2.1.symm
      go_wp2
      go_ret
      exact ⟨ret_bool HF.out.symm, HR.out.2.2.2.2.2⟩
    · rw [List.concat_eq_append] at HR
      have hst := HR.out.1
      have hlen := hst.len
      have hn1 : n = st'.length + 1 := by rw [hlen]; simp
      have hpos : (0 : Int) < (n : Int) := by omega
      have HT := take_any W0 Bt wr w.heap.size (w.heap.size + 1) 0 p n c st' y (by omega) hst
      have hoy : y.1.ok ∧ y.2.ok := HR.out.2.1 y (by simp)
      have HOY : Hid (y.1.ok ∧ y.2.ok) := hoy
      have HBwr : Hid (w.heap.size + 1 < wr.heap.size) := World.block_lt_of_cell? _ _ hcell
      have hrl : ∀ k, Value.ownBlock (.slice p n c) = some k → w.heap.size ≤ k := fun k e => by
        obtain ⟨_, hr, _⟩ := hst.row
        exact (hr.lt k e).1
      have HRL : Hid (∀ k, Value.ownBlock (.slice p n c) = some k → w.heap.size ≤ k) := hrl
      have HN1 : Hid (n = st'.length + 1) := hn1
      clear hst hlen hn1 hoy hrl
      go_wp2_with fail
      refine HT.mono ?_
      rintro e w1 ⟨v1, v2, rfl, f1, f2, ⟨p', n', c', hs', hrow'⟩, hk⟩
      have hB1 : Below w.heap.size w w1 := HR.out.2.2.2.2.2.trans (hk.below (by omega) (fun k e => by cases e) (by have := HBwr.out; omega))
      have HO := open_any W0 Bt w1 w.heap.size (w.heap.size + 1) 0 p' n' c' st' y v1 v2 hs' (HW.out.trans (hB1.mono HW.out.size)) HW.out.size (by omega) (by have := hs'.len; have := HN1.out; omega) f1 f2 HOY.out.1 HOY.out.2
      have HRL' : Hid (∀ k, Value.ownBlock (.slice p' n' c') = some k → w.heap.size ≤ k) := by show ∀ k, _ → _; rw [hrow']; exact HRL.out
      have HB1 : Hid (Below w.heap.size w w1) := hB1
      clear hs' hrow' hk hB1 HT f1 f2
      by_cases hy : y.1.1 = y.2.1
      · have hd : decide (y.1.1 = y.2.1) = true := by simpa using hy
        unfold OpenOut at HO
        rw [hd] at HO
        have HLD : Hid (load (st' ++ opened y) < gk ∧ sames (st' ++ opened y) = R ∧ (∀ z ∈ st' ++ opened y, z.1.ok ∧ z.2.ok)) := by
          obtain ⟨_, h2, h3, _, h5, _⟩ := HR.out
          refine ⟨?_, ?_, ?_⟩
          · have := load_opened y
            rw [← h3, load_append, load_append]
            simp [load]; omega
          · rw [sames_open _ _ hy (ok_count HOY.out.1 HOY.out.2 hy)]; exact h5
          · intro z hz
            rcases List.mem_append.1 hz with hz | hz
            · exact h2 z (by simp [hz])
            · exact opened_ok HOY.out.1 HOY.out.2 z hz
        clear hd hy
        go_wp2_with fail
        refine HO.mono ?_
        rintro e w2 ⟨rfl, ⟨p2, n2, c2, hs2, _⟩, hk2⟩
        have HS2 : Hid _ := hs2
        have HB2 : Hid (Below w.heap.size w w2) := HB1.out.trans (hk2.below (by omega) HRL'.out (by have := HB1.out.size; omega))
        clear hk2 HO hs2
        go_wp2_with fail
        go_roundg (load (st' ++ opened y))
        case measure => exact HLD.out.1
        case rel =>
          have h4 := HR.out.2.2.2.1
          have h1 := HLD.out.1
          exact ⟨p2, n2, c2, st' ++ opened y, HS2.out.cell, by have := HS2.out.len; have := len_load (st' ++ opened y); omega, HS2.out, HLD.out.2.2, rfl, by omega, HLD.out.2.1, HB2.out⟩
      · have hd : decide (y.1.1 = y.2.1) = false := by simpa using hy
        unfold OpenOut at HO
        rw [hd] at HO
        have HF : Hid (R = false) := by show _ = _; rw [← HR.out.2.2.2.2.1, sames_no _ _ hy]
        clear hd hy
        go_wp2_with fail
        refine HO.mono ?_
        rintro e w2 ⟨rfl, _, hk2⟩
        have HB2 : Hid (Below w.heap.size w w2) := HB1.out.trans (hk2.below (by omega) HRL'.out (by have := HB1.out.size; omega))
        clear hk2 HO
        go_wp2_with fail
        go_ret
        exact ⟨ret_bool HF.out.symm, HB2.out⟩

end Go.Proofs.Ytjbckdmlogjggaa
