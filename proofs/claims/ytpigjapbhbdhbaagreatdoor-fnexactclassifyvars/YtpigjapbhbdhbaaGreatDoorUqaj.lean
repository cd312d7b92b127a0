/- Texts of IntM, Vars4, CArg, Ren1. Own work of the verifier. -/
import Derived.Test.YtpigjapbhbdhbaaGreatDoorUqah
import Derived.LoopN
import Derived.Test.YtpigjapbhbdhbaaGreatDoorUqai
import Derived.Test.YtpigjapbhbdhbaaGreatDoorUqad
namespace Go.Proofs.YtpigjapbhbdhbaaGreatDoor
open Go Go.RowKit Go.Maps
set_option linter.unusedVariables false
def ups (k : Int) (n : Nat) : List Int := (List.range n).map fun (i : Nat) => k + (i : Int)
theorem ups_len (k : Int) (n : Nat) : (ups k n).length = n := by simp [ups]
theorem ups_at (k : Int) (n i : Nat) (h : i < n) : (ups k n).getD i 0 = k + i := by simp [ups, List.getD, h]
theorem markIntS_any (B : Nat) (p : Option Addr) (n c : Nat) (k : Int) (xs : List Int) (w : World) (h0 : 0 ≤ k) (h1 : k ≤ 1000000000000) (hn : n ≤ 1000000000) (hown : OwnI w B 3 p n c xs) :
    Calls Tryz.prog 11 #[.slice p n c, .int .i64 k] w fun e w' => e = .returned (.int .i64 (k + n)) ∧ OwnI w' B 3 p n c (ups k n) ∧ w.grownBy w' (Value.ownBlock (.slice p n c)) := by
  rcases hown.2.2 with ⟨hv, h00⟩ | ⟨g, cap, cur, hv, hbg, hg, _⟩
  · simp only [Value.slice.injEq] at hv
    obtain ⟨rfl, rfl, rfl⟩ := hv
    clear hown
    go_enter Tryz.func11, Tryz.ntmps11
    go_wp2
    refine wp_loop_rounds 1 ?_
    rw [rounds_succ]
    go_wp2
    go_ret
    exact ⟨by simp, OwnI.nil _ _ _, ⟨rfl, rfl, rfl, Nat.le_refl _, fun _ _ _ => rfl⟩⟩
  · simp only [Value.slice.injEq, true_and] at hv
    obtain ⟨rfl, rfl⟩ := hv
    have HN : Hid (n = xs.length) := hown.1
    have HO : Hid (w.ownsRow B 3 1 (.slice (some ⟨g, 0, none⟩) n c) n (xs.map (Value.int .i64))) := hown.2
    clear hown hg
    go_enter Tryz.func11, Tryz.ntmps11
    go_wp2_with fail
    go_loopw [1, 5] (fun q i wr => ∃ j : Nat, j ≤ n ∧ i = .int .i64 j ∧ q = .int .i64 (k + j) ∧ Hid (wr.ownsRow B 3 1 (.slice (some ⟨g, 0, none⟩) n c) n ((ups k j ++ xs.drop j).map (Value.int .i64))) ∧ Hid (w.grownBy wr (some g))) (fun _ i _ => n - (intOf i).toNat)
    case atStart => exact ⟨0, Nat.zero_le _, rfl, by simp, by simpa [ups] using HO, ⟨rfl, rfl, rfl, Nat.le_refl _, fun _ _ _ => rfl⟩⟩
    case round =>
      obtain ⟨j, hj, rfl, rfl, HR, HG⟩ := hrel
      by_cases hlt : j < n
      · have hxl := HN.out
        have hd : ∃ z, wr.cell? ⟨g, j, none⟩ = some (.int .i64 z) := by
          rw [HR.out.cellAt j (by omega)]
          simp only [List.getElem?_map]
          have : j < (ups k j ++ xs.drop j).length := by simp [ups_len]; omega
          rw [List.getElem?_eq_getElem this]
          exact ⟨_, rfl⟩
        obtain ⟨z, hd⟩ := hd
        have hf := HR.out.frozenAt j
        have HS : Hid ((wr.setCell ⟨g, j, none⟩ (.int .i64 (k + j))).ownsRow B 3 1 (.slice (some ⟨g, 0, none⟩) n c) n ((ups k (j + 1) ++ xs.drop (j + 1)).map (Value.int .i64)) ∧ wr.grownBy (wr.setCell ⟨g, j, none⟩ (.int .i64 (k + j))) (some g)) := by
          have hs := HR.out.stored j (.int .i64 (k + j))
          have e : ((ups k j ++ xs.drop j).map (Value.int .i64)).set j (.int .i64 (k + j)) = (ups k (j + 1) ++ xs.drop (j + 1)).map (Value.int .i64) := by
            have e1 : j - ((ups k j).map (Value.int IntKind.i64)).length = 0 := by simp [ups_len]
            rw [List.map_append, List.set_append_right _ _ (by simp [ups_len]), e1, List.drop_eq_getElem_cons (by omega), List.map_cons, List.set_cons_zero]
            simp [ups, List.range_succ]
          rw [e] at hs
          exact hs
        clear hxl
        go_wp2_with fail
        go_roundw
        case rel => exact ⟨j + 1, by omega, by go_num, by simp; omega, HS.out.1, HG.out.trans HS.out.2⟩
        case measure => simp [intOf]; omega
      · obtain rfl : j = n := by omega
        go_wp2_with fail
        go_ret
        refine ⟨rfl, ⟨(ups_len _ _).symm, ?_⟩, HG.out⟩
        have := HR.out
        rw [List.drop_eq_nil_of_le (by rw [← HN.out]; exact Nat.le_refl _), List.append_nil] at this
        exact this
theorem heldIntS_any (p : Option Addr) (n c : Nat) (k : Int) (w : World) (h0 : 0 ≤ k) (h1 : k ≤ 1000000000000) (hn : n ≤ 1000000000) (hin : IIn w p (ups k n)) :
    Calls Tryz.prog 12 #[.slice p n c, .int .i64 k] w fun e w' => e = .returned (.int .i64 (k + n)) ∧ w' = w := by
  have HI : Hid (IIn w p (ups k n)) := hin
  clear hin
  go_enter Tryz.func12, Tryz.ntmps12
  go_wp2_with fail
  go_loop [1, 5] (fun q i => ∃ j : Nat, j ≤ n ∧ i = .int .i64 j ∧ q = .int .i64 (k + j)) (fun _ i => n - (intOf i).toNat)
  case atStart => exact ⟨0, Nat.zero_le _, rfl, by simp⟩
  case round =>
    obtain ⟨j, hj, rfl, rfl⟩ := hrel
    by_cases hlt : j < n
    · obtain ⟨b, o, rfl, hc⟩ := HI.out (by rw [ups_len]; omega)
      have hx := hc j (by rw [ups_len]; exact hlt)
      rw [ups_at k n j hlt] at hx
      clear hc
      go_wp2_with fail
      go_round
      case rel => exact ⟨j + 1, by omega, by go_num, by simp; omega⟩
      case measure => simp [intOf]; omega
    · obtain rfl : j = n := by omega
      go_wp2_with fail
      go_ret
      exact ⟨rfl, rfl⟩
end Go.Proofs.YtpigjapbhbdhbaaGreatDoor

namespace Go.Proofs.YtpigjapbhbdhbaaGreatDoor
open Go Go.RowKit Go.Maps
set_option linter.unusedVariables false
theorem eqIntS_any (p q : Option Addr) (n m c1 c2 : Nat) (xs : List Int) (w : World) (hn : n = xs.length) (hm : m = xs.length) (hl : n ≤ 1000000) (hx : IIn w p xs) (hy : IIn w q xs) :
    Calls Tryz.prog 8 #[.slice p n c1, .slice q m c2] w fun e w' => e = .returned (.bool true) ∧ ∃ k, w' = w.drewN k := by
  obtain rfl : m = n := by omega
  have HN : Hid (m = xs.length) := hn
  have HX : Hid (IIn w p xs) := hx
  have HY : Hid (IIn w q xs) := hy
  clear hn hm hx hy
  go_enter Tryz.func8, Tryz.ntmps8
  go_wp2_with fail
  go_loopw [5] (fun i wr => ∃ k d : Nat, k ≤ m ∧ i = .int .i64 k ∧ Hid (wr = w.drewN d)) (fun i _ => m - (intOf i).toNat)
  case atStart => exact ⟨0, 0, Nat.zero_le _, rfl, rfl⟩
  case round =>
    obtain ⟨k, d, hk, rfl, HW⟩ := hrel
    by_cases hlt : k < m
    · have hkl : k < xs.length := by rw [← HN.out]; exact hlt
      obtain ⟨b, o, rfl, hcx⟩ := HX.out (by omega)
      obtain ⟨b', o', rfl, hcy⟩ := HY.out (by omega)
      have h1 : wr.cell? ⟨b, o + k, none⟩ = some (.int .i64 (xs.getD k 0)) := by rw [HW.out]; exact hcx k hkl
      have h2 : wr.cell? ⟨b', o' + k, none⟩ = some (.int .i64 (xs.getD k 0)) := by rw [HW.out]; exact hcy k hkl
      obtain ⟨x, ex⟩ : ∃ x, x = xs.getD k 0 := ⟨_, rfl⟩
      rw [← ex] at h1 h2
      clear ex hcx hcy
      go_wp2_with fail
      go_region
      all_goals go_wp2_with fail
      all_goals go_roundw
      case rel => exact ⟨k + 1, d + 1, by omega, by go_num, by rw [HW.out]; rfl⟩
      case measure => simp [intOf]; omega
    · obtain rfl : k = m := by omega
      go_wp2_with fail
      go_ret
      exact ⟨rfl, d, HW.out⟩
end Go.Proofs.YtpigjapbhbdhbaaGreatDoor

namespace Go.Proofs.YtpigjapbhbdhbaaGreatDoor
open Go Go.RowKit
set_option linter.unusedVariables false
structure CArg (w : World) (p : Option Addr) (cs : List Cel) : Prop where
  lies : CIn w p cs
  len : cs.length ≤ 9223372036854775807
  text : ∀ i, i < cs.length → (cs.getD i Cel.none).2.2.length ≤ 9223372036854775807
  byte : ∀ i, i < cs.length → ∀ x ∈ (cs.getD i Cel.none).2.2, 0 ≤ x ∧ x < 256
  wide : ∀ i, i < cs.length → -9223372036854775808 ≤ (cs.getD i Cel.none).1 ∧ (cs.getD i Cel.none).1 ≤ 9223372036854775807 ∧ -9223372036854775808 ≤ (cs.getD i Cel.none).2.1 ∧ (cs.getD i Cel.none).2.1 ≤ 9223372036854775807
theorem CArg.below {W W' : World} {p : Option Addr} {cs : List Cel} (h : CArg W p cs) (hb : Below W.heap.size W W') : CArg W' p cs := ⟨h.lies.below hb, h.len, h.text, h.byte, h.wide⟩
end Go.Proofs.YtpigjapbhbdhbaaGreatDoor

namespace Go.Proofs.YtpigjapbhbdhbaaGreatDoor
open Go Go.RowKit Go.Maps
set_option linter.unusedVariables false
def Fo.map (f : Cel → Cel) : Fo → Fo
  | .nil => .nil
  | .node c k r => .node (f c) (k.map f) (r.map f)
theorem Fo.cells_map (f : Cel → Cel) : ∀ F : Fo, (F.map f).cells = F.cells.map f
  | .nil => rfl
  | .node c k r => by simp [Fo.map, Fo.cells, Fo.cells_map f k, Fo.cells_map f r]
theorem Fo.count_map (f : Cel → Cel) : ∀ F : Fo, (F.map f).count = F.count
  | .nil => rfl
  | .node c k r => by simp [Fo.map, Fo.count, Fo.count_map f r]
theorem Fo.map_cat (f : Cel → Cel) : ∀ a b : Fo, (a.cat b).map f = (a.map f).cat (b.map f)
  | .nil, b => rfl
  | .node c k r, b => by simp [Fo.cat, Fo.map, Fo.map_cat f r b]
def renI (L : List Int) (c : Cel) : Cel := if c.1 = 0 then (c.1, ((L.idxOf c.2.1 : Nat) : Int), c.2.2) else c
theorem renI_kind (L : List Int) (c : Cel) : (renI L c).1 = c.1 := by unfold renI; split <;> rfl
theorem renI_text (L : List Int) (c : Cel) : (renI L c).2.2 = c.2.2 := by unfold renI; split <;> rfl
theorem renI_ok {L : List Int} (hL : L.length ≤ 1000000) {c : Cel} (h : cellB c.1 c.2.1 c.2.2.length = true) : cellB (renI L c).1 (renI L c).2.1 (renI L c).2.2.length = true := by
  by_cases h0 : c.1 = 0
  · have := List.idxOf_le_length (l := L) (a := c.2.1)
    have hl : c.2.2.length = 0 := by
      rw [h0] at h
      simp only [cellB, decide_eq_true_eq] at h
      omega
    rw [renI, if_pos h0]
    simp only [cellB, decide_eq_true_eq]
    exact .inl ⟨h0, by omega, by omega, hl⟩
  · rw [renI, if_neg h0]; exact h
theorem Fo.ok_ren {L : List Int} (hL : L.length ≤ 1000000) : ∀ F : Fo, F.ok → (F.map (renI L)).ok
  | .nil, _ => trivial
  | .node c k r, ⟨h1, h2, h3, h4, h5, h6⟩ => by
    refine ⟨renI_ok hL h1, by rw [renI_text]; exact h2, fun e => ?_, fun e => ?_, Fo.ok_ren hL k h5, Fo.ok_ren hL r h6⟩
    · rw [renI_kind] at e
      rw [Fo.count_map, renI, if_neg (by rw [e]; decide)]
      exact h3 e
    · rw [renI_kind] at e
      rw [h4 e]; rfl
theorem idxOf_prefix {a b : List Int} (h : a <+: b) {x : Int} (hx : x ∈ a) : b.idxOf x = a.idxOf x := by
  obtain ⟨t, rfl⟩ := h
  rw [List.idxOf_append, if_pos hx]
theorem putV_prefix (ks : List Int) (x : Int) : ks <+: putV ks x := by unfold putV; split; exact List.prefix_rfl; exact List.prefix_append _ _
theorem putV_mem (ks : List Int) (x : Int) : x ∈ putV ks x := by unfold putV; split; assumption; simp
theorem putV_idx (ks : List Int) (x : Int) : (putV ks x).idxOf x = ks.idxOf x := by
  unfold putV
  split
  · rfl
  · rename_i h
    rw [List.idxOf_append, if_neg h, List.idxOf_eq_length h]; simp
theorem visitL_prefix (ks : List Int) (c : Cel) : ks <+: visitL ks c := by unfold visitL; split; exact putV_prefix _ _; exact List.prefix_rfl
theorem visits_prefix : ∀ (cs : List Cel) (ks : List Int), ks <+: visits ks cs
  | [], ks => List.prefix_rfl
  | c :: r, ks => (visitL_prefix ks c).trans (visits_prefix r (visitL ks c))
structure RState (w : World) (nb mb : Nat) (ks : List Int) : Prop where
  ncell : w.cell? ⟨nb, 0, none⟩ = some (.map (some mb))
  map : NumMap w mb ks
theorem RState.ne {w : World} {nb mb : Nat} {ks : List Int} (h : RState w nb mb ks) : nb ≠ mb := fun e => by
  obtain ⟨D, ⟨es, clock, hb, _⟩, _⟩ := h.map
  have := h.ncell
  rw [e] at this
  simp [World.cell?, hb] at this
theorem RState.below {w w' : World} {nb mb : Nat} {ks : List Int} (h : RState w nb mb ks) (hb : Below w.heap.size w w') : RState w' nb mb ks :=
  ⟨(hb.cell (World.block_lt_of_cell? _ _ h.ncell)).trans h.ncell, h.map.of_block (hb.block _ h.map.lt)⟩
theorem FoIn.kept {w w' : World} {B mb : Nat} {F : Fo} {vs : List Value} (h : FoIn w B F vs) (hg : w.grownBy w' (some mb)) (hm : mb < B) : FoIn w' B F vs :=
  FoIn.imp (Nat.le_refl _) (fun b o hb hlt => World.cell?_of_block (w := w) (a := ⟨b, o, none⟩) (hg.block b hlt (fun e => by have := Option.some.inj e; omega))) hg.size F vs h
theorem grown_set {w w' : World} {row : Option Nat} (h : w.grownBy w' row) {a : Addr} (ha : w.heap.size ≤ a.block) (u : Value) : w.grownBy (w'.setCell a u) row :=
  ⟨h.os, h.tape, h.output, by simpa using h.size, fun k hk hr => (Below.heap_setCell _ _ _ _ (by omega)).trans (h.block k hk hr)⟩
theorem grown_alloc {w w' : World} {row : Option Nat} (h : w.grownBy w' row) (o : Obj) : w.grownBy (w'.alloc o) row :=
  ⟨h.os, h.tape, h.output, by have := h.size; simp; omega, fun k hk hr => (Below.heap_alloc _ _ _ (by have := h.size; omega)).trans (h.block k hk hr)⟩
theorem grown_below {B : Nat} {w w' : World} {mb : Nat} (hg : w.grownBy w' (some mb)) (hB : B ≤ w.heap.size) (hm : B ≤ mb) : Below B w w' := (Below.refl _ _).grown hg hB (fun k e => by cases e; exact hm)
set_option maxRecDepth 100000 in
theorem with_any (x : Int) (nb mb : Nat) (ks : List Int) (w : World) (h0 : 0 ≤ x) (h1 : x ≤ 1000000) (hl : ks.length ≤ 100000) (hs : RState w nb mb ks) :
    Calls Tryz.prog 139 #[.int .i64 x, .pointer (some ⟨nb, 0, none⟩)] w fun e w' => e = .returned (.iface 72 (.int .i64 (ks.idxOf x))) ∧ RState w' nb mb (putV ks x) ∧ w.grownBy w' (some mb) := by
  have HOF := of_any mb ks x w h0 h1 (by omega) hs.map
  have c1 := hs.ncell
  have hne := hs.ne
  have HNE : Hid (nb ≠ mb) := hne
  have HC : Hid _ := c1
  clear hs hne
  go_enter Tryz.func139, Tryz.ntmps139
  go_wp2_with fail
  refine HOF.mono ?_
  rintro e w1 ⟨rfl, hm, hg⟩
  go_wp2_with fail
  go_ret
  exact ⟨rfl, ⟨(World.cell?_of_block (w := w) (a := ⟨nb, 0, none⟩) (hg.block nb (World.block_lt_of_cell? _ _ HC.out) (fun e => HNE.out (Option.some.inj e)))).trans HC.out, hm⟩, hg⟩
def ReplOut (w : World) (nb mb : Nat) (ks : List Int) (c : Cel) (k : Fo) (e : Ending) (w' : World) : Prop :=
  ∃ v, e = .returned v ∧ RState w' nb mb (visits ks (c :: k.cells)) ∧ w.grownBy w' (some mb) ∧ ∀ L, visits ks (c :: k.cells) <+: L → FoIn w' w.heap.size (.node (renI L c) (k.map (renI L)) .nil) [v]
set_option maxRecDepth 100000 in
set_option maxHeartbeats 1000000 in
theorem replace_any : ∀ (N : Nat) (c : Cel) (k : Fo) (v : Value) (Bt nb mb : Nat) (ks : List Int) (w0 w : World), k.cells.length ≤ N → (Fo.node c k .nil).ok → FoIn w0 Bt (.node c k .nil) [v] → Below w0.heap.size w0 w → w0.heap.size ≤ mb → RState w nb mb ks → ks.length + 1 + k.cells.length ≤ 100000 →
    Calls Tryz.prog 111 #[v, .func (.func 139) #[] #[.pointer (some ⟨nb, 0, none⟩)]] w (ReplOut w nb mb ks c k) := by
  intro N
  induction N using Nat.strongRecOn with
  | _ N ih =>
    intro c k v Bt nb mb ks w0 w hN hok hfo hw hmb hs hlen
    obtain ⟨v', vr, e, hnode, _⟩ := hfo
    obtain ⟨rfl, rfl⟩ := List.cons.inj e
    rcases hnode with ⟨h0, rfl⟩ | ⟨h0, rfl⟩ | ⟨h0, rfl⟩ | ⟨h0, b, g, vs, rfl, hcomp⟩
    · have hk : k = .nil := hok.2.2.2.1 (by rw [h0]; decide)
      subst hk
      have hx : 0 ≤ c.2.1 ∧ c.2.1 ≤ 1000000 := by have := hok.1; rw [h0] at this; simp [cellB] at this; omega
      have HW := with_any c.2.1 nb mb ks w hx.1 hx.2 (by omega) hs
      have HF : Hid (∀ w', RState w' nb mb (putV ks c.2.1) → w.grownBy w' (some mb) → ReplOut w nb mb ks c .nil (.returned (.iface 72 (.int .i64 (ks.idxOf c.2.1)))) w') := fun w' h1 h2 => by
        have e1 : visits ks (c :: Fo.nil.cells) = putV ks c.2.1 := by simp [visits, Fo.cells, visitL, h0]
        refine ⟨_, rfl, by rw [e1]; exact h1, h2, fun L hL => ⟨_, [], rfl, .inl ⟨by rw [renI_kind]; exact h0, ?_⟩, rfl⟩⟩
        rw [e1] at hL
        rw [renI, if_pos h0, idxOf_prefix hL (putV_mem _ _), putV_idx]
      obtain ⟨x, ex⟩ : ∃ x, x = c.2.1 := ⟨_, rfl⟩
      obtain ⟨ix, ei⟩ : ∃ ix, ix = ks.idxOf c.2.1 := ⟨_, rfl⟩
      rw [← ei] at HW HF
      rw [← ex] at HW HF ⊢
      have n1 := isVar
      clear ih hok hw hs hx ex ei e hlen
      go_enter Tryz.func111, Tryz.ntmps111
      go_wp2_with fail
      refine HW.mono ?_
      rintro e w1 ⟨rfl, h1, h2⟩
      go_wp2_with fail
      go_ret
      exact HF.out _ h1 h2
    · have hk : k = .nil := hok.2.2.2.1 (by rw [h0]; decide)
      subst hk
      have n1 := noVar_num
      have n2 := noComp_num
      have hv : visits ks (c :: Fo.nil.cells) = ks := by simp [visits, Fo.cells, visitL, h0]
      have HF : Hid (ReplOut w nb mb ks c .nil (.returned (.iface 113 (.int .i64 c.2.1))) w) := ⟨_, rfl, by rw [hv]; exact hs, ⟨rfl, rfl, rfl, Nat.le_refl _, fun _ _ _ => rfl⟩, fun L _ => ⟨_, [], rfl, .inr (.inl ⟨by rw [renI_kind]; exact h0, by rw [renI, if_neg (by rw [h0]; decide)]⟩), rfl⟩⟩
      obtain ⟨x, ex⟩ : ∃ x, x = Value.int .i64 c.2.1 := ⟨_, rfl⟩
      rw [← ex] at HF ⊢
      clear ih hok hw hs ex e hlen hv
      go_enter Tryz.func111, Tryz.ntmps111
      go_wp2_with fail
      go_ret
      exact HF.out
    · have hk : k = .nil := hok.2.2.2.1 (by rw [h0]; decide)
      subst hk
      have n1 := noVar_atom
      have n2 := noComp_atom
      have hv : visits ks (c :: Fo.nil.cells) = ks := by simp [visits, Fo.cells, visitL, h0]
      have HF : Hid (ReplOut w nb mb ks c .nil (.returned (.iface 107 (.string (strOfNums c.2.2)))) w) := ⟨_, rfl, by rw [hv]; exact hs, ⟨rfl, rfl, rfl, Nat.le_refl _, fun _ _ _ => rfl⟩, fun L _ => ⟨_, [], rfl, .inr (.inr (.inl ⟨by rw [renI_kind]; exact h0, by rw [renI, if_neg (by rw [h0]; decide)]⟩)), rfl⟩⟩
      obtain ⟨x, ex⟩ : ∃ x, x = Value.string (strOfNums c.2.2) := ⟨_, rfl⟩
      rw [← ex] at HF ⊢
      clear ih hok hw hs ex e hlen hv
      go_enter Tryz.func111, Tryz.ntmps111
      go_wp2_with fail
      go_ret
      exact HF.out
    · have n1 := noVar_comp
      have n2 := isComp
      have HC : Hid (CompAt w0 Bt c.2.2 k b g vs) := hcomp
      have hvl2 : vs.length = k.count := FoIn.count _ _ hcomp.2.2.2.2.2.2
      obtain ⟨q, eq⟩ : ∃ q, q = vs.length := ⟨_, rfl⟩
      have HE : Hid (q = vs.length ∧ vs.length = k.count) := ⟨eq, hvl2⟩
      have hq : q ≤ 100000 := by have := Fo.count_le k; omega
      have HK : Hid k.ok := hok.2.2.2.2.1
      have d0 := (hw.cell (World.block_lt_of_cell? _ _ hcomp.2.2.1)).trans hcomp.2.2.1
      have d1 := (hw.cell (World.block_lt_of_cell? _ _ hcomp.2.2.2.1)).trans hcomp.2.2.2.1
      rw [← eq] at d1
      have HBB : Hid (b < w0.heap.size) := World.block_lt_of_cell? _ _ hcomp.2.2.1
      have hv0 : visitL ks c = ks := by rw [visitL, if_neg (by rw [h0]; decide)]
      have HV0 : Hid (∀ cs, visits ks (c :: cs) = visits ks cs) := fun cs => by rw [visits_cons, hv0]
      have HS : Hid (RState w nb mb ks) := hs
      have HW : Hid (Below w0.heap.size w0 w) := hw
      have HIH : Hid _ := ih
      have hml := hs.map.lt
      have hnl : nb < w.heap.size := World.block_lt_of_cell? _ _ hs.ncell
      have HREN : Hid (∀ L, renI L c = c) := fun L => by rw [renI, if_neg (by rw [h0]; decide)]
      have H0 : Hid (c.1 = 3) := h0
      obtain ⟨str, es⟩ : ∃ str, str = strOfNums c.2.2 := ⟨_, rfl⟩
      rw [← es] at d0
      have HES : Hid (str = strOfNums c.2.2) := es
      obtain ⟨i0, hi, hz0, hz1, hz2⟩ := info_parts infoTerm
      have hmx : q ≤ maxLen := by unfold maxLen; omega
      clear ih hok hw hs e hcomp eq hvl2 hv0 es h0
      go_enter Tryz.func111, Tryz.ntmps111
      go_wp2_with (at_make; refine wpList_make_full _ rfl _ _ 71 rfl w.heap.size 45 i0 .nilIface 1 Tryz.underlying71 hi hz0 hz1 _ _ _ _ q rfl rfl rfl rfl (by rw [hz2]; omega) hmx (Nat.le_refl _) ?_; intro w1 hown hgrow; have d0' := ((World.cell?_of_block (w := w) (a := ⟨b, 0, none⟩) (hgrow.block b (World.block_lt_of_cell? _ _ d0) (fun h => by cases h)))).trans d0; have d1' := ((World.cell?_of_block (w := w) (a := ⟨b, 1, none⟩) (hgrow.block b (World.block_lt_of_cell? _ _ d1) (fun h => by cases h)))).trans d1)
      have HO1 : Hid (w1.ownsRow w.heap.size 45 1 (.slice (some ⟨w.heap.size, 0, none⟩) q q) q ([] ++ List.replicate (q - 0) .nilIface)) := by
        have := hown
        simp [Value.cells, toList_madeCells_one] at this
        exact this
      have HG1 : Hid (w.grownBy w1 (some mb)) := ⟨hgrow.os, hgrow.tape, hgrow.output, hgrow.size, fun k hk _ => hgrow.block k hk (fun h => by cases h)⟩
      have HS1 : Hid (RState w1 nb mb ks) := HS.out.below ((Below.refl _ _).grown hgrow (Nat.le_refl _) (fun k h => by cases h))
      have hs1 : w.heap.size + 1 ≤ w1.heap.size := by have := (hown.lt w.heap.size rfl).2; omega
      clear hown hgrow hi hz0 hz1 hz2 d0 d1 d0' d1'
      go_loopw [31] (fun i wr => ∃ (D R : Fo) (us vs2 ns : List Value) (j : Nat), j ≤ q ∧ i = .int .i64 j ∧ Hid (k = D.cat R ∧ vs = us ++ vs2 ∧ us.length = j ∧ ns.length = j) ∧ Hid (FoIn w0 Bt R vs2) ∧ Hid (RState wr nb mb (visits ks D.cells)) ∧
        Hid (wr.ownsRow w.heap.size 45 1 (.slice (some ⟨w.heap.size, 0, none⟩) q q) q (ns ++ List.replicate (q - j) .nilIface)) ∧ Hid (∀ L, visits ks D.cells <+: L → FoIn wr (w.heap.size + 1) (D.map (renI L)) ns) ∧ Hid (w.grownBy wr (some mb)) ∧ w.heap.size + 1 ≤ wr.heap.size) (fun i _ => q - (intOf i).toNat)
      case atStart => exact ⟨.nil, k, [], vs, [], 0, Nat.zero_le _, rfl, ⟨rfl, rfl, rfl, rfl⟩, HC.out.2.2.2.2.2.2, HS1, HO1, fun L _ => rfl, HG1, hs1⟩
      case round =>
        obtain ⟨D, R, us, vs2, ns, j, hj, rfl, HF, HR, HST, HO, HFO, HG, hsz⟩ := hrel
        have hwr : Below w0.heap.size w0 wr := HW.out.trans (grown_below HG.out HW.out.size hmb)
        by_cases hlt : j < q
        · obtain ⟨c', k', r', rfl⟩ : ∃ c' k' r', R = .node c' k' r' := by
            cases R with
            | nil =>
              have h1 := HF.out
              have h2 : vs2 = [] := HR.out
              have h3 := HE.out.1
              rw [h1.2.1, h2, List.append_nil] at h3
              omega
            | node c' k' r' => exact ⟨c', k', r', rfl⟩
          obtain ⟨v, vr, rfl, hnode, hrest⟩ := HR.out
          have hok2 := (Fo.ok_cat D (.node c' k' r')).1 (HF.out.1 ▸ HK.out)
          have hl2 : D.cells.length + (k'.cells.length + r'.cells.length + 1) = k.cells.length := by
            rw [HF.out.1, Fo.cells_cat]; simp [Fo.cells]
          have hat : w0.cell? ⟨g, j, none⟩ = some v := by
            rw [HC.out.2.2.2.2.2.1 j (by rw [← HE.out.1]; exact hlt), HF.out.2.1]
            simp [List.getD, HF.out.2.2.1]
          have c5 : wr.cell? ⟨g, j, none⟩ = some v := (hwr.cell (World.block_lt_of_cell? _ _ hat)).trans hat
          have HRC := HIH.out k'.cells.length (by omega) c' k' v Bt nb mb (visits ks D.cells) w0 wr (Nat.le_refl _) ⟨hok2.2.1, hok2.2.2.1, hok2.2.2.2.1, hok2.2.2.2.2.1, hok2.2.2.2.2.2.1, trivial⟩ ⟨v, [], rfl, hnode, rfl⟩ hwr hmb HST.out (by have := visits_len D.cells ks; omega)
          obtain ⟨vt, vx, rfl⟩ := hnode.iface
          have HRR : Hid (FoIn w0 Bt r' vr) := hrest
          clear hok2 hl2 hat hwr hnode hrest HIH
          go_wp2_with fail
          refine HRC.mono ?_
          rintro e w3 ⟨v3, rfl, hst3, hg3, hfo3⟩
          obtain ⟨nt, nx, rfl⟩ := (hfo3 _ List.prefix_rfl).iface
          have hbG : w3.heap[w.heap.size]? = wr.heap[w.heap.size]? := hg3.block w.heap.size (by omega) (fun e => by have := Option.some.inj e; omega)
          have e0 : w3.cell? ⟨w.heap.size, j, none⟩ = some .nilIface := by
            rw [World.cell?_of_block (w := wr) (a := ⟨w.heap.size, j, none⟩) hbG, HO.out.cellAt j (by omega), List.getElem?_append_right (by have := HF.out.2.2.2; omega), List.getElem?_replicate, if_pos (by have := HF.out.2.2.2; omega)]
          have e1 : w3.frozen? ⟨w.heap.size, j, none⟩ = false := (World.frozen?_of_block (w := wr) (a := ⟨w.heap.size, j, none⟩) hbG).trans (HO.out.frozenAt j)
          have HO3 : Hid (w3.ownsRow w.heap.size 45 1 (.slice (some ⟨w.heap.size, 0, none⟩) q q) q (ns ++ List.replicate (q - j) .nilIface)) := HO.out.kept hg3 (.inr (fun e => by have := Option.some.inj e; simp at this; omega))
          have HN : Hid (k = (D.cat (.node c' k' .nil)).cat r' ∧ vs = (us ++ [Value.iface vt vx]) ++ vr ∧ (us ++ [Value.iface vt vx]).length = j + 1 ∧ (ns ++ [Value.iface nt nx]).length = j + 1) := ⟨by rw [Fo.cat_assoc]; exact HF.out.1, by rw [HF.out.2.1]; simp, by simp [HF.out.2.2.1], by simp [HF.out.2.2.2]⟩
          have hvis : visits ks (D.cat (.node c' k' .nil)).cells = visits (visits ks D.cells) (c' :: k'.cells) := by rw [Fo.cells_cat, visits_append]; simp [Fo.cells]
          have HV3 : Hid (RState (w3.setCell ⟨w.heap.size, j, none⟩ (.iface nt nx)) nb mb (visits ks (D.cat (.node c' k' .nil)).cells)) := by
            rw [hvis]
            exact ⟨(World.cell?_setCell_other _ _ _ _ (fun e => by have := congrArg Addr.block e; simp at this; omega)).trans hst3.ncell, hst3.map.of_block (Below.heap_setCell _ _ _ _ (show mb ≠ w.heap.size by omega))⟩
          have HF3 : Hid (∀ L, visits ks (D.cat (.node c' k' .nil)).cells <+: L → FoIn (w3.setCell ⟨w.heap.size, j, none⟩ (.iface nt nx)) (w.heap.size + 1) ((D.cat (.node c' k' .nil)).map (renI L)) (ns ++ [Value.iface nt nx])) := fun L hL => by
            rw [hvis] at hL
            rw [Fo.map_cat]
            exact (FoIn.cat _ _ _ _ ((HFO.out L ((visits_prefix _ _).trans hL)).kept hg3 (by omega)) ((hfo3 L hL).mono hsz)).setCell (show w.heap.size < w.heap.size + 1 by omega) _
          have HG3 : Hid (w.grownBy (w3.setCell ⟨w.heap.size, j, none⟩ (.iface nt nx)) (some mb)) := grown_set (HG.out.trans hg3) (Nat.le_refl _) _
          have hsz3 : w.heap.size + 1 ≤ w3.heap.size := Nat.le_trans hsz hg3.size
          clear hst3 hg3 hfo3 hvis HRC hbG
          go_wp2_with fail
          go_roundw
          case rel => exact ⟨D.cat (.node c' k' .nil), r', us ++ [Value.iface vt vx], vr, ns ++ [Value.iface nt nx], j + 1, by omega, by go_num, HN, HRR, HV3, row_next HO3.out HF.out.2.2.2 hlt _, HF3, HG3, by simpa using hsz3⟩
          case measure => simp [intOf]; omega
        · obtain rfl : j = q := by omega
          obtain rfl : R = .nil := by
            have h1 := FoIn.count _ _ HR.out
            have h2 := HE.out
            rw [HF.out.2.1, List.length_append] at h2
            have h3 := HF.out.2.2.1
            cases R with
            | nil => rfl
            | node a b d => simp [Fo.count] at h1; omega
          have hD : D = k := by have := HF.out.1; rw [Fo.cat_nil] at this; exact this.symm
          subst hD
          have x0 : wr.cell? ⟨b, 0, none⟩ = some (.string str) := by
            rw [HES.out]
            exact (hwr.cell (World.block_lt_of_cell? _ _ HC.out.2.2.1)).trans HC.out.2.2.1
          have hns := HF.out.2.2.2
          have HNS : Hid (ns.length = j) := hns
          have HFIN : Hid (ReplOut w nb mb ks c D (.returned (.iface 120 (.pointer (some ⟨wr.heap.size, 0, none⟩)))) (wr.alloc (Obj.cells #[Value.string str, Value.slice (some ⟨w.heap.size, 0, none⟩) j j] 122))) := by
            have hal : Below wr.heap.size wr (wr.alloc (Obj.cells #[Value.string str, Value.slice (some ⟨w.heap.size, 0, none⟩) j j] 122)) := (Below.refl _ _).alloc (Nat.le_refl _) _
            refine ⟨_, rfl, by rw [HV0.out]; exact HST.out.below hal, grown_alloc HG.out _, fun L hL => ?_⟩
            rw [HV0.out] at hL
            have hnew := heap_alloc_new wr (Obj.cells #[Value.string str, Value.slice (some ⟨w.heap.size, 0, none⟩) j j] 122)
            refine ⟨_, [], rfl, .inr (.inr (.inr ⟨by rw [renI_kind]; exact H0.out, wr.heap.size, w.heap.size, ns, rfl, by omega, Nat.le_refl _, by rw [renI_text, ← HES.out]; exact cell_of_row _ _ 0 _ _ _ hnew, by rw [hns]; exact cell_of_row _ _ 1 _ _ _ hnew, by simp; omega, fun i hi => ?_, ?_⟩)), rfl⟩
            · refine Lib.cell?_alloc_marked _ ?_
              rw [HO.out.cellAt i (by omega), List.getElem?_append_left (by omega)]
              simp [List.getD, hi]
            · exact ((HFO.out L hL).below hal).mono (by omega)
          clear hns
          go_wp2_with fail
          go_ret
          exact HFIN.out
end Go.Proofs.YtpigjapbhbdhbaaGreatDoor

