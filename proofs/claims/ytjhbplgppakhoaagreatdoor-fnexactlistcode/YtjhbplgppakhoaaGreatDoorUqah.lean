/- Texts of Ops1, Ops2, Ops3, Or0. Own work of the verifier. -/
import Derived.Test.YtjhbplgppakhoaaGreatDoorUqae
import Derived.Deep.RegionWith
namespace Go.Proofs.YtjhbplgppakhoaaGreatDoor
open Go Go.RowKit
set_option linter.unusedVariables false
def OAt (w : World) (b o : Nat) (c : Cel) : Prop :=
  ∃ p cap, w.cell? ⟨b, o + 1, none⟩ = some (.int .i64 c.1) ∧ w.cell? ⟨b, o + 2, none⟩ = some (.int .i64 c.2.1) ∧ w.cell? ⟨b, o, none⟩ = some (.slice p c.2.2.length cap) ∧ BIn w p c.2.2
def OIn (w : World) (p : Option Addr) (cs : List Cel) : Prop :=
  0 < cs.length → ∃ b o, p = some ⟨b, o, none⟩ ∧ ∀ i, i < cs.length → OAt w b (o + i * 3) (cs.getD i Cel.none)
theorem OAt.below {W W' : World} {b o : Nat} {c : Cel} (h : OAt W b o c) (hb : Below W.heap.size W W') : OAt W' b o c := by
  obtain ⟨p, cap, h0, h1, h2, h3⟩ := h
  exact ⟨p, cap, (hb.cell (World.block_lt_of_cell? _ _ h0)).trans h0, (hb.cell (World.block_lt_of_cell? _ _ h1)).trans h1, (hb.cell (World.block_lt_of_cell? _ _ h2)).trans h2, h3.below hb⟩
theorem OIn.below {W W' : World} {p : Option Addr} {cs : List Cel} (h : OIn W p cs) (hb : Below W.heap.size W W') : OIn W' p cs := fun hn => by
  obtain ⟨b, o, rfl, hc⟩ := h hn
  exact ⟨b, o, rfl, fun i hi => (hc i hi).below hb⟩
theorem OIn.drewN {W : World} {p : Option Addr} {cs : List Cel} (h : OIn W p cs) (m : Nat) : OIn (W.drewN m) p cs := h
end Go.Proofs.YtjhbplgppakhoaaGreatDoor

namespace Go.Proofs.YtjhbplgppakhoaaGreatDoor
open Go Go.RowKit
set_option linter.unusedVariables false
theorem infoOp : (Tryz.prog.info? 69).map (fun i => (i.zero, i.size, i.bytes)) = some (some (.agg #[.slice none 0 0, .int .i64 0, .int .i64 0]), 3, 40) := by kernel_rfl
def roV (r : RC) : List Value := [.slice r.2.2.1 r.2.2.2.1 r.2.2.2.2, .int .i64 r.1, .int .i64 r.2.1]
def flatO (rs : List RC) : List Value := rs.flatMap roV
theorem flatO_cons (r : RC) (rs : List RC) : flatO (r :: rs) = .slice r.2.2.1 r.2.2.2.1 r.2.2.2.2 :: .int .i64 r.1 :: .int .i64 r.2.1 :: flatO rs := rfl
theorem flatO_len : ∀ rs : List RC, (flatO rs).length = rs.length * 3
  | [] => rfl
  | r :: rs => by simp only [flatO_cons, List.length_cons, flatO_len rs]; omega
theorem flatO_at : ∀ (rs : List RC) (i : Nat), i < rs.length → (flatO rs)[i * 3 + 1]? = some (.int .i64 (rs.getD i RC.zero).1) ∧ (flatO rs)[i * 3 + 2]? = some (.int .i64 (rs.getD i RC.zero).2.1) ∧
    (flatO rs)[i * 3]? = some (.slice (rs.getD i RC.zero).2.2.1 (rs.getD i RC.zero).2.2.2.1 (rs.getD i RC.zero).2.2.2.2)
  | [], i, h => by simp at h
  | r :: rs, 0, _ => by simp [flatO_cons]
  | r :: rs, i + 1, h => by
    have := flatO_at rs i (by simpa using h)
    rw [flatO_cons, show (i + 1) * 3 = (i * 3) + 1 + 1 + 1 by omega, show (i * 3) + 1 + 1 + 1 + 1 = (i * 3 + 1) + 1 + 1 + 1 by omega, show (i * 3) + 1 + 1 + 1 + 2 = (i * 3 + 2) + 1 + 1 + 1 by omega]
    simpa using this
theorem flatO_set : ∀ (rs : List RC) (i : Nat) (r : RC), i < rs.length → (((flatO rs).set (i * 3) (.slice r.2.2.1 r.2.2.2.1 r.2.2.2.2)).set (i * 3 + 1) (.int .i64 r.1)).set (i * 3 + 2) (.int .i64 r.2.1) = flatO (rs.set i r)
  | [], i, r, h => by simp at h
  | a :: rs, 0, r, _ => by simp [flatO_cons]
  | a :: rs, i + 1, r, h => by
    have := flatO_set rs i r (by simpa using h)
    rw [flatO_cons, show (i + 1) * 3 = (i * 3) + 1 + 1 + 1 by omega, show (i * 3) + 1 + 1 + 1 + 1 = (i * 3 + 1) + 1 + 1 + 1 by omega, show (i * 3) + 1 + 1 + 1 + 2 = (i * 3 + 2) + 1 + 1 + 1 by omega]
    simp only [List.set_cons_succ, this]
    rfl
theorem made_flatO (n : Nat) : (madeCells #[.slice none 0 0, .int .i64 0, .int .i64 0] (n * 3)).toList = flatO (List.replicate n RC.zero) := by
  apply List.ext_getElem?
  intro j
  by_cases hj : j < n * 3
  · have h := flatO_at (List.replicate n RC.zero) (j / 3) (by simp; omega)
    have hz : (List.replicate n RC.zero).getD (j / 3) RC.zero = RC.zero := by simp [List.getD, List.getElem?_replicate]; split <;> rfl
    rw [hz] at h
    obtain ⟨h0, h1, h2⟩ := h
    have h3 : j % 3 = 0 ∨ j % 3 = 1 ∨ j % 3 = 2 := by omega
    rcases h3 with h3 | h3 | h3
    · rw [show j / 3 * 3 = j by omega] at h2
      rw [h2]; simp [madeCells, hj, h3, RC.zero]
    · rw [show j / 3 * 3 + 1 = j by omega] at h0
      rw [h0]; simp [madeCells, hj, h3, RC.zero]
    · rw [show j / 3 * 3 + 2 = j by omega] at h1
      rw [h1]; simp [madeCells, hj, h3, RC.zero]
  · rw [List.getElem?_eq_none (l := flatO _) (by rw [flatO_len]; simp; omega), List.getElem?_eq_none (by rw [Array.length_toList, size_madeCells]; omega)]
def OwnO (w : World) (B : Nat) (p : Option Addr) (n c : Nat) (cs : List Cel) : Prop :=
  n = cs.length ∧ ∃ rs : List RC, rs.length = cs.length ∧ w.ownsRow B 69 3 (.slice p n c) n (flatO rs) ∧ (∀ i, i < cs.length → Fits w B (rs.getD i RC.zero) (cs.getD i Cel.none)) ∧ ApartC p rs
theorem OwnO.nil (w : World) (B : Nat) : OwnO w B none 0 0 [] := ⟨rfl, [], rfl, World.ownsRow_nil _ _ _ _, fun i h => by simp at h, fun i h => by simp at h, fun i j h => by simp at h⟩
theorem OwnO.oin {w : World} {B : Nat} {p : Option Addr} {n c : Nat} {cs : List Cel} (h : OwnO w B p n c cs) : OIn w p cs := fun hn => by
  obtain ⟨rfl, rs, hl, hr, hf, _⟩ := h
  obtain ⟨g, cap, hv, hb, hg⟩ := hr.form hn
  simp only [Value.slice.injEq, true_and] at hv
  obtain ⟨rfl, rfl⟩ := hv
  refine ⟨g, 0, rfl, fun i hi => ?_⟩
  obtain ⟨f0, f1, f2⟩ := hf i hi
  obtain ⟨a0, a1, a2⟩ := flatO_at rs i (by omega)
  rw [Nat.zero_add]
  refine ⟨(rs.getD i RC.zero).2.2.1, (rs.getD i RC.zero).2.2.2.2, ?_, ?_, ?_, f2.bin⟩
  · rw [hr.cellAt _ (by omega), a0, f0]
  · rw [hr.cellAt _ (by omega), a1, f1]
  · rw [hr.cellAt _ (by omega), a2, f2.len]
theorem OwnO.below {w w' : World} {B : Nat} {p : Option Addr} {n c : Nat} {cs : List Cel} (h : OwnO w B p n c cs) (hb : Below w.heap.size w w') : OwnO w' B p n c cs := by
  obtain ⟨rfl, rs, hl, hr, hf, ha⟩ := h
  refine ⟨rfl, rs, hl, ⟨hr.1, ?_⟩, fun i hi => ⟨(hf i hi).1, (hf i hi).2.1, (hf i hi).2.2.below hb⟩, ha⟩
  rcases hr.2 with h' | ⟨g, cap, cur, hv, hB, hg, r⟩
  · exact .inl h'
  · exact .inr ⟨g, cap, cur, hv, hB, (hb.block g (Array.getElem?_eq_some_iff.1 hg).1).trans hg, r⟩
theorem OwnO.mono {w : World} {B B' : Nat} {p : Option Addr} {n c : Nat} {cs : List Cel} (h : OwnO w B p n c cs) (hB : B' ≤ B) : OwnO w B' p n c cs := by
  obtain ⟨hn, rs, hl, hr, hf, ha⟩ := h
  exact ⟨hn, rs, hl, ownsRow_down hr hB, fun i hi => ⟨(hf i hi).1, (hf i hi).2.1, (hf i hi).2.2.mono hB⟩, ha⟩
end Go.Proofs.YtjhbplgppakhoaaGreatDoor

namespace Go.Proofs.YtjhbplgppakhoaaGreatDoor
open Go Go.RowKit
set_option linter.unusedVariables false
theorem eqOp_any (k1 n1 k2 n2 : Int) (p q : Option Addr) (m1 m2 c1 c2 : Nat) (xs ys : List Int) (w : World) (hl1 : m1 = xs.length) (hl2 : m2 = ys.length) (hn : m1 ≤ 1000000000) (hm : m2 ≤ 1000000000) (hx : BIn w p xs) (hy : BIn w q ys) :
    Calls Tryz.prog 42 #[.agg #[.slice p m1 c1, .int .i64 k1, .int .i64 n1], .agg #[.slice q m2 c2, .int .i64 k2, .int .i64 n2]] w fun e w' => e = .returned (.bool (decide (((k1, n1, xs) : Cel) = (k2, n2, ys)))) ∧ Below w.heap.size w w' := by
  subst hl1 hl2
  have HSS : Hid (∀ W, Below w.heap.size w W → Calls Tryz.prog 13 #[.slice p xs.length c1, .slice q ys.length c2] W fun e w' => e = .returned (.bool (decide (xs = ys))) ∧ ∃ n, w' = W.drewN n) := fun W hW => eqByteS_any p q c1 c2 xs ys W hn hm (hx.below hW) (hy.below hW)
  have hb0 : Below w.heap.size w ((w.alloc (Obj.cells #[Value.slice p xs.length c1, Value.int IntKind.i64 k1, Value.int IntKind.i64 n1] 69)).alloc (Obj.cells #[Value.slice q ys.length c2, Value.int IntKind.i64 k2, Value.int IntKind.i64 n2] 69)) := ((Below.refl _ _).alloc (Nat.le_refl _) _).alloc (by simp) _
  clear hx hy
  have HS := HSS.out _ hb0
  have HB : Hid _ := hb0
  clear hb0 HSS
  cases ht : decide (xs = ys)
  · rw [ht] at HS
    have hd : decide (((k1, n1, xs) : Cel) = (k2, n2, ys)) = false := by
      rw [decide_eq_false_iff_not] at ht ⊢
      intro e; exact ht (Prod.mk.inj (Prod.mk.inj e).2).2
    rw [hd]
    clear ht hd
    go_enter Tryz.func42, Tryz.ntmps42
    go_wp2_with (go_at_call 13; refine HS.mono ?_; rintro e w' ⟨rfl, m, rfl⟩)
    go_ret
    exact ⟨rfl, below_drewN HB.out _⟩
  · rw [ht] at HS
    have ht' : xs = ys := of_decide_eq_true ht
    have hd : decide (((k1, n1, xs) : Cel) = (k2, n2, ys)) = (decide (k1 = k2) && decide (n1 = n2)) := by
      rw [ht', Bool.eq_iff_iff]; simp
    rw [hd]
    clear ht hd ht'
    have G : ∀ m, Box3 (((w.alloc (Obj.cells #[Value.slice p xs.length c1, Value.int IntKind.i64 k1, Value.int IntKind.i64 n1] 69)).alloc (Obj.cells #[Value.slice q ys.length c2, Value.int IntKind.i64 k2, Value.int IntKind.i64 n2] 69)).drewN m) w.heap.size (.slice p xs.length c1) (.int .i64 k1) (.int .i64 n1) ∧ Box3 (((w.alloc (Obj.cells #[Value.slice p xs.length c1, Value.int IntKind.i64 k1, Value.int IntKind.i64 n1] 69)).alloc (Obj.cells #[Value.slice q ys.length c2, Value.int IntKind.i64 k2, Value.int IntKind.i64 n2] 69)).drewN m) (w.heap.size + 1) (.slice q ys.length c2) (.int .i64 k2) (.int .i64 n2) := fun m => by
      refine ⟨Box3.of_block (t := 69) ((Below.heap_alloc _ _ _ (by simp)).trans (heap_alloc_new _ _)), Box3.of_block (t := 69) ?_⟩
      have := heap_alloc_new (w.alloc (Obj.cells #[Value.slice p xs.length c1, Value.int IntKind.i64 k1, Value.int IntKind.i64 n1] 69)) (Obj.cells #[Value.slice q ys.length c2, Value.int IntKind.i64 k2, Value.int IntKind.i64 n2] 69)
      rw [World.size_alloc] at this
      exact this
    have HG : Hid _ := G
    clear G
    have FIN : Hid (∀ b, b = (decide (k1 = k2) && decide (n1 = n2)) → Ending.returned (.bool b) = .returned (.bool (decide (k1 = k2) && decide (n1 = n2)))) := fun b h => ret_bool h
    go_enter Tryz.func42, Tryz.ntmps42
    go_wp2_with fail
    refine HS.mono ?_
    rintro e w' ⟨rfl, m, rfl⟩
    obtain ⟨⟨a0, a1, a2, _⟩, ⟨e0, e1, e2, _⟩⟩ := HG.out m
    have HB' := below_drewN HB.out m
    clear HS HG HB
    revert a0 a1 a2 e0 e1 e2 HB'
    generalize (((w.alloc (Obj.cells #[Value.slice p xs.length c1, Value.int IntKind.i64 k1, Value.int IntKind.i64 n1] 69)).alloc (Obj.cells #[Value.slice q ys.length c2, Value.int IntKind.i64 k2, Value.int IntKind.i64 n2] 69)).drewN m) = W
    intro a0 a1 a2 e0 e1 e2 HB'
    by_cases hk : k1 = k2
    · by_cases hnn : n1 = n2
      · have HF : Hid _ := FIN.out true (by simp [hk, hnn])
        subst hk hnn
        clear FIN
        go_wp2
        go_ret
        exact ⟨HF.out, HB'⟩
      · have hnn' : (n1 != n2) = true := by simpa using hnn
        have hk' : (k1 != k2) = false := by simpa using hk
        have HNN : Hid (¬ n1 = n2) := hnn
        clear FIN hk hnn
        go_wp2
        go_ret
        exact ⟨by have := HNN.out; simp [this], HB'⟩
    · have HF : Hid _ := FIN.out false (by simp [hk])
      have hk' : (k1 != k2) = true := by simpa using hk
      clear FIN
      go_wp2
      go_ret
      exact ⟨HF.out, HB'⟩
theorem eqOpS_any (p q : Option Addr) (c1 c2 : Nat) (xs ys : List Cel) (w : World) (hn : xs.length + tl xs ≤ 1000000000) (hm : ys.length + tl ys ≤ 1000000000) (hx : OIn w p xs) (hy : OIn w q ys) :
    Calls Tryz.prog 14 #[.slice p xs.length c1, .slice q ys.length c2] w fun e w' => e = .returned (.bool (decide (xs = ys))) ∧ Below w.heap.size w w' := by
  have HX : Hid (OIn w p xs) := hx
  have HY : Hid (OIn w q ys) := hy
  clear hx hy
  by_cases hl : xs.length = ys.length
  · have HL : Hid (xs.length = ys.length) := hl
    obtain ⟨n, en⟩ : ∃ n, ys.length = n := ⟨_, rfl⟩
    rw [hl]
    rw [hl] at hn
    rw [en] at hn hm hl ⊢
    have HE : Hid (ys.length = n) := en
    clear hl en
    go_enter Tryz.func14, Tryz.ntmps14
    go_wp2
    go_loopw [5] (fun i wr => ∃ k : Nat, k ≤ n ∧ i = .int .i64 k ∧ Hid (Below w.heap.size w wr) ∧ Hid (∀ j, j < k → xs.getD j Cel.none = ys.getD j Cel.none)) (fun i _ => n - (intOf i).toNat)
    case atStart => exact ⟨0, Nat.zero_le _, rfl, Below.refl _ _, fun _ h => absurd h (Nat.not_lt_zero _)⟩
    case round =>
      obtain ⟨k, hk, rfl, HB, HN⟩ := hrel
      by_cases hlt : k < n
      · have hkx : k < xs.length := by rw [HL.out, HE.out]; exact hlt
        have hky : k < ys.length := by rw [HE.out]; exact hlt
        obtain ⟨b, o, rfl, hcx⟩ := HX.out (by omega)
        obtain ⟨b', o', rfl, hcy⟩ := HY.out (by omega)
        obtain ⟨px, qx, x0, x1, x2, x3⟩ := (hcx k hkx).below HB.out
        obtain ⟨py, qy, y0, y1, y2, y3⟩ := (hcy k hky).below HB.out
        have bx := tl_at xs k hkx
        have bY := tl_at ys k hky
        have HEQ : Hid (decide (((xs.getD k Cel.none).1, (xs.getD k Cel.none).2.1, (xs.getD k Cel.none).2.2) = (((ys.getD k Cel.none).1, (ys.getD k Cel.none).2.1, (ys.getD k Cel.none).2.2) : Cel)) = decide (xs.getD k Cel.none = ys.getD k Cel.none)) := rfl
        obtain ⟨a0, ea0⟩ : ∃ x, x = (xs.getD k Cel.none).1 := ⟨_, rfl⟩
        obtain ⟨a1, ea1⟩ : ∃ x, x = (xs.getD k Cel.none).2.1 := ⟨_, rfl⟩
        obtain ⟨am, eam⟩ : ∃ x, x = (xs.getD k Cel.none).2.2.length := ⟨_, rfl⟩
        obtain ⟨e0, ee0⟩ : ∃ x, x = (ys.getD k Cel.none).1 := ⟨_, rfl⟩
        obtain ⟨e1, ee1⟩ : ∃ x, x = (ys.getD k Cel.none).2.1 := ⟨_, rfl⟩
        obtain ⟨em, eem⟩ : ∃ x, x = (ys.getD k Cel.none).2.2.length := ⟨_, rfl⟩
        have HS : Hid (∀ W, Below wr.heap.size wr W → Calls Tryz.prog 42 #[.agg #[.slice px am qx, .int .i64 a0, .int .i64 a1], .agg #[.slice py em qy, .int .i64 e0, .int .i64 e1]] W fun e w' => e = .returned (.bool (decide (xs.getD k Cel.none = ys.getD k Cel.none))) ∧ Below W.heap.size W w') := fun W hW => by
          have := eqOp_any a0 a1 e0 e1 px py am em qx qy _ _ W eam eem (by omega) (by omega) (x3.below hW) (y3.below hW)
          rwa [ea0, ea1, ee0, ee1, HEQ.out, ← ea0, ← ea1, ← ee0, ← ee1] at this
        rw [← ea0] at x0
        rw [← ea1] at x1
        rw [← eam] at x2
        rw [← ee0] at y0
        rw [← ee1] at y1
        rw [← eem] at y2
        clear ea0 ea1 eam ee0 ee1 eem HEQ x3 y3 hcx hcy HX HY bx bY hkx hky
        cases ht : decide (xs.getD k Cel.none = ys.getD k Cel.none)
        · rw [ht] at HS
          have HT : Hid _ := ht
          clear ht
          go_wp2
          go_region_with (go_at_call 42; refine (HS.out _ (Below.refl _ _).drew).mono ?_; rintro e w2 ⟨rfl, hb2⟩)
          all_goals go_wp2
          all_goals go_ret
          all_goals exact ⟨ret_bool (by
            symm; rw [decide_eq_false_iff_not]; intro e
            have := HT.out
            rw [decide_eq_false_iff_not] at this
            exact this (by rw [e])), Below.on HB.out ((Below.refl _ _).drew.trans hb2)⟩
        · rw [ht] at HS
          have HT : Hid _ := ht
          clear ht
          go_wp2
          go_region_with (go_at_call 42; refine (HS.out _ (Below.refl _ _).drew).mono ?_; rintro e w2 ⟨rfl, hb2⟩)
          all_goals go_wp2
          all_goals go_roundw
          all_goals first
            | (simp [intOf]; omega)
            | exact ⟨k + 1, by omega, by go_num, Below.on HB.out ((Below.refl _ _).drew.trans hb2), fun j hj => by
                by_cases e : j = k
                · subst e; exact of_decide_eq_true HT.out
                · exact HN.out j (by omega)⟩
      · obtain rfl : k = n := by omega
        go_wp2
        go_ret
        exact ⟨ret_bool (by symm; rw [decide_eq_true_iff]; exact same_cells HL.out (by rw [HL.out, HE.out]; exact HN.out)), HB.out⟩
  · have hne : ¬ ((xs.length : Int) = (ys.length : Int)) := by omega
    have e : decide (xs = ys) = false := by rw [decide_eq_false_iff_not]; intro e; exact hl (by rw [e])
    rw [e]
    clear e
    go_enter Tryz.func14, Tryz.ntmps14
    go_wp2
    go_ret
    exact ⟨rfl, Below.refl _ _⟩
end Go.Proofs.YtjhbplgppakhoaaGreatDoor

namespace Go.Proofs.YtjhbplgppakhoaaGreatDoor
open Go Go.RowKit
set_option linter.unusedVariables false
def orI (x y : Int) : Int := if x ≠ 0 then x else y
theorem or_any (b : Nat) (x y : Int) (w : World) (h0 : w.cell? ⟨b, 0, none⟩ = some (.int .i64 x)) (h1 : w.cell? ⟨b, 1, none⟩ = some (.int .i64 y)) : Calls Tryz.prog 101 #[.slice (some ⟨b, 0, none⟩) 2 2] w fun e w' => e = .returned (.int .i64 (orI x y)) ∧ w' = w := by
  have FIN : Hid (∀ c, c = orI x y → Ending.returned (.int .i64 c) = .returned (.int .i64 (orI x y))) := fun c h => ret_int h
  go_enter Tryz.func101, Tryz.ntmps101
  go_wp2_with fail
  go_loop [8] (fun i => i = .int .i64 0 ∨ (i = .int .i64 1 ∧ x = 0) ∨ (i = .int .i64 2 ∧ x = 0 ∧ y = 0)) (fun i => 2 - (intOf i).toNat)
  case atStart => exact .inl rfl
  case round =>
    rcases hrel with rfl | ⟨rfl, rfl⟩ | ⟨rfl, rfl, rfl⟩
    · by_cases hx : x = 0
      · subst hx
        go_wp2_with fail
        go_roundw
        case rel => exact .inr (.inl ⟨by go_num, by simp⟩)
        case measure => simp [intOf]
      · have HF : Hid _ := FIN.out x (by rw [orI, if_pos hx])
        go_wp2_with fail
        go_ret
        exact ⟨HF.out, rfl⟩
    · by_cases hx : y = 0
      · subst hx
        go_wp2_with fail
        go_roundw
        case rel => exact .inr (.inr ⟨by go_num, by simp⟩)
        case measure => simp [intOf]
      · have HF : Hid _ := FIN.out y (by rw [orI, if_neg (by simp)])
        go_wp2_with fail
        go_ret
        exact ⟨HF.out, rfl⟩
    · go_wp2_with fail
      go_ret
      exact ⟨rfl, rfl⟩
theorem pair_new (W : World) (a b : Value) (t : TypeId) : (W.alloc (.cells #[a, b] t)).cell? ⟨W.heap.size, 0, none⟩ = some a ∧ (W.alloc (.cells #[a, b] t)).cell? ⟨W.heap.size, 1, none⟩ = some b :=
  ⟨by simp [World.cell?_alloc_new], by simp [World.cell?_alloc_new]⟩
end Go.Proofs.YtjhbplgppakhoaaGreatDoor

