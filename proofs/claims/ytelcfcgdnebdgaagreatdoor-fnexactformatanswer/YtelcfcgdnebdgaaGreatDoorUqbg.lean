/- Texts of BBS, MarkOA, OArgT, OpsZ. Own work of the verifier. -/
import Derived.Test.YtelcfcgdnebdgaaGreatDoorUqbf
import Derived.Test.YtelcfcgdnebdgaaGreatDoorUqag
import Derived.Test.YtelcfcgdnebdgaaGreatDoorUqap
import Derived.Test.YtelcfcgdnebdgaaGreatDoorUqak
import Derived.Test.YtelcfcgdnebdgaaGreatDoorUqab
import Derived.Test.YtelcfcgdnebdgaaGreatDoorUqaq
import Derived.Test.YtelcfcgdnebdgaaGreatDoorUqat
import Derived.Test.YtelcfcgdnebdgaaGreatDoorUqah
namespace Go.Proofs.YtelcfcgdnebdgaaGreatDoor
open Go Go.RowKit
set_option linter.unusedVariables false
theorem infoBytesS : (Tryz.prog.info? 28).map (fun i => (i.zero, i.size, i.bytes)) = some (some (.slice none 0 0), 1, 24) := by kernel_rfl
def tnn : List (List Int) → Nat
  | [] => 0
  | a :: r => a.length + tnn r
theorem tnn_at : ∀ (N : List (List Int)) (i : Nat), i < N.length → (N.getD i []).length ≤ tnn N
  | a :: r, 0, _ => by simp [tnn]
  | a :: r, i + 1, h => by have := tnn_at r i (by simpa using h); simp only [List.getD_cons_succ, tnn]; omega
theorem tnn_take : ∀ (N : List (List Int)) (k : Nat), k < N.length → tnn (N.take (k + 1)) = tnn (N.take k) + (N.getD k []).length
  | a :: r, 0, _ => by simp [tnn]
  | a :: r, k + 1, h => by
    have := tnn_take r k (by simpa using h)
    simp only [List.take_succ_cons, tnn, List.getD_cons_succ]
    omega
theorem tnn_take_le : ∀ (N : List (List Int)) (k : Nat), tnn (N.take k) ≤ tnn N
  | [], k => by simp [tnn]
  | a :: r, 0 => by simp [tnn]
  | a :: r, k + 1 => by have := tnn_take_le r k; simp only [List.take_succ_cons, tnn]; omega
structure NArg (w : World) (p : Option Addr) (N : List (List Int)) : Prop where
  lies : NIn w p N
  len : N.length ≤ 9223372036854775807
  item : ∀ i, i < N.length → (N.getD i []).length ≤ 9223372036854775807 ∧ Byte (N.getD i [])
theorem NArg.below {W W' : World} {p : Option Addr} {N : List (List Int)} (h : NArg W p N) (hb : Below W.heap.size W W') : NArg W' p N := ⟨h.lies.below hb, h.len, h.item⟩
theorem szNN_any (p : Option Addr) (cap : Nat) (N : List (List Int)) (L : Nat) (w : World) (hL : L ≤ 1048576) (hin : NArg w p N) :
    Calls Tryz.prog 7 #[.slice p N.length cap, .int .i64 L] w fun e w' => e = .returned (.int .i64 (szR L (N.length + tnn N))) ∧ Below w.heap.size w w' := by
  have HI : Hid (NArg w p N) := hin
  have hn := hin.len
  clear hin
  by_cases h : N.length ≤ L
  · have h0 : ¬ ((L : Int) - N.length < 0) := by omega
    go_enter Tryz.func7, Tryz.ntmps7
    go_wp2_with fail
    have HL : Hid (N.length ≤ L) := h
    clear h h0
    go_loopw [1, 5] (fun l i wr => ∃ k : Nat, k ≤ N.length ∧ i = .int .i64 k ∧ Hid (N.length + tnn (N.take k) ≤ L) ∧ l = .int .i64 ((L : Int) - (N.length + tnn (N.take k) : Nat)) ∧ Hid (Below w.heap.size w wr)) (fun _ i _ => N.length - (intOf i).toNat)
    case atStart => exact ⟨0, Nat.zero_le _, rfl, by simpa [tnn, Hid] using HL.out, by simp [tnn], Below.refl _ _⟩
    case round =>
      obtain ⟨k, hk, rfl, HT, rfl, HB⟩ := hrel
      by_cases hlt : k < N.length
      · obtain ⟨b, o, rfl, hcs⟩ := (HI.out.below HB.out).lies (by omega)
        obtain ⟨q, qc, d0, d1⟩ := hcs k hlt
        have hit := HI.out.item k hlt
        have htk : Hid _ := tnn_take N k hlt
        have htl : Hid _ := tnn_take_le N (k + 1)
        obtain ⟨L', eL⟩ : ∃ x, x = L - (N.length + tnn (N.take k)) := ⟨_, rfl⟩
        have eL' : ((L : Int) - (N.length + tnn (N.take k) : Nat)) = (L' : Int) := by have := HT.out; omega
        have hL' : L' ≤ 1048576 := by omega
        have HS := szByteS_any q (N.getD k []).length qc L' wr hL' hit.1
        rw [eL']
        have HE : Hid (L' = L - (N.length + tnn (N.take k))) := eL
        obtain ⟨m, em⟩ : ∃ x, x = (N.getD k []).length := ⟨_, rfl⟩
        rw [← em] at HS d0 htk
        clear eL eL' hcs d1 hit em
        by_cases hfit : m ≤ L'
        · have e : szR L' m = (L' : Int) - m := by simp [szR, hfit]
          rw [e] at HS
          have h0' : ¬ ((L' : Int) - m < 0) := by omega
          go_wp2_with fail
          refine HS.mono ?_
          rintro e w' ⟨rfl, rfl⟩
          go_wp2_with fail
          go_roundw
          case rel => exact ⟨k + 1, by omega, by go_num, by have := HT.out; have := htk.out; have := HE.out; show _ ≤ _; omega, by have := HT.out; have := htk.out; have := HE.out; congr 1; omega, HB⟩
          case measure => simp [intOf]; omega
        · have e : szR L' m = -1 := by simp [szR, hfit]
          rw [e] at HS
          go_wp2_with fail
          refine HS.mono ?_
          rintro e w' ⟨rfl, rfl⟩
          go_wp2_with fail
          go_ret
          refine ⟨ret_int ?_, HB.out⟩
          have := HT.out; have := htk.out; have := HE.out; have := htl.out
          rw [szR, if_neg (by omega)]
      · obtain rfl : k = N.length := by omega
        rw [List.take_length] at *
        go_wp2_with fail
        go_ret
        exact ⟨ret_int (by rw [szR, if_pos HT.out]), HB.out⟩
  · have e : szR L (N.length + tnn N) = -1 := by rw [szR, if_neg (by omega)]
    rw [e]
    have h0 : (L : Int) - N.length < 0 := by omega
    go_enter Tryz.func7, Tryz.ntmps7
    go_wp2_with fail
    go_ret
    exact ⟨rfl, Below.refl _ _⟩
def rowN (gs : List Nat) (N : List (List Int)) (k : Nat) : List Value := (List.range N.length).map fun i => if i < k then .slice (some ⟨gs.getD i 0, 0, none⟩) (N.getD i []).length (N.getD i []).length else .slice none 0 0
theorem rowN_zero (N : List (List Int)) : rowN [] N 0 = List.replicate N.length (.slice none 0 0) := by
  unfold rowN
  apply List.ext_getElem
  · simp
  · intro i h1 h2; simp
theorem gs_append_at (gs : List Nat) (r i : Nat) (h : i ≤ gs.length) : (gs ++ [r]).getD i 0 = if i = gs.length then r else gs.getD i 0 := by
  by_cases e : i = gs.length
  · subst e; simp
  · rw [if_neg e]
    simp only [List.getD]
    rw [List.getElem?_append_left (by omega)]
theorem rowN_next (gs : List Nat) (N : List (List Int)) (k g : Nat) (hk : k < N.length) (hd : gs.length = k) : (rowN gs N k).set k (.slice (some ⟨g, 0, none⟩) (N.getD k []).length (N.getD k []).length) = rowN (gs ++ [g]) N (k + 1) := by
  unfold rowN
  apply List.ext_getElem
  · simp
  · intro i h1 h2
    simp only [List.length_set, List.length_map, List.length_range] at h1
    rw [List.getElem_set]
    simp only [List.getElem_map, List.getElem_range]
    by_cases e : k = i
    · rw [if_pos e, ← e, if_pos (by omega), gs_append_at _ _ _ (by omega), if_pos hd.symm]
    · rw [if_neg e]
      by_cases h : i < k
      · rw [if_pos h, if_pos (by omega), gs_append_at _ _ _ (by omega), if_neg (by omega)]
      · rw [if_neg h, if_neg (by omega)]
theorem rowN_at (gs : List Nat) (N : List (List Int)) (k i : Nat) (hi : i < N.length) : (rowN gs N k)[i]? = some (if i < k then .slice (some ⟨gs.getD i 0, 0, none⟩) (N.getD i []).length (N.getD i []).length else .slice none 0 0) := by
  simp [rowN, hi]
structure OwnNN (w : World) (B U g : Nat) (N : List (List Int)) (gs : List Nat) : Prop where
  len : gs.length = N.length
  row : w.ownsRow B 28 1 (.slice (some ⟨g, 0, none⟩) N.length N.length) N.length (rowN gs N N.length)
  item : ∀ i, i < N.length → OwnS w B (some ⟨gs.getD i 0, 0, none⟩) (N.getD i []).length (N.getD i []).length (N.getD i [])
  up : ∀ i, i < N.length → g < gs.getD i 0 ∧ gs.getD i 0 < U
  apart : ∀ i j, i < j → j < N.length → gs.getD i 0 < gs.getD j 0
theorem OwnNN.nin {w : World} {B U g : Nat} {N : List (List Int)} {gs : List Nat} (h : OwnNN w B U g N gs) : NIn w (some ⟨g, 0, none⟩) N := fun _ => ⟨g, 0, rfl, fun i hi => ⟨some ⟨gs.getD i 0, 0, none⟩, (N.getD i []).length, by
    rw [Nat.zero_add, h.row.cellAt i (by omega), rowN_at gs N _ i hi, if_pos hi], (h.item i hi).bin⟩⟩
theorem ownS_block {w w' : World} {B g n c : Nat} {ys : List Int} (h : OwnS w B (some ⟨g, 0, none⟩) n c ys) (hb : w'.heap[g]? = w.heap[g]?) : OwnS w' B (some ⟨g, 0, none⟩) n c ys := by
  refine ⟨h.1, h.2.1, ?_⟩
  rcases h.2.2 with h0 | ⟨g', cap, cur, hv, hg, hh, r⟩
  · exact .inl h0
  · have e : g' = g := by injection hv with h1; injection h1 with h2; injection h2 with h3; exact h3.symm
    subst e
    exact .inr ⟨g', cap, cur, hv, hg, hb.trans hh, r⟩
theorem ownS_mono {w : World} {B B' g n c : Nat} {ys : List Int} (h : OwnS w B (some ⟨g, 0, none⟩) n c ys) (hB : B' ≤ B) : OwnS w B' (some ⟨g, 0, none⟩) n c ys := by
  refine ⟨h.1, h.2.1, ?_⟩
  rcases h.2.2 with h0 | ⟨g', cap, cur, hv, hg, r⟩
  · exact .inl h0
  · exact .inr ⟨g', cap, cur, hv, Nat.le_trans hB hg, r⟩
theorem rowNN_block {w w' : World} {B g n c : Nat} {e : TypeId} {vs : List Value} (h : w.ownsRow B e 1 (.slice (some ⟨g, 0, none⟩) n c) n vs) (hb : w'.heap[g]? = w.heap[g]?) : w'.ownsRow B e 1 (.slice (some ⟨g, 0, none⟩) n c) n vs := by
  refine ⟨h.1, ?_⟩
  rcases h.2 with h0 | ⟨g', cap, cur, hv, hg, hh, r⟩
  · exact .inl h0
  · have e : g' = g := by injection hv with h1; injection h1 with h2; injection h2 with h3; exact h3.symm
    subst e
    exact .inr ⟨g', cap, cur, hv, hg, hb.trans hh, r⟩
theorem ownS_lt {w : World} {B g n c : Nat} {ys : List Int} (h : OwnS w B (some ⟨g, 0, none⟩) n c ys) : B ≤ g ∧ g < w.heap.size := h.2.lt g rfl
theorem OwnNN.below {w w' : World} {B U g : Nat} {N : List (List Int)} {gs : List Nat} (h : OwnNN w B U g N gs) (hb : Below w.heap.size w w') : OwnNN w' B U g N gs :=
  ⟨h.len, rowNN_block h.row (hb.block g (h.row.lt g rfl).2), fun i hi => ownS_block (h.item i hi) (hb.block _ (ownS_lt (h.item i hi)).2), h.up, h.apart⟩
set_option maxRecDepth 100000 in
theorem toNN_any (p : Option Addr) (cap : Nat) (N : List (List Int)) (w : World) (hn : N.length + tnn N ≤ 1048576) (hin : NArg w p N) :
    Calls Tryz.prog 11 #[.slice p N.length cap] w fun e w' => e = .returned (.slice (some ⟨w.heap.size, 0, none⟩) N.length N.length) ∧ (∃ gs, OwnNN w' w.heap.size w'.heap.size w.heap.size N gs) ∧ Below w.heap.size w w' := by
  obtain ⟨i0, hi, hz0, hz1, hz2⟩ := info_parts infoBytesS
  have hmx : N.length ≤ maxLen := by unfold maxLen; omega
  have HC : Hid (NArg w p N) := hin
  clear hin
  go_enter Tryz.func11, Tryz.ntmps11
  go_wp2_with (at_make; refine wpList_make_full _ rfl _ _ 24 rfl w.heap.size 28 i0 (.slice none 0 0) 1 Tryz.underlying24 hi hz0 hz1 _ _ _ _ N.length rfl rfl rfl rfl (by rw [hz2]; omega) hmx (Nat.le_refl _) ?_; intro w1 hown hgrow)
  have HB1 : Hid (Below w.heap.size w w1) := (Below.refl _ _).grown hgrow (Nat.le_refl _) (fun k h => by cases h)
  have HO : Hid (w1.ownsRow w.heap.size 28 1 (.slice (some ⟨w.heap.size, 0, none⟩) N.length N.length) N.length (rowN [] N 0)) := by
    have := hown
    simp [Value.cells, toList_madeCells_one] at this
    rw [rowN_zero]
    exact this
  clear hown hgrow
  go_loopw [4] (fun i wr => ∃ (k : Nat) (gs : List Nat), k ≤ N.length ∧ i = .int .i64 k ∧ Hid (gs.length = k) ∧ Hid (wr.ownsRow w.heap.size 28 1 (.slice (some ⟨w.heap.size, 0, none⟩) N.length N.length) N.length (rowN gs N k)) ∧
    Hid (∀ i, i < k → OwnS wr w.heap.size (some ⟨gs.getD i 0, 0, none⟩) (N.getD i []).length (N.getD i []).length (N.getD i []) ∧ w.heap.size < gs.getD i 0 ∧ gs.getD i 0 < wr.heap.size) ∧
    Hid (∀ i j, i < j → j < k → gs.getD i 0 < gs.getD j 0) ∧ Hid (Below w.heap.size w wr)) (fun i _ => N.length - (intOf i).toNat)
  case atStart => exact ⟨0, [], Nat.zero_le _, rfl, rfl, HO, fun i h => by omega, fun i j _ h => by omega, HB1⟩
  case round =>
    obtain ⟨k, gs, hk, rfl, HD, HR, HIT, HAP, HB⟩ := hrel
    by_cases hlt : k < N.length
    · obtain ⟨b, o, rfl, hcs⟩ := (HC.out.below HB.out).lies (by omega)
      obtain ⟨q, qc, d0, d1⟩ := hcs k hlt
      have hbd := tnn_at N k hlt
      have HS := toByteS_any q qc (N.getD k []) wr (by omega) d1
      obtain ⟨m, em⟩ : ∃ x, x = (N.getD k []).length := ⟨_, rfl⟩
      have HM : Hid (m = (N.getD k []).length) := em
      rw [← em] at HS d0
      have hHw : w.heap.size < wr.heap.size := (HR.out.lt w.heap.size rfl).2
      clear hcs d1 hbd em
      go_wp2_with fail
      refine HS.mono ?_
      rintro e w2 ⟨rfl, ho2, hb2⟩
      have HR2 : Hid (w2.ownsRow w.heap.size 28 1 (.slice (some ⟨w.heap.size, 0, none⟩) N.length N.length) N.length (rowN gs N k)) := row_below HR.out hb2
      have e0 : w2.cell? ⟨w.heap.size, k, none⟩ = some (.slice none 0 0) := (HR2.out.cellAt k (by omega)).trans (by rw [rowN_at gs N k k hlt, if_neg (by omega)])
      have e1 := HR2.out.frozenAt k
      have hw2 := hb2.size
      have HN : Hid (∀ v, v = Value.slice (some ⟨wr.heap.size, 0, none⟩) m m → (w2.setCell ⟨w.heap.size, k, none⟩ v).ownsRow w.heap.size 28 1 (.slice (some ⟨w.heap.size, 0, none⟩) N.length N.length) N.length (rowN (gs ++ [wr.heap.size]) N (k + 1)) ∧
          (∀ i, i < k + 1 → OwnS (w2.setCell ⟨w.heap.size, k, none⟩ v) w.heap.size (some ⟨(gs ++ [wr.heap.size]).getD i 0, 0, none⟩) (N.getD i []).length (N.getD i []).length (N.getD i []) ∧ w.heap.size < (gs ++ [wr.heap.size]).getD i 0 ∧ (gs ++ [wr.heap.size]).getD i 0 < (w2.setCell ⟨w.heap.size, k, none⟩ v).heap.size) ∧
          (∀ i j, i < j → j < k + 1 → (gs ++ [wr.heap.size]).getD i 0 < (gs ++ [wr.heap.size]).getD j 0)) := fun v hv => by
        have hdl := HD.out
        have hsz : (w2.setCell ⟨w.heap.size, k, none⟩ v).heap.size = w2.heap.size := by simp
        have hset : ∀ b, w.heap.size < b → (w2.setCell ⟨w.heap.size, k, none⟩ v).heap[b]? = w2.heap[b]? := fun b hb => Below.heap_setCell _ _ _ _ (show b ≠ w.heap.size by omega)
        have hown2 : OwnS w2 wr.heap.size (some ⟨wr.heap.size, 0, none⟩) m m (N.getD k []) := by
          rw [HM.out] at ho2 ⊢
          exact ⟨rfl, ho2⟩
        have hl2 := (ownS_lt hown2).2
        refine ⟨?_, fun i hi => ?_, fun i j hij hj => ?_⟩
        · have h1 := (HR2.out.stored k v).1
          rw [← rowN_next gs N k wr.heap.size hlt hdl, ← HM.out, ← hv]
          exact h1
        · rw [gs_append_at _ _ _ (by omega)]
          by_cases e : i = k
          · rw [if_pos (by omega), e, ← HM.out]
            refine ⟨ownS_block (ownS_mono hown2 (by omega)) (hset _ hHw), hHw, by rw [hsz]; exact hl2⟩
          · rw [if_neg (by omega)]
            have hold := HIT.out i (by omega)
            exact ⟨ownS_block hold.1 ((hset _ hold.2.1).trans (hb2.block _ hold.2.2)), hold.2.1, by rw [hsz]; omega⟩
        · rw [gs_append_at _ _ _ (by omega), gs_append_at _ _ _ (by omega), if_neg (by omega)]
          by_cases e : j = k
          · rw [if_pos (by omega)]
            exact (HIT.out i (by omega)).2.2
          · rw [if_neg (by omega)]
            exact HAP.out i j hij (by omega)
      have HB2 : Hid (Below w.heap.size w w2) := Below.on HB.out hb2
      have HDL : Hid ((gs ++ [wr.heap.size]).length = k + 1) := by show _ = _; rw [List.length_append, HD.out]; rfl
      clear ho2 hb2 hw2 HS
      go_wp2_with fail
      go_roundw
      case rel =>
        obtain ⟨n1, n2, n3⟩ := HN.out _ rfl
        exact ⟨k + 1, gs ++ [wr.heap.size], by omega, by go_num, HDL, n1, n2, n3, HB2.out.setCell (p := ⟨w.heap.size, k, none⟩) (Nat.le_refl _) _⟩
      case measure => simp [intOf]; omega
    · obtain rfl : k = N.length := by omega
      have HFIN : Hid (OwnNN wr w.heap.size wr.heap.size w.heap.size N gs) := ⟨HD.out, HR.out, fun i hi => (HIT.out i hi).1, fun i hi => (HIT.out i hi).2, HAP.out⟩
      go_wp2_with fail
      go_ret
      exact ⟨rfl, ⟨_, HFIN.out⟩, HB.out⟩
set_option maxRecDepth 100000 in
theorem eqNN_same (p q : Option Addr) (c1 c2 : Nat) (N : List (List Int)) (w : World) (hn : N.length + tnn N ≤ 1048576) (hx : NIn w p N) (hy : NIn w q N) :
    Calls Tryz.prog 16 #[.slice p N.length c1, .slice q N.length c2] w fun e w' => e = .returned (.bool true) ∧ Below w.heap.size w w' := by
  have HX : Hid (NIn w p N) := hx
  have HY : Hid (NIn w q N) := hy
  clear hx hy
  go_enter Tryz.func16, Tryz.ntmps16
  go_wp2_with fail
  go_loopw [5] (fun i wr => ∃ k : Nat, k ≤ N.length ∧ i = .int .i64 k ∧ Hid (Below w.heap.size w wr)) (fun i _ => N.length - (intOf i).toNat)
  case atStart => exact ⟨0, Nat.zero_le _, rfl, Below.refl _ _⟩
  case round =>
    obtain ⟨k, hk, rfl, HB⟩ := hrel
    by_cases hlt : k < N.length
    · obtain ⟨b, o, rfl, hc⟩ := (HX.out.below HB.out) (by omega)
      obtain ⟨b', o', rfl, hc'⟩ := (HY.out.below HB.out) (by omega)
      obtain ⟨q1, k1, d0, d1⟩ := hc k hlt
      obtain ⟨q2, k2, f0, f1⟩ := hc' k hlt
      have hbd := tnn_at N k hlt
      have HS : Hid (∀ W, Below wr.heap.size wr W → Calls Tryz.prog 13 #[.slice q1 (N.getD k []).length k1, .slice q2 (N.getD k []).length k2] W fun e w' => e = .returned (.bool true) ∧ Below W.heap.size W w') := fun W hW => by
        refine (eqByteS_any q1 q2 k1 k2 (N.getD k []) (N.getD k []) W (by omega) (by omega) (d1.below hW) (f1.below hW)).mono ?_
        rintro e w' ⟨rfl, n, rfl⟩
        exact ⟨by simp, ⟨rfl, rfl, rfl, Nat.le_refl _, fun _ _ => rfl⟩⟩
      obtain ⟨m, em⟩ : ∃ x, x = (N.getD k []).length := ⟨_, rfl⟩
      rw [← em] at HS d0 f0 hbd
      clear hc hc' d1 f1 em
      go_wp2_with fail
      go_region_with (go_at_call 13; refine (HS.out _ (Below.refl _ _).drew).mono ?_; rintro e w2 ⟨rfl, hb2⟩)
      all_goals go_wp2_with fail
      all_goals go_roundw
      all_goals first
        | (simp [intOf]; omega)
        | exact ⟨k + 1, by omega, by go_num, Below.on HB.out ((Below.refl _ _).drew.trans hb2)⟩
    · obtain rfl : k = N.length := by omega
      go_wp2_with fail
      go_ret
      exact ⟨rfl, HB.out⟩
set_option maxRecDepth 100000 in
theorem markNN_any (B U g : Nat) (k : Int) (N : List (List Int)) (gs : List Nat) (w : World) (h0 : 0 ≤ k) (h1 : k ≤ 100000000000) (hn : N.length + tnn N ≤ 1048576) (hown : OwnNN w B U g N gs) :
    Calls Tryz.prog 19 #[.slice (some ⟨g, 0, none⟩) N.length N.length, .int .i64 k] w fun e w' => e = .returned (.int .i64 (k + tnn N)) ∧ Keep B U w w' := by
  have HO : Hid (OwnNN w B U g N gs) := hown
  clear hown
  go_enter Tryz.func19, Tryz.ntmps19
  go_wp2_with fail
  go_loopw [1, 5] (fun q i wr => ∃ j : Nat, j ≤ N.length ∧ i = .int .i64 j ∧ q = .int .i64 (k + (tnn (N.take j) : Nat)) ∧ Hid (wr.heap[g]? = w.heap[g]? ∧ ∀ i, j ≤ i → i < N.length → wr.heap[gs.getD i 0]? = w.heap[gs.getD i 0]?) ∧ Hid (Keep B U w wr)) (fun _ i _ => N.length - (intOf i).toNat)
  case atStart => exact ⟨0, Nat.zero_le _, rfl, by simp [tnn], ⟨rfl, fun _ _ _ => rfl⟩, Keep.refl _ _ _⟩
  case round =>
    obtain ⟨j, hj, rfl, rfl, HR, HK⟩ := hrel
    have htl := tnn_take_le N j
    by_cases hlt : j < N.length
    · have htk : Hid _ := tnn_take N j hlt
      have hrow := rowNN_block HO.out.row HR.out.1
      have hit := ownS_block (HO.out.item j hlt) (HR.out.2 j (Nat.le_refl _) hlt)
      have d0 := (hrow.cellAt j (by omega)).trans (rowN_at gs N N.length j hlt)
      rw [if_pos hlt] at d0
      have hbd := tnn_at N j hlt
      have HS := mark_own B _ _ _ (k + (tnn (N.take j) : Nat)) _ wr (by omega) (by omega) (by omega) hit
      obtain ⟨m, em⟩ : ∃ x, x = (N.getD j []).length := ⟨_, rfl⟩
      obtain ⟨gj, egj⟩ : ∃ x, x = gs.getD j 0 := ⟨_, rfl⟩
      have HU := HO.out.up j hlt
      have HL : Hid (B ≤ gj) := by show _ ≤ _; rw [egj]; exact (ownS_lt hit).1
      have HM : Hid (m = (N.getD j []).length ∧ gj = gs.getD j 0 ∧ g < gj ∧ gj < U) := ⟨em, egj, by rw [egj]; exact HU.1, by rw [egj]; exact HU.2⟩
      obtain ⟨tj, etj⟩ : ∃ x, x = tnn (N.take j) := ⟨_, rfl⟩
      rw [← em, ← egj] at HS d0
      rw [← em] at hbd htk
      rw [← etj] at HS htk htl ⊢
      clear hrow hit em egj etj HU
      go_wp2_with fail
      refine HS.mono ?_
      rintro e w' ⟨rfl, _, hg2⟩
      have HN : Hid ((w'.heap[g]? = w.heap[g]? ∧ ∀ i, j + 1 ≤ i → i < N.length → w'.heap[gs.getD i 0]? = w.heap[gs.getD i 0]?) ∧ Keep B U w w') := by
        have hm := HM.out
        have hne : ∀ b, b ≠ gj → b < wr.heap.size → w'.heap[b]? = wr.heap[b]? := fun b hb hl => hg2.block b hl (fun h => hb (by simpa [Value.ownBlock] using h))
        have hs := HK.out.size
        have hg0 := (HO.out.row.lt g rfl).2
        refine ⟨⟨(hne g (by omega) (by omega)).trans HR.out.1, fun i h3 h4 => ?_⟩, HK.out.trans (Keep.of_grown hg2 (fun b hb => ?_))⟩
        · have ha := HO.out.apart j i (by omega) h4
          have hl := (ownS_lt (HO.out.item i h4)).2
          exact (hne _ (by omega) (by omega)).trans (HR.out.2 i (by omega) h4)
        · have e9 : b = gj := by simp [Value.ownBlock] at hb; exact hb.symm
          rw [e9]; exact ⟨HL.out, hm.2.2.2⟩
      clear hg2 HS
      go_wp2_with fail
      go_roundw
      case rel => exact ⟨j + 1, by omega, by go_num, by have := htk.out; congr 1; omega, HN.out.1, HN.out.2⟩
      case measure => simp [intOf]; omega
    · obtain rfl : j = N.length := by omega
      rw [List.take_length] at *
      go_wp2_with fail
      go_ret
      exact ⟨rfl, HK.out⟩
end Go.Proofs.YtelcfcgdnebdgaaGreatDoor
namespace Go.Proofs.YtelcfcgdnebdgaaGreatDoor
open Go Go.RowKit
set_option linter.unusedVariables false
def OwnOU (w : World) (B U : Nat) (p : Option Addr) (n c : Nat) (cs : List Cel) : Prop :=
  n = cs.length ∧ ∃ rs : List RC, rs.length = cs.length ∧ w.ownsRow B 63 3 (.slice p n c) n (flatO rs) ∧ (∀ i, i < cs.length → Fits w B (rs.getD i RC.zero) (cs.getD i Cel.none)) ∧ ApartC p rs ∧
    (∀ k, Value.ownBlock (.slice p n c) = some k → k < U) ∧ (∀ i, i < cs.length → ∀ k, tb (rs.getD i RC.zero).2.2.1 (rs.getD i RC.zero).2.2.2.1 = some k → k < U)
theorem OwnOU.toO {w : World} {B U : Nat} {p : Option Addr} {n c : Nat} {cs : List Cel} (h : OwnOU w B U p n c cs) : OwnO w B p n c cs := by
  obtain ⟨hn, rs, hl, hr, hf, ha, _⟩ := h
  exact ⟨hn, rs, hl, hr, hf, ha⟩
theorem OwnO.up {w : World} {B : Nat} {p : Option Addr} {n c : Nat} {cs : List Cel} (h : OwnO w B p n c cs) : OwnOU w B w.heap.size p n c cs := by
  obtain ⟨hn, rs, hl, hr, hf, ha⟩ := h
  exact ⟨hn, rs, hl, hr, hf, ha, fun k hk => (hr.lt k hk).2, fun i hi k hk => ((hf i hi).2.2.tb hk).2.2⟩
theorem OwnOU.other {w w' : World} {B U : Nat} {p : Option Addr} {n c : Nat} {cs : List Cel} (h : OwnOU w B U p n c cs) (hs : w.heap.size ≤ w'.heap.size) (hb : ∀ k, k < w.heap.size → B ≤ k → k < U → w'.heap[k]? = w.heap[k]?) : OwnOU w' B U p n c cs := by
  obtain ⟨hn, rs, hl, hr, hf, ha, hu, ht⟩ := h
  refine ⟨hn, rs, hl, ⟨hr.1, ?_⟩, fun i hi => ⟨(hf i hi).1, (hf i hi).2.1, (hf i hi).2.2.other hs (fun g hn0 e => ?_)⟩, ha, hu, ht⟩
  · rcases hr.2 with h' | ⟨g, cap, cur, hv, hB, hg, r⟩
    · exact .inl h'
    · refine .inr ⟨g, cap, cur, hv, hB, (hb g (Array.getElem?_eq_some_iff.1 hg).1 hB (hu g ?_)).trans hg, r⟩
      simp only [Value.slice.injEq] at hv
      rw [hv.1]; rfl
  · have e' : Go.Proofs.YtelcfcgdnebdgaaGreatDoor.tb (rs.getD i RC.zero).2.2.1 (rs.getD i RC.zero).2.2.2.1 = some g := by rw [e]; exact tb_of hn0
    have := (hf i hi).2.2.tb e'
    exact hb g this.2.2 this.2.1 (ht i hi g e')
theorem OwnOU.below {w w' : World} {B U : Nat} {p : Option Addr} {n c : Nat} {cs : List Cel} (h : OwnOU w B U p n c cs) (hb : Below w.heap.size w w') : OwnOU w' B U p n c cs := h.other hb.size (fun k hk _ _ => hb.block k hk)
theorem OwnOU.keep {w w' : World} {B U B' U' : Nat} {p : Option Addr} {n c : Nat} {cs : List Cel} (h : OwnOU w B U p n c cs) (hk : Keep B' U' w w') (ho : U ≤ B' ∨ U' ≤ B) : OwnOU w' B U p n c cs := h.other hk.size (fun k h1 h2 h3 => hk.block k h1 (by omega))
def markedO (k : Int) (cs : List Cel) (j : Nat) : Cel := (kAt k cs j + (cs.getD j Cel.none).2.2.length, kAt k cs j + (cs.getD j Cel.none).2.2.length + 1, marks (kAt k cs j) (cs.getD j Cel.none).2.2.length)
def mixO (k : Int) (cs : List Cel) (j : Nat) : List Cel := (List.range cs.length).map fun i => if i < j then markedO k cs i else cs.getD i Cel.none
theorem mixO_len (k : Int) (cs : List Cel) (j : Nat) : (mixO k cs j).length = cs.length := by simp [mixO]
theorem mixO_at (k : Int) (cs : List Cel) (j i : Nat) (h : i < cs.length) : (mixO k cs j).getD i Cel.none = if i < j then markedO k cs i else cs.getD i Cel.none := by
  simp [mixO, List.getD, h]
theorem mixO_zero (k : Int) (cs : List Cel) : mixO k cs 0 = cs := same_cells (mixO_len ..) (fun j hj => by rw [mixO_at _ _ _ _ (by rw [mixO_len] at hj; exact hj), if_neg (Nat.not_lt_zero _)])
theorem mixO_succ (k : Int) (cs : List Cel) (j : Nat) (h : j < cs.length) : mixO k cs (j + 1) = (mixO k cs j).set j (markedO k cs j) := same_cells (by simp [mixO]) (fun i hi => by
  rw [mixO_len] at hi
  rw [mixO_at _ _ _ _ hi, cs_set_at _ _ _ _ (by rw [mixO_len]; exact h)]
  by_cases e : i = j
  · subst e; rw [if_pos (by omega), if_pos rfl]
  · rw [if_neg e, mixO_at _ _ _ _ hi]
    by_cases e2 : i < j
    · rw [if_pos e2, if_pos (by omega)]
    · rw [if_neg e2, if_neg (by omega)])
theorem flatO_set2 : ∀ (rs : List RC) (i : Nat) (a b : Int), i < rs.length → ((flatO rs).set (i * 3 + 1) (.int .i64 a)).set (i * 3 + 2) (.int .i64 b) = flatO (rs.set i (a, b, (rs.getD i RC.zero).2.2))
  | [], i, a, b, h => by simp at h
  | x :: rs, 0, a, b, _ => by simp [flatO_cons]
  | x :: rs, i + 1, a, b, h => by
    have := flatO_set2 rs i a b (by simpa using h)
    rw [flatO_cons, show (i + 1) * 3 + 1 = (i * 3 + 1) + 1 + 1 + 1 by omega, show (i + 1) * 3 + 2 = (i * 3 + 2) + 1 + 1 + 1 by omega]
    simp only [List.set_cons_succ, this]
    rfl
theorem markO_one {w w3 : World} {B U g n c j : Nat} {ds : List Cel} {rs : List RC} (hn : n = ds.length) (hl : rs.length = ds.length) (hr : w.ownsRow B 63 3 (.slice (some ⟨g, 0, none⟩) n c) n (flatO rs)) (hf : ∀ i, i < ds.length → Fits w B (rs.getD i RC.zero) (ds.getD i Cel.none))
    (ha : ApartC (some ⟨g, 0, none⟩) rs) (hu : g < U) (ht : ∀ i, i < ds.length → ∀ k, tb (rs.getD i RC.zero).2.2.1 (rs.getD i RC.zero).2.2.2.1 = some k → k < U) (hj : j < ds.length) (a b : Int) (ms : List Int)
    (ho : OwnT w3 B (rs.getD j RC.zero).2.2.1 (rs.getD j RC.zero).2.2.2.1 (rs.getD j RC.zero).2.2.2.2 ms)
    (hg : w.grownBy w3 (tb (rs.getD j RC.zero).2.2.1 (rs.getD j RC.zero).2.2.2.1)) :
    OwnOU ((w3.setCell ⟨g, j * 3 + 1, none⟩ (.int .i64 a)).setCell ⟨g, j * 3 + 2, none⟩ (.int .i64 b)) B U (some ⟨g, 0, none⟩) n c (ds.set j (a, b, ms)) ∧ Keep B U w ((w3.setCell ⟨g, j * 3 + 1, none⟩ (.int .i64 a)).setCell ⟨g, j * 3 + 2, none⟩ (.int .i64 b)) := by
  have hgB := (hr.lt g rfl)
  have hnrow : ∀ i, i < ds.length → tb (rs.getD i RC.zero).2.2.1 (rs.getD i RC.zero).2.2.2.1 ≠ some g := fun i hi e => by
    have h1 := (hf i hi).2.2.tb e
    exact ha.1 i (by omega) (tb_some e).1 h1.1
  have hr3 := hr.kept hg (.inr (fun e => hnrow j hj e.symm))
  have h2 := ((hr3.stored (j * 3 + 1) (.int .i64 a)).1.stored (j * 3 + 2) (.int .i64 b)).1
  rw [flatO_set2 rs j a b (by omega)] at h2
  have hat : ∀ i, ((rs.set j (a, b, (rs.getD j RC.zero).2.2)).getD i RC.zero).2.2 = (rs.getD i RC.zero).2.2 := fun i => by
    rw [rs_set_at _ _ _ _ (by omega)]
    by_cases e : i = j
    · rw [if_pos e, e]
    · rw [if_neg e]
  refine ⟨⟨by simpa using hn, rs.set j (a, b, (rs.getD j RC.zero).2.2), by simpa using hl, h2, fun i hi => ?_, ⟨fun i hi => ?_, fun i i' hi hi' hne => ?_⟩, fun k hk => ?_, fun i hi k hk => ?_⟩, ?_⟩
  · have hi' : i < ds.length := by simpa using hi
    rw [cs_set_at _ _ _ _ hj, rs_set_at _ _ _ _ (by omega)]
    by_cases e : i = j
    · rw [if_pos e, if_pos e]
      exact ⟨rfl, rfl, (ho.setCell (a := ⟨g, j * 3 + 1, none⟩) (fun hp e' => ha.1 j (by omega) hp e') _).setCell (a := ⟨g, j * 3 + 2, none⟩) (fun hp e' => ha.1 j (by omega) hp e') _⟩
    · rw [if_neg e, if_neg e]
      obtain ⟨q0, q1, q2⟩ := hf i hi'
      have q3 := q2.other hg.size (fun k hp e' => by
        have hk := (q2.tb (e' ▸ tb_of hp)).2.2
        refine hg.block k (by simpa using hk) (fun e2 => ?_)
        have h5 := (hf j hj).2.2.tb e2.symm
        exact ha.2 i j (by omega) (by omega) e hp (tb_some e2.symm).1 (by rw [e', h5.1]))
      exact ⟨q0, q1, (q3.setCell (a := ⟨g, j * 3 + 1, none⟩) (fun hp e' => ha.1 i (by omega) hp e') _).setCell (a := ⟨g, j * 3 + 2, none⟩) (fun hp e' => ha.1 i (by omega) hp e') _⟩
  · rw [hat]; exact ha.1 i (by simpa using hi)
  · rw [hat, hat]; exact ha.2 i i' (by simpa using hi) (by simpa using hi') hne
  · have : k = g := (Option.some.inj hk).symm
    omega
  · rw [hat] at hk
    exact ht i (by simpa using hi) k hk
  · refine Keep.trans (Keep.of_grown hg (fun k e => ⟨((hf j hj).2.2.tb e).2.1, ht j hj k e⟩)) (Keep.trans (b := w3.setCell ⟨g, j * 3 + 1, none⟩ (.int .i64 a)) ?_ ?_)
    · exact ⟨rfl, rfl, rfl, by simp, fun k _ hp => Below.heap_setCell _ _ _ _ (show k ≠ g by omega)⟩
    · exact ⟨rfl, rfl, rfl, by simp, fun k _ hp => Below.heap_setCell _ _ _ _ (show k ≠ g by omega)⟩
def markO (k : Int) (cs : List Cel) : List Cel := mixO k cs cs.length
def endO (k : Int) (cs : List Cel) : Int := kAt k cs cs.length
theorem markOps_any (B U : Nat) (p : Option Addr) (n c : Nat) (k : Int) (cs : List Cel) (w : World) (h0 : 0 ≤ k) (h1 : k ≤ 10000000) (hn : cs.length + tl cs ≤ 100000000) (hown : OwnOU w B U p n c cs) :
    Calls Tryz.prog 17 #[.slice p n c, .int .i64 k] w fun e w' => e = .returned (.int .i64 (endO k cs)) ∧ OwnOU w' B U p n c (markO k cs) ∧ Keep B U w w' := by
  have hnl := hown.1
  have HO : Hid (OwnOU w B U p n c cs) := hown
  clear hown
  have HNL : Hid (n = cs.length) := hnl
  clear hnl
  go_enter Tryz.func17, Tryz.ntmps17
  go_wp2
  go_loopw [1, 5] (fun q i wr => ∃ (j : Nat) (kj : Int), j ≤ n ∧ 0 ≤ kj ∧ kj ≤ 1000000000 ∧ i = .int .i64 j ∧ q = .int .i64 kj ∧ Hid (kj = kAt k cs j) ∧ Hid (OwnOU wr B U p n c (mixO k cs j)) ∧ Hid (Keep B U w wr)) (fun _ i _ => n - (intOf i).toNat)
  case atStart => exact ⟨0, k, Nat.zero_le _, h0, by omega, rfl, rfl, (kAt_zero _ _).symm, by rw [mixO_zero]; exact HO, Keep.refl _ _ _⟩
  case round =>
    obtain ⟨j, kj, hj, hk0, hk1, rfl, rfl, HK, HR, HG⟩ := hrel
    by_cases hlt : j < n
    · obtain ⟨hn1, rs, hl, hr, hf, ha, hu, ht⟩ := HR.out
      obtain ⟨g, cap, hv, hbg, hgs⟩ := hr.form (by omega)
      simp only [Value.slice.injEq, true_and] at hv
      obtain ⟨rfl, rfl⟩ := hv
      have hjl : j < cs.length := by rw [← HNL.out]; exact hlt
      rw [mixO_len] at hl hf ht
      obtain ⟨a0, a1, a2⟩ := flatO_at rs j (by omega)
      have d0 := (hr.cellAt (j * 3) (by omega)).trans a2
      have d1 := (hr.cellAt (j * 3 + 1) (by omega)).trans a0
      have d2 := (hr.cellAt (j * 3 + 2) (by omega)).trans a1
      have ff := hr.frozenAt
      obtain ⟨q0, q1, q2⟩ := hf j hjl
      have hlen : (rs.getD j RC.zero).2.2.2.1 = (cs.getD j Cel.none).2.2.length := by
        rw [q2.1, mixO_at _ _ _ _ hjl, if_neg (Nat.lt_irrefl j)]
      have htl := tl_at cs j hjl
      have HMARK := markT_any B (rs.getD j RC.zero).2.2.1 (rs.getD j RC.zero).2.2.2.1 (rs.getD j RC.zero).2.2.2.2 kj _ _ (by omega) (by omega) (by omega) q2
      have HNR : Hid (tb (rs.getD j RC.zero).2.2.1 (rs.getD j RC.zero).2.2.2.1 ≠ some g) := fun e => ha.1 j (by omega) (tb_some e).1 (q2.tb e).1
      have HONE : Hid (∀ w3 ms (a b : Int), OwnT w3 B (rs.getD j RC.zero).2.2.1 (rs.getD j RC.zero).2.2.2.1 (rs.getD j RC.zero).2.2.2.2 ms → wr.grownBy w3 (tb (rs.getD j RC.zero).2.2.1 (rs.getD j RC.zero).2.2.2.1) →
          OwnOU ((w3.setCell ⟨g, j * 3 + 1, none⟩ (.int .i64 a)).setCell ⟨g, j * 3 + 2, none⟩ (.int .i64 b)) B U (some ⟨g, 0, none⟩) n c ((mixO k cs j).set j (a, b, ms)) ∧ Keep B U wr ((w3.setCell ⟨g, j * 3 + 1, none⟩ (.int .i64 a)).setCell ⟨g, j * 3 + 2, none⟩ (.int .i64 b))) := fun w3 ms a b h1 h2 => markO_one hn1 (by rw [mixO_len]; exact hl) hr (by rw [mixO_len]; exact hf) ha (hu g rfl) (by rw [mixO_len]; exact ht) (by rw [mixO_len]; exact hjl) a b ms h1 h2
      have HS1 : Hid _ := kAt_succ k cs j hjl
      have HS2 : Hid _ := mixO_succ k cs j hjl
      have HLEN : Hid _ := hlen
      have hbound : kAt k cs (j + 1) ≤ 1000000000 := by have := tl_take_le cs (j + 1); simp only [kAt]; omega
      have HBD : Hid _ := hbound
      obtain ⟨tp, etp⟩ : ∃ x, x = (rs.getD j RC.zero).2.2.1 := ⟨_, rfl⟩
      obtain ⟨tn, etn⟩ : ∃ x, x = (rs.getD j RC.zero).2.2.2.1 := ⟨_, rfl⟩
      obtain ⟨tc, etc⟩ : ∃ x, x = (rs.getD j RC.zero).2.2.2.2 := ⟨_, rfl⟩
      obtain ⟨z1, ez1⟩ : ∃ x, x = (rs.getD j RC.zero).1 := ⟨_, rfl⟩
      obtain ⟨z2, ez2⟩ : ∃ x, x = (rs.getD j RC.zero).2.1 := ⟨_, rfl⟩
      rw [← etp, ← etn, ← etc] at HMARK d0 HONE
      rw [← etp, ← etn] at HNR
      rw [← ez1] at d1
      rw [← ez2] at d2
      rw [← etn] at HLEN hlen
      have htn : tn ≤ 100000000 := by omega
      have hgl : g < wr.heap.size := hgs
      clear etp etn etc ez1 ez2 hn1 hl hr hf ha hu ht a0 a1 a2 q0 q1 q2 hlen htl HR HO hbound hgs
      go_wp2_with fail
      refine HMARK.mono ?_
      rintro e w3 ⟨rfl, ho3, hg3⟩
      have hblk : w3.heap[g]? = wr.heap[g]? := hg3.block g hgl (fun e => HNR.out e.symm)
      have d0 := (World.cell?_of_block (w := wr) (w' := w3) (a := ⟨g, j * 3, none⟩) hblk).trans d0
      have d1 := (World.cell?_of_block (w := wr) (w' := w3) (a := ⟨g, j * 3 + 1, none⟩) hblk).trans d1
      have d2 := (World.cell?_of_block (w := wr) (w' := w3) (a := ⟨g, j * 3 + 2, none⟩) hblk).trans d2
      have ff : ∀ i, w3.frozen? ⟨g, i, none⟩ = false := fun i => (World.frozen?_of_block (w := wr) (w' := w3) (a := ⟨g, i, none⟩) hblk).trans (ff i)
      have HFIN : Hid _ := HONE.out w3 _ (kj + tn) (kj + tn + 1) ho3 hg3
      have hkb1 : kj + (tn : Int) ≤ 9000000000 := by omega
      have hkb0 : 0 ≤ kj + (tn : Int) := by omega
      clear ho3 hg3 hblk HMARK
      go_wp2_with fail
      have e1 := HS1.out
      have e2 := HS2.out
      have e3 := HK.out
      have e4 := HLEN.out
      have e5 := HBD.out
      have hfin := HFIN.out
      go_roundw
      case rel => exact ⟨j + 1, kj + tn + 1 + 1, by omega, by omega, by rw [e1] at e5; omega, by go_num, rfl, by show _ = _; rw [e1]; omega, by
        show OwnOU _ _ _ _ _ _ _
        rw [e2, markedO, ← e3, ← e4]
        exact hfin.1, HG.out.trans hfin.2⟩
      case measure => simp [intOf]; omega
    · obtain rfl : j = n := by omega
      go_wp2_with fail
      go_ret
      refine ⟨ret_int ?_, ?_, HG.out⟩
      · rw [HK.out, HNL.out]; rfl
      · have := HR.out
        rw [markO, ← HNL.out]
        exact this
end Go.Proofs.YtelcfcgdnebdgaaGreatDoor
namespace Go.Proofs.YtelcfcgdnebdgaaGreatDoor
open Go Go.RowKit
set_option linter.unusedVariables false
structure OArg (w : World) (p : Option Addr) (cs : List Cel) : Prop where
  lies : OIn w p cs
  len : cs.length ≤ 9223372036854775807
  text : ∀ i, i < cs.length → (cs.getD i Cel.none).2.2.length ≤ 9223372036854775807
  byte : ∀ i, i < cs.length → ∀ x ∈ (cs.getD i Cel.none).2.2, 0 ≤ x ∧ x < 256
  wide : ∀ i, i < cs.length → -9223372036854775808 ≤ (cs.getD i Cel.none).1 ∧ (cs.getD i Cel.none).1 ≤ 9223372036854775807 ∧ -9223372036854775808 ≤ (cs.getD i Cel.none).2.1 ∧ (cs.getD i Cel.none).2.1 ≤ 9223372036854775807
theorem OArg.below {W W' : World} {p : Option Addr} {cs : List Cel} (h : OArg W p cs) (hb : Below W.heap.size W W') : OArg W' p cs := ⟨h.lies.below hb, h.len, h.text, h.byte, h.wide⟩
end Go.Proofs.YtelcfcgdnebdgaaGreatDoor
namespace Go.Proofs.YtelcfcgdnebdgaaGreatDoor
open Go Go.RowKit
set_option linter.unusedVariables false
theorem szOp_any (k n : Int) (p : Option Addr) (m cap L : Nat) (w : World) (hL : L ≤ 1048576) (hn : m ≤ 9223372036854775807) :
    Calls Tryz.prog 28 #[.agg #[.slice p m cap, .int .i64 k, .int .i64 n], .int .i64 L] w fun e w' => e = .returned (.int .i64 (szR L m)) ∧ Below w.heap.size w w' := by
  by_cases h : m ≤ L
  · have e : szR L m = (L : Int) - m := by simp [szR, h]
    have HS := fun w => szByteS_any p m cap L w hL hn
    rw [e] at HS ⊢
    have h0 : ¬ ((L : Int) - m < 0) := by omega
    go_enter Tryz.func28, Tryz.ntmps28
    go_wp2_with (go_at_call 30; refine (HS _).mono ?_; rintro e w' ⟨rfl, rfl⟩)
    go_ret
    exact ⟨rfl, (Below.refl _ _).alloc (Nat.le_refl _) _⟩
  · have e : szR L m = -1 := by simp [szR, h]
    have HS := fun w => szByteS_any p m cap L w hL hn
    rw [e] at HS ⊢
    go_enter Tryz.func28, Tryz.ntmps28
    go_wp2_with (go_at_call 30; refine (HS _).mono ?_; rintro e w' ⟨rfl, rfl⟩)
    go_ret
    exact ⟨rfl, (Below.refl _ _).alloc (Nat.le_refl _) _⟩
theorem szOpS_any (p : Option Addr) (cap : Nat) (cs : List Cel) (L : Nat) (w : World) (hL : L ≤ 1048576) (hn : cs.length ≤ 9223372036854775807) (hm : ∀ i, i < cs.length → (cs.getD i Cel.none).2.2.length ≤ 9223372036854775807) (hc : OIn w p cs) :
    Calls Tryz.prog 5 #[.slice p cs.length cap, .int .i64 L] w fun e w' => e = .returned (.int .i64 (szR L (cs.length + tl cs))) ∧ Below w.heap.size w w' := by
  by_cases h : cs.length ≤ L
  · have h0 : ¬ ((L : Int) - cs.length < 0) := by omega
    go_enter Tryz.func5, Tryz.ntmps5
    go_wp2
    have HL : Hid (cs.length ≤ L) := h
    clear h h0
    go_loopw [1, 5] (fun l i wr => ∃ k : Nat, k ≤ cs.length ∧ i = .int .i64 k ∧ Hid (cs.length + tl (cs.take k) ≤ L) ∧ l = .int .i64 ((L : Int) - (cs.length + tl (cs.take k) : Nat)) ∧ Below w.heap.size w wr) (fun _ i _ => cs.length - (intOf i).toNat)
    case atStart => exact ⟨0, Nat.zero_le _, rfl, by simpa [tl, Hid] using HL.out, by simp [tl], Below.refl _ _⟩
    case round =>
      obtain ⟨k, hk, rfl, HT, rfl, hbr⟩ := hrel
      by_cases hlt : k < cs.length
      · obtain ⟨b, o, rfl, hcs⟩ := hc (by omega)
        obtain ⟨q, qc, h0, h1, h2, _⟩ := (hcs k hlt).below hbr
        have hmk := hm k hlt
        have htk : Hid _ := tl_take cs k hlt
        have htl : Hid _ := tl_take_le cs (k + 1)
        obtain ⟨c0, e0⟩ : ∃ x, x = (cs.getD k Cel.none).1 := ⟨_, rfl⟩
        obtain ⟨c1, e1⟩ : ∃ x, x = (cs.getD k Cel.none).2.1 := ⟨_, rfl⟩
        obtain ⟨m, em⟩ : ∃ x, x = (cs.getD k Cel.none).2.2.length := ⟨_, rfl⟩
        rw [← e0] at h0
        rw [← e1] at h1
        rw [← em] at h2 hmk htk
        obtain ⟨L', eL⟩ : ∃ x, x = L - (cs.length + tl (cs.take k)) := ⟨_, rfl⟩
        have eL' : ((L : Int) - (cs.length + tl (cs.take k) : Nat)) = (L' : Int) := by have := HT.out; omega
        have hL' : L' ≤ 1048576 := by omega
        rw [eL']
        have HE : Hid (L' = L - (cs.length + tl (cs.take k))) := eL
        have HB : Hid (Below w.heap.size w wr) := hbr
        clear e0 e1 em eL eL' hcs hc hbr hm
        by_cases hfit : m ≤ L'
        · have e : szR L' m = (L' : Int) - m := by simp [szR, hfit]
          have HS := fun w => szOp_any c0 c1 q m qc L' w hL' hmk
          rw [e] at HS
          have h0' : ¬ ((L' : Int) - m < 0) := by omega
          go_wp2_with (go_at_call 28; refine (HS _).mono ?_; rintro e w' ⟨rfl, hb1⟩)
          go_roundw
          case rel => exact ⟨k + 1, by omega, by go_num, by have := HT.out; have := htk.out; have := HE.out; show _ ≤ _; omega, by have := HT.out; have := htk.out; have := HE.out; congr 1; omega, Below.on HB.out hb1⟩
          case measure => simp [intOf]; omega
        · have e : szR L' m = -1 := by simp [szR, hfit]
          have HS := fun w => szOp_any c0 c1 q m qc L' w hL' hmk
          rw [e] at HS
          go_wp2_with (go_at_call 28; refine (HS _).mono ?_; rintro e w' ⟨rfl, hb1⟩)
          go_ret
          refine ⟨ret_int ?_, Below.on HB.out hb1⟩
          have := HT.out; have := htk.out; have := HE.out; have := htl.out
          rw [szR, if_neg (by omega)]
      · obtain rfl : k = cs.length := by omega
        have HB : Hid (Below w.heap.size w wr) := hbr
        clear hbr hc hm
        rw [List.take_length] at *
        go_wp2
        go_ret
        exact ⟨ret_int (by rw [szR, if_pos HT.out]), HB.out⟩
  · have e : szR L (cs.length + tl cs) = -1 := by rw [szR, if_neg (by omega)]
    rw [e]
    have h0 : (L : Int) - cs.length < 0 := by omega
    clear hc hm
    go_enter Tryz.func5, Tryz.ntmps5
    go_wp2
    go_ret
    exact ⟨rfl, Below.refl _ _⟩
end Go.Proofs.YtelcfcgdnebdgaaGreatDoor
