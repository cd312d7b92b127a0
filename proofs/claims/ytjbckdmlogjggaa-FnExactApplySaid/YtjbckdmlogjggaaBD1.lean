/- Bindings: how they lie, how much there is; rows of pairs. Own work of the verifier. -/
import Derived.Test.YtjbckdmlogjggaaSSG
import Derived.Test.YtjbckdmlogjggaaCArg
import Derived.Test.YtjbckdmlogjggaaStr0
namespace Go.Proofs.Ytjbckdmlogjggaa
open Go Go.RowKit
set_option linter.unusedVariables false

/-- A row of pairs of values. -/
def pairRow (f g : Nat → Value) (n : Nat) : List Value := (List.range n).flatMap fun i => [f i, g i]
theorem pairRow_succ (f g : Nat → Value) (n : Nat) : pairRow f g (n + 1) = pairRow f g n ++ [f n, g n] := by simp [pairRow, List.range_succ]
theorem pairRow_len (f g : Nat → Value) : ∀ n, (pairRow f g n).length = n * 2
  | 0 => rfl
  | n + 1 => by rw [pairRow_succ, List.length_append, pairRow_len f g n]; simp; omega
theorem pairRow_get (f g : Nat → Value) : ∀ (n k : Nat), (pairRow f g n)[k]? = if k < n * 2 then some (if k % 2 = 0 then f (k / 2) else g (k / 2)) else none
  | 0, k => by simp [pairRow]
  | n + 1, k => by
    rw [pairRow_succ]
    rcases Nat.lt_or_ge k (n * 2) with h | h
    · rw [List.getElem?_append_left (by rw [pairRow_len]; exact h), pairRow_get f g n k, if_pos h, if_pos (show k < (n + 1) * 2 by omega)]
    · rw [List.getElem?_append_right (by rw [pairRow_len]; exact h), pairRow_len]
      rcases Nat.lt_or_ge k (n * 2 + 2) with h2 | h2
      · rw [if_pos (show k < (n + 1) * 2 by omega)]
        have : k = n * 2 ∨ k = n * 2 + 1 := by omega
        rcases this with e | e
        · subst e
          have e1 : n * 2 - n * 2 = 0 := by omega
          have e2 : n * 2 % 2 = 0 := by omega
          have e3 : n * 2 / 2 = n := by omega
          rw [e1, e2, e3]; simp
        · subst e
          have e1 : n * 2 + 1 - n * 2 = 1 := by omega
          have e2 : (n * 2 + 1) % 2 = 1 := by omega
          have e3 : (n * 2 + 1) / 2 = n := by omega
          rw [e1, e2, e3]; simp
      · rw [if_neg (show ¬ k < (n + 1) * 2 by omega), List.getElem?_eq_none (by simp; omega)]
theorem pairRow_at0 (f g : Nat → Value) (n i : Nat) (h : i < n) : (pairRow f g n)[i * 2]? = some (f i) := by
  rw [pairRow_get, if_pos (by omega), if_pos (by omega), show i * 2 / 2 = i by omega]
theorem pairRow_at1 (f g : Nat → Value) (n i : Nat) (h : i < n) : (pairRow f g n)[i * 2 + 1]? = some (g i) := by
  rw [pairRow_get, if_pos (by omega), if_neg (by omega), show (i * 2 + 1) / 2 = i by omega]
theorem pairRow_congr {f g f' g' : Nat → Value} {n : Nat} (h : ∀ i, i < n → f i = f' i ∧ g i = g' i) : pairRow f g n = pairRow f' g' n := by
  apply List.ext_getElem?
  intro k
  rw [pairRow_get, pairRow_get]
  split
  · have := h (k / 2) (by omega)
    rw [this.1, this.2]
  · rfl
theorem pairRow_set {f g f' g' : Nat → Value} {n i : Nat} (hi : i < n) (h : ∀ j, j < n → j ≠ i → f j = f' j ∧ g j = g' j) : ((pairRow f g n).set (i * 2) (f' i)).set (i * 2 + 1) (g' i) = pairRow f' g' n := by
  apply List.ext_getElem?
  intro k
  rw [List.getElem?_set, List.length_set, pairRow_len]
  by_cases e1 : i * 2 + 1 = k
  · subst e1
    rw [if_pos rfl, if_pos (by omega), pairRow_at1 _ _ _ _ hi]
  · rw [if_neg e1, List.getElem?_set, pairRow_len]
    by_cases e0 : i * 2 = k
    · subst e0
      rw [if_pos rfl, if_pos (by omega), pairRow_at0 _ _ _ _ hi]
    · rw [if_neg e0, pairRow_get, pairRow_get]
      split
      · have := h (k / 2) (by omega) (by omega)
        rw [this.1, this.2]
      · rfl
theorem pairRow_set0 {f g f' : Nat → Value} {n i : Nat} (hi : i < n) (h : ∀ j, j < n → j ≠ i → f j = f' j) : (pairRow f g n).set (i * 2) (f' i) = pairRow f' g n := by
  apply List.ext_getElem?
  intro k
  rw [List.getElem?_set, pairRow_len]
  by_cases e0 : i * 2 = k
  · subst e0
    rw [if_pos rfl, if_pos (by omega), pairRow_at0 _ _ _ _ hi]
  · rw [if_neg e0, pairRow_get, pairRow_get]
    split
    · split
      · rw [h (k / 2) (by omega) (by omega)]
      · rfl
    · rfl

/-- A binding: a variable's number, and cells. -/
abbrev Bnd := Int × List Cel
def Bnd.zero : Bnd := (0, [])
def trm (bs : List Bnd) : List (List Cel) := bs.map Prod.snd
theorem trm_len (bs : List Bnd) : (trm bs).length = bs.length := by simp [trm]
theorem trm_at (bs : List Bnd) (i : Nat) : (trm bs).getD i [] = (bs.getD i Bnd.zero).2 := by
  simp only [trm, List.getD, List.getElem?_map]
  cases bs[i]? <;> rfl
/-- How a slice of bindings lies. -/
def BdIn (w : World) (p : Option Addr) (bs : List Bnd) : Prop :=
  0 < bs.length → ∃ b o, p = some ⟨b, o, none⟩ ∧ ∀ i, i < bs.length → ∃ q c, w.cell? ⟨b, o + i * 2, none⟩ = some (.int .i64 (bs.getD i Bnd.zero).1) ∧ w.cell? ⟨b, o + i * 2 + 1, none⟩ = some (.slice q (bs.getD i Bnd.zero).2.length c) ∧ CIn w q (bs.getD i Bnd.zero).2
theorem BdIn.below {W W' : World} {p : Option Addr} {bs : List Bnd} (h : BdIn W p bs) (hb : Below W.heap.size W W') : BdIn W' p bs := fun hn => by
  obtain ⟨b, o, rfl, hc⟩ := h hn
  refine ⟨b, o, rfl, fun i hi => ?_⟩
  obtain ⟨q, c, h0, h1, h2⟩ := hc i hi
  exact ⟨q, c, (hb.cell (World.block_lt_of_cell? _ _ h0)).trans h0, (hb.cell (World.block_lt_of_cell? _ _ h1)).trans h1, h2.below hb⟩
/-- What is asked of bindings that came in. -/
structure BdArg (w : World) (p : Option Addr) (bs : List Bnd) : Prop where
  lies : BdIn w p bs
  len : bs.length ≤ 9223372036854775807
  item : ∀ i, i < bs.length → (bs.getD i Bnd.zero).2.length ≤ 9223372036854775807 ∧ (∀ j, j < (bs.getD i Bnd.zero).2.length → ((bs.getD i Bnd.zero).2.getD j Cel.none).2.2.length ≤ 9223372036854775807) ∧ (∀ j, j < (bs.getD i Bnd.zero).2.length → Byte ((bs.getD i Bnd.zero).2.getD j Cel.none).2.2)
theorem BdArg.below {W W' : World} {p : Option Addr} {bs : List Bnd} (h : BdArg W p bs) (hb : Below W.heap.size W W') : BdArg W' p bs := ⟨h.lies.below hb, h.len, h.item⟩

theorem szBinding_any (v : Int) (p : Option Addr) (cap : Nat) (cs : List Cel) (m L : Nat) (w : World) (hm : m = cs.length) (hL : L ≤ 1048576) (hn : m ≤ 9223372036854775807) (ht : ∀ i, i < cs.length → (cs.getD i Cel.none).2.2.length ≤ 9223372036854775807) (hc : CIn w p cs) :
    Calls Try.prog 38 #[.agg #[.int .i64 v, .slice p m cap], .int .i64 L] w fun e w' => e = .returned (.int .i64 (szR L (cs.length + tl cs))) ∧ Below w.heap.size w w' := by
  have HS : Hid (∀ W, Below w.heap.size w W → Calls Try.prog 7 #[.slice p m cap, .int .i64 L] W fun e w' => e = .returned (.int .i64 (szR L (cs.length + tl cs))) ∧ Below W.heap.size W w') := fun W hW => by rw [hm]; exact szCellS_any p cap cs L W hL (by omega) ht (hc.below hW)
  have HB : Hid (∀ o, Below w.heap.size w (w.alloc o)) := fun o => (Below.refl _ _).alloc (Nat.le_refl _) _
  by_cases h : cs.length + tl cs ≤ L
  · have e : szR L (cs.length + tl cs) = ((L - (cs.length + tl cs) : Nat) : Int) := by rw [szR, if_pos h]; omega
    rw [e] at HS ⊢
    obtain ⟨r, er⟩ : ∃ r, r = L - (cs.length + tl cs) := ⟨_, rfl⟩
    rw [← er] at HS ⊢
    clear hm hc e er h ht
    go_enter Try.func38, Try.ntmps38
    go_wp2_with fail
    refine (HS.out _ (HB.out _)).mono ?_
    rintro e w1 ⟨rfl, hb1⟩
    have HB1 : Hid _ := Below.on (HB.out _) hb1
    clear hb1
    go_wp2_with fail
    go_ret
    exact ⟨rfl, HB1.out⟩
  · have e : szR L (cs.length + tl cs) = -1 := by rw [szR, if_neg h]
    rw [e] at HS ⊢
    clear hm hc e h ht
    go_enter Try.func38, Try.ntmps38
    go_wp2_with fail
    refine (HS.out _ (HB.out _)).mono ?_
    rintro e w1 ⟨rfl, hb1⟩
    have HB1 : Hid _ := Below.on (HB.out _) hb1
    clear hb1
    go_wp2_with fail
    go_ret
    exact ⟨rfl, HB1.out⟩

set_option maxRecDepth 100000 in
theorem szBd_any (p : Option Addr) (cap : Nat) (bs : List Bnd) (L : Nat) (w : World) (hL : L ≤ 1048576) (hin : BdArg w p bs) :
    Calls Try.prog 14 #[.slice p bs.length cap, .int .i64 L] w fun e w' => e = .returned (.int .i64 (szR L (bs.length + tll (trm bs)))) ∧ Below w.heap.size w w' := by
  have HI : Hid (BdArg w p bs) := hin
  have hn := hin.len
  clear hin
  by_cases h : bs.length ≤ L
  · have h0 : ¬ ((L : Int) - bs.length < 0) := by omega
    go_enter Try.func14, Try.ntmps14
    go_wp2_with fail
    have HL : Hid (bs.length ≤ L) := h
    clear h h0
    go_loopw [1, 5] (fun l i wr => ∃ k : Nat, k ≤ bs.length ∧ i = .int .i64 k ∧ Hid (bs.length + tll ((trm bs).take k) ≤ L) ∧ l = .int .i64 ((L : Int) - (bs.length + tll ((trm bs).take k) : Nat)) ∧ Hid (Below w.heap.size w wr)) (fun _ i _ => bs.length - (intOf i).toNat)
    case atStart => exact ⟨0, Nat.zero_le _, rfl, by simpa [tll, Hid] using HL.out, by simp [tll], Below.refl _ _⟩
    case round =>
      obtain ⟨k, hk, rfl, HT, rfl, HB⟩ := hrel
      by_cases hlt : k < bs.length
      · obtain ⟨b, o, rfl, hcs⟩ := (HI.out.below HB.out).lies (by omega)
        obtain ⟨q, qc, d0, d1, d2⟩ := hcs k hlt
        have hit := HI.out.item k hlt
        have htk : Hid _ := tll_take (trm bs) k (by rw [trm_len]; exact hlt)
        have htl : Hid _ := tll_take_le (trm bs) (k + 1)
        rw [trm_at] at htk
        obtain ⟨L', eL⟩ : ∃ x, x = L - (bs.length + tll ((trm bs).take k)) := ⟨_, rfl⟩
        have eL' : ((L : Int) - (bs.length + tll ((trm bs).take k) : Nat)) = (L' : Int) := by have := HT.out; omega
        have hL' : L' ≤ 1048576 := by omega
        obtain ⟨m, em⟩ : ∃ x, x = (bs.getD k Bnd.zero).2.length := ⟨_, rfl⟩
        obtain ⟨vr, evr⟩ : ∃ x, x = (bs.getD k Bnd.zero).1 := ⟨_, rfl⟩
        have HS := szBinding_any vr q qc (bs.getD k Bnd.zero).2 m L' wr em hL' (by rw [em]; exact hit.1) hit.2.1 d2
        rw [eL']
        have HE : Hid (L' = L - (bs.length + tll ((trm bs).take k))) := eL
        obtain ⟨sz, esz⟩ : ∃ x, x = (bs.getD k Bnd.zero).2.length + tl (bs.getD k Bnd.zero).2 := ⟨_, rfl⟩
        rw [← esz] at HS htk
        rw [← em] at d1
        rw [← evr] at d0
        clear eL eL' hcs d2 hit em esz evr
        by_cases hfit : sz ≤ L'
        · have e : szR L' sz = (L' : Int) - sz := by simp [szR, hfit]
          rw [e] at HS
          have h0' : ¬ ((L' : Int) - sz < 0) := by omega
          go_wp2_with fail
          refine HS.mono ?_
          rintro e w' ⟨rfl, hb1⟩
          go_wp2_with fail
          go_roundw
          case rel => exact ⟨k + 1, by omega, by go_num, by have := HT.out; have := htk.out; have := HE.out; show _ ≤ _; omega, by have := HT.out; have := htk.out; have := HE.out; congr 1; omega, Below.on HB.out hb1⟩
          case measure => simp [intOf]; omega
        · have e : szR L' sz = -1 := by simp [szR, hfit]
          rw [e] at HS
          go_wp2_with fail
          refine HS.mono ?_
          rintro e w' ⟨rfl, hb1⟩
          go_wp2_with fail
          go_ret
          refine ⟨ret_int ?_, Below.on HB.out hb1⟩
          have := HT.out; have := htk.out; have := HE.out; have := htl.out
          rw [szR, if_neg (by omega)]
      · obtain rfl : k = bs.length := by omega
        have hfull : (trm bs).take bs.length = trm bs := by rw [← trm_len bs, List.take_length]
        rw [hfull] at HT ⊢
        clear hfull
        go_wp2_with fail
        go_ret
        exact ⟨ret_int (by rw [szR, if_pos HT.out]), HB.out⟩
  · have e : szR L (bs.length + tll (trm bs)) = -1 := by rw [szR, if_neg (by omega)]
    rw [e]
    have h0 : (L : Int) - bs.length < 0 := by omega
    go_enter Try.func14, Try.ntmps14
    go_wp2_with fail
    go_ret
    exact ⟨rfl, Below.refl _ _⟩

end Go.Proofs.Ytjbckdmlogjggaa
