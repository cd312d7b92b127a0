/- Texts of SSG, BD1, BD4. Own work of the verifier. -/
import Derived.Test.YtedlcmkhbccjgaaUqas
import Derived.Test.YtedlcmkhbccjgaaUqac
import Derived.Test.YtedlcmkhbccjgaaUqad
import Derived.Test.YtedlcmkhbccjgaaUqak
import Derived.Test.YtedlcmkhbccjgaaUqai
namespace Go.Proofs.Ytedlcmkhbccjgaa
open Go Go.RowKit
set_option linter.unusedVariables false

theorem infoCells : (Try.prog.info? 25).map (fun i => (i.zero, i.size, i.bytes)) = some (some (.slice none 0 0), 1, 24) := by kernel_rfl
/-- An item: where it lies, its capacity, the blocks from .. to. -/
abbrev It := Option Addr × Nat × Nat × Nat
def It.zero : It := (none, 0, 0, 0)
theorem ds_append_at (ds : List It) (r : It) (i : Nat) (h : i ≤ ds.length) : (ds ++ [r]).getD i It.zero = if i = ds.length then r else ds.getD i It.zero := by
  by_cases e : i = ds.length
  · subst e; simp [List.getD]
  · rw [if_neg e, List.getD, List.getD, List.getElem?_append_left (by omega)]
/-- How much there is in all. -/
def tll : List (List Cel) → Nat
  | [] => 0
  | c :: r => c.length + tl c + tll r
theorem tll_at : ∀ (css : List (List Cel)) (i : Nat), i < css.length → (css.getD i []).length + tl (css.getD i []) ≤ tll css
  | [], i, h => by simp at h
  | c :: r, 0, _ => by simp [tll]
  | c :: r, i + 1, h => by have := tll_at r i (by simpa using h); simp only [tll, List.getD_cons_succ]; omega
theorem endC_eq (k : Int) (cs : List Cel) : endC k cs = k + 2 * cs.length + tl cs := by simp [endC, kAt]
theorem tll_take : ∀ (css : List (List Cel)) (k : Nat), k < css.length → tll (css.take (k + 1)) = tll (css.take k) + ((css.getD k []).length + tl (css.getD k []))
  | [], k, h => by simp at h
  | c :: r, 0, _ => by simp [tll]
  | c :: r, k + 1, h => by
    have := tll_take r k (by simpa using h)
    simp only [List.take_succ_cons, tll, this]
    simp; omega
theorem tll_take_le : ∀ (css : List (List Cel)) (k : Nat), tll (css.take k) ≤ tll css
  | [], k => by simp [tll]
  | c :: r, 0 => by simp [tll]
  | c :: r, k + 1 => by have := tll_take_le r k; simp only [List.take_succ_cons, tll]; omega

end Go.Proofs.Ytedlcmkhbccjgaa

namespace Go.Proofs.Ytedlcmkhbccjgaa
open Go Go.RowKit
set_option linter.unusedVariables false

/-- A row of pairs of values. -/
def pairRow (f g : Nat → Value) (n : Nat) : List Value := (List.range n).flatMap fun i => [f i, g i]
theorem pairRow_succ (f g : Nat → Value) (n : Nat) : pairRow f g (n + 1) = pairRow f g n ++ [f n, g n] := by simp [pairRow, List.range_succ]
theorem pairRow_len (f g : Nat → Value) : ∀ n, (pairRow f g n).length = n * 2
  | 0 => rfl
  | n + 1 => by rw [pairRow_succ, List.length_append, pairRow_len f g n]; simp; omega
theorem pairRow_get (f g : Nat → Value) : ∀ (n k : Nat), (pairRow f g n)[k]? = if k < n * 2 then some (if k % 2 = 0 then f (k / 2) else g (k / 2)) else none
  | 0, k => by simp [pairRow]
  | n + 1, k => by
    rw [pairRow_succ]
    rcases Nat.lt_or_ge k (n * 2) with h | h
    · rw [List.getElem?_append_left (by rw [pairRow_len]; exact h), pairRow_get f g n k, if_pos h, if_pos (show k < (n + 1) * 2 by omega)]
    · rw [List.getElem?_append_right (by rw [pairRow_len]; exact h), pairRow_len]
      rcases Nat.lt_or_ge k (n * 2 + 2) with h2 | h2
      · rw [if_pos (show k < (n + 1) * 2 by omega)]
        have : k = n * 2 ∨ k = n * 2 + 1 := by omega
        rcases this with e | e
        · subst e
          have e1 : n * 2 - n * 2 = 0 := by omega
          have e2 : n * 2 % 2 = 0 := by omega
          have e3 : n * 2 / 2 = n := by omega
          rw [e1, e2, e3]; simp
        · subst e
          have e1 : n * 2 + 1 - n * 2 = 1 := by omega
          have e2 : (n * 2 + 1) % 2 = 1 := by omega
          have e3 : (n * 2 + 1) / 2 = n := by omega
          rw [e1, e2, e3]; simp
      · rw [if_neg (show ¬ k < (n + 1) * 2 by omega), List.getElem?_eq_none (by simp; omega)]
theorem pairRow_at0 (f g : Nat → Value) (n i : Nat) (h : i < n) : (pairRow f g n)[i * 2]? = some (f i) := by
  rw [pairRow_get, if_pos (by omega), if_pos (by omega), show i * 2 / 2 = i by omega]
theorem pairRow_at1 (f g : Nat → Value) (n i : Nat) (h : i < n) : (pairRow f g n)[i * 2 + 1]? = some (g i) := by
  rw [pairRow_get, if_pos (by omega), if_neg (by omega), show (i * 2 + 1) / 2 = i by omega]
theorem pairRow_congr {f g f' g' : Nat → Value} {n : Nat} (h : ∀ i, i < n → f i = f' i ∧ g i = g' i) : pairRow f g n = pairRow f' g' n := by
  apply List.ext_getElem?
  intro k
  rw [pairRow_get, pairRow_get]
  split
  · have := h (k / 2) (by omega)
    rw [this.1, this.2]
  · rfl
theorem pairRow_set {f g f' g' : Nat → Value} {n i : Nat} (hi : i < n) (h : ∀ j, j < n → j ≠ i → f j = f' j ∧ g j = g' j) : ((pairRow f g n).set (i * 2) (f' i)).set (i * 2 + 1) (g' i) = pairRow f' g' n := by
  apply List.ext_getElem?
  intro k
  rw [List.getElem?_set, List.length_set, pairRow_len]
  by_cases e1 : i * 2 + 1 = k
  · subst e1
    rw [if_pos rfl, if_pos (by omega), pairRow_at1 _ _ _ _ hi]
  · rw [if_neg e1, List.getElem?_set, pairRow_len]
    by_cases e0 : i * 2 = k
    · subst e0
      rw [if_pos rfl, if_pos (by omega), pairRow_at0 _ _ _ _ hi]
    · rw [if_neg e0, pairRow_get, pairRow_get]
      split
      · have := h (k / 2) (by omega) (by omega)
        rw [this.1, this.2]
      · rfl
theorem pairRow_set0 {f g f' : Nat → Value} {n i : Nat} (hi : i < n) (h : ∀ j, j < n → j ≠ i → f j = f' j) : (pairRow f g n).set (i * 2) (f' i) = pairRow f' g n := by
  apply List.ext_getElem?
  intro k
  rw [List.getElem?_set, pairRow_len]
  by_cases e0 : i * 2 = k
  · subst e0
    rw [if_pos rfl, if_pos (by omega), pairRow_at0 _ _ _ _ hi]
  · rw [if_neg e0, pairRow_get, pairRow_get]
    split
    · split
      · rw [h (k / 2) (by omega) (by omega)]
      · rfl
    · rfl

/-- A binding: a variable's number, and cells. -/
abbrev Bnd := Int × List Cel
def Bnd.zero : Bnd := (0, [])
def trm (bs : List Bnd) : List (List Cel) := bs.map Prod.snd
theorem trm_len (bs : List Bnd) : (trm bs).length = bs.length := by simp [trm]
theorem trm_at (bs : List Bnd) (i : Nat) : (trm bs).getD i [] = (bs.getD i Bnd.zero).2 := by
  simp only [trm, List.getD, List.getElem?_map]
  cases bs[i]? <;> rfl
/-- How a slice of bindings lies. -/
def BdIn (w : World) (p : Option Addr) (bs : List Bnd) : Prop :=
  0 < bs.length → ∃ b o, p = some ⟨b, o, none⟩ ∧ ∀ i, i < bs.length → ∃ q c, w.cell? ⟨b, o + i * 2, none⟩ = some (.int .i64 (bs.getD i Bnd.zero).1) ∧ w.cell? ⟨b, o + i * 2 + 1, none⟩ = some (.slice q (bs.getD i Bnd.zero).2.length c) ∧ CIn w q (bs.getD i Bnd.zero).2
theorem BdIn.below {W W' : World} {p : Option Addr} {bs : List Bnd} (h : BdIn W p bs) (hb : Below W.heap.size W W') : BdIn W' p bs := fun hn => by
  obtain ⟨b, o, rfl, hc⟩ := h hn
  refine ⟨b, o, rfl, fun i hi => ?_⟩
  obtain ⟨q, c, h0, h1, h2⟩ := hc i hi
  exact ⟨q, c, (hb.cell (World.block_lt_of_cell? _ _ h0)).trans h0, (hb.cell (World.block_lt_of_cell? _ _ h1)).trans h1, h2.below hb⟩
/-- What is asked of bindings that came in. -/
structure BdArg (w : World) (p : Option Addr) (bs : List Bnd) : Prop where
  lies : BdIn w p bs
  len : bs.length ≤ 9223372036854775807
  item : ∀ i, i < bs.length → (bs.getD i Bnd.zero).2.length ≤ 9223372036854775807 ∧ (∀ j, j < (bs.getD i Bnd.zero).2.length → ((bs.getD i Bnd.zero).2.getD j Cel.none).2.2.length ≤ 9223372036854775807) ∧ (∀ j, j < (bs.getD i Bnd.zero).2.length → Byte ((bs.getD i Bnd.zero).2.getD j Cel.none).2.2)
theorem BdArg.below {W W' : World} {p : Option Addr} {bs : List Bnd} (h : BdArg W p bs) (hb : Below W.heap.size W W') : BdArg W' p bs := ⟨h.lies.below hb, h.len, h.item⟩

theorem szBinding_any (v : Int) (p : Option Addr) (cap : Nat) (cs : List Cel) (m L : Nat) (w : World) (hm : m = cs.length) (hL : L ≤ 1048576) (hn : m ≤ 9223372036854775807) (ht : ∀ i, i < cs.length → (cs.getD i Cel.none).2.2.length ≤ 9223372036854775807) (hc : CIn w p cs) :
    Calls Try.prog 38 #[.agg #[.int .i64 v, .slice p m cap], .int .i64 L] w fun e w' => e = .returned (.int .i64 (szR L (cs.length + tl cs))) ∧ Below w.heap.size w w' := by
  have HS : Hid (∀ W, Below w.heap.size w W → Calls Try.prog 7 #[.slice p m cap, .int .i64 L] W fun e w' => e = .returned (.int .i64 (szR L (cs.length + tl cs))) ∧ Below W.heap.size W w') := fun W hW => by rw [hm]; exact szCellS_any p cap cs L W hL (by omega) ht (hc.below hW)
  have HB : Hid (∀ o, Below w.heap.size w (w.alloc o)) := fun o => (Below.refl _ _).alloc (Nat.le_refl _) _
  by_cases h : cs.length + tl cs ≤ L
  · have e : szR L (cs.length + tl cs) = ((L - (cs.length + tl cs) : Nat) : Int) := by rw [szR, if_pos h]; omega
    rw [e] at HS ⊢
    obtain ⟨r, er⟩ : ∃ r, r = L - (cs.length + tl cs) := ⟨_, rfl⟩
    rw [← er] at HS ⊢
    clear hm hc e er h ht
    go_enter Try.func38, Try.ntmps38
    go_wp2_with fail
    refine (HS.out _ (HB.out _)).mono ?_
    rintro e w1 ⟨rfl, hb1⟩
    have HB1 : Hid _ := Below.on (HB.out _) hb1
    clear hb1
    go_wp2_with fail
    go_ret
    exact ⟨rfl, HB1.out⟩
  · have e : szR L (cs.length + tl cs) = -1 := by rw [szR, if_neg h]
    rw [e] at HS ⊢
    clear hm hc e h ht
    go_enter Try.func38, Try.ntmps38
    go_wp2_with fail
    refine (HS.out _ (HB.out _)).mono ?_
    rintro e w1 ⟨rfl, hb1⟩
    have HB1 : Hid _ := Below.on (HB.out _) hb1
    clear hb1
    go_wp2_with fail
    go_ret
    exact ⟨rfl, HB1.out⟩

set_option maxRecDepth 100000 in
theorem szBd_any (p : Option Addr) (cap : Nat) (bs : List Bnd) (L : Nat) (w : World) (hL : L ≤ 1048576) (hin : BdArg w p bs) :
    Calls Try.prog 14 #[.slice p bs.length cap, .int .i64 L] w fun e w' => e = .returned (.int .i64 (szR L (bs.length + tll (trm bs)))) ∧ Below w.heap.size w w' := by
  have HI : Hid (BdArg w p bs) := hin
  have hn := hin.len
  clear hin
  by_cases h : bs.length ≤ L
  · have h0 : ¬ ((L : Int) - bs.length < 0) := by omega
    go_enter Try.func14, Try.ntmps14
    go_wp2_with fail
    have HL : Hid (bs.length ≤ L) := h
    clear h h0
    go_loopw [1, 5] (fun l i wr => ∃ k : Nat, k ≤ bs.length ∧ i = .int .i64 k ∧ Hid (bs.length + tll ((trm bs).take k) ≤ L) ∧ l = .int .i64 ((L : Int) - (bs.length + tll ((trm bs).take k) : Nat)) ∧ Hid (Below w.heap.size w wr)) (fun _ i _ => bs.length - (intOf i).toNat)
    case atStart => exact ⟨0, Nat.zero_le _, rfl, by simpa [tll, Hid] using HL.out, by simp [tll], Below.refl _ _⟩
    case round =>
      obtain ⟨k, hk, rfl, HT, rfl, HB⟩ := hrel
      by_cases hlt : k < bs.length
      · obtain ⟨b, o, rfl, hcs⟩ := (HI.out.below HB.out).lies (by omega)
        obtain ⟨q, qc, d0, d1, d2⟩ := hcs k hlt
        have hit := HI.out.item k hlt
        have htk : Hid _ := tll_take (trm bs) k (by rw [trm_len]; exact hlt)
        have htl : Hid _ := tll_take_le (trm bs) (k + 1)
        rw [trm_at] at htk
        obtain ⟨L', eL⟩ : ∃ x, x = L - (bs.length + tll ((trm bs).take k)) := ⟨_, rfl⟩
        have eL' : ((L : Int) - (bs.length + tll ((trm bs).take k) : Nat)) = (L' : Int) := by have := HT.out; omega
        have hL' : L' ≤ 1048576 := by omega
        obtain ⟨m, em⟩ : ∃ x, x = (bs.getD k Bnd.zero).2.length := ⟨_, rfl⟩
        obtain ⟨vr, evr⟩ : ∃ x, x = (bs.getD k Bnd.zero).1 := ⟨_, rfl⟩
        have HS := szBinding_any vr q qc (bs.getD k Bnd.zero).2 m L' wr em hL' (by rw [em]; exact hit.1) hit.2.1 d2
        rw [eL']
        have HE : Hid (L' = L - (bs.length + tll ((trm bs).take k))) := eL
        obtain ⟨sz, esz⟩ : ∃ x, x = (bs.getD k Bnd.zero).2.length + tl (bs.getD k Bnd.zero).2 := ⟨_, rfl⟩
        rw [← esz] at HS htk
        rw [← em] at d1
        rw [← evr] at d0
        clear eL eL' hcs d2 hit em esz evr
        by_cases hfit : sz ≤ L'
        · have e : szR L' sz = (L' : Int) - sz := by simp [szR, hfit]
          rw [e] at HS
          have h0' : ¬ ((L' : Int) - sz < 0) := by omega
          go_wp2_with fail
          refine HS.mono ?_
          rintro e w' ⟨rfl, hb1⟩
          go_wp2_with fail
          go_roundw
          case rel => exact ⟨k + 1, by omega, by go_num, by have := HT.out; have := htk.out; have := HE.out; show _ ≤ _; omega, by have := HT.out; have := htk.out; have := HE.out; congr 1; omega, Below.on HB.out hb1⟩
          case measure => simp [intOf]; omega
        · have e : szR L' sz = -1 := by simp [szR, hfit]
          rw [e] at HS
          go_wp2_with fail
          refine HS.mono ?_
          rintro e w' ⟨rfl, hb1⟩
          go_wp2_with fail
          go_ret
          refine ⟨ret_int ?_, Below.on HB.out hb1⟩
          have := HT.out; have := htk.out; have := HE.out; have := htl.out
          rw [szR, if_neg (by omega)]
      · obtain rfl : k = bs.length := by omega
        have hfull : (trm bs).take bs.length = trm bs := by rw [← trm_len bs, List.take_length]
        rw [hfull] at HT ⊢
        clear hfull
        go_wp2_with fail
        go_ret
        exact ⟨ret_int (by rw [szR, if_pos HT.out]), HB.out⟩
  · have e : szR L (bs.length + tll (trm bs)) = -1 := by rw [szR, if_neg (by omega)]
    rw [e]
    have h0 : (L : Int) - bs.length < 0 := by omega
    go_enter Try.func14, Try.ntmps14
    go_wp2_with fail
    go_ret
    exact ⟨rfl, Below.refl _ _⟩

end Go.Proofs.Ytedlcmkhbccjgaa

namespace Go.Proofs.Ytedlcmkhbccjgaa
open Go Go.RowKit
set_option linter.unusedVariables false

def bndB (last : Int) (b : Bnd) : Bool := decide (last < b.1) && decide (b.1 ≤ 1000000) && validB b.2
def substFrom : Int → List Bnd → Bool
  | _, [] => true
  | last, b :: r => bndB last b && substFrom b.1 r
def substB (bs : List Bnd) : Bool := decide (bs.length ≤ 1000) && substFrom (-1) bs
/-- The number ahead of the k-th. -/
def lastB (bs : List Bnd) (k : Nat) : Int := if k = 0 then -1 else (bs.getD (k - 1) Bnd.zero).1
theorem substFrom_at (bs : List Bnd) (k : Nat) (h : k < bs.length) (last : Int) : substFrom last (bs.drop k) = (bndB last (bs.getD k Bnd.zero) && substFrom (bs.getD k Bnd.zero).1 (bs.drop (k + 1))) := by
  rw [List.drop_eq_getElem_cons h, substFrom]
  simp [List.getD, h]
theorem lastB_succ (bs : List Bnd) (k : Nat) : lastB bs (k + 1) = (bs.getD k Bnd.zero).1 := by simp [lastB]
/-- Of a substitution: its numbers go up; its terms are valid. -/
theorem substFrom_mem : ∀ (bs : List Bnd) (last : Int), substFrom last bs = true → ∀ b ∈ bs, last < b.1 ∧ b.1 ≤ 1000000 ∧ validB b.2 = true
  | [], _, _, b, h => by cases h
  | x :: r, last, h, b, hb => by
    simp only [substFrom, bndB, Bool.and_eq_true, decide_eq_true_eq] at h
    rcases List.mem_cons.1 hb with rfl | hb
    · exact ⟨h.1.1.1, h.1.1.2, h.1.2⟩
    · have := substFrom_mem r x.1 h.2 b hb
      exact ⟨by omega, this.2⟩
theorem substFrom_up : ∀ (bs : List Bnd) (last : Int), substFrom last bs = true → ∀ i j, i < j → j < bs.length → (bs.getD i Bnd.zero).1 < (bs.getD j Bnd.zero).1
  | [], _, _, i, j, _, h => by simp at h
  | x :: r, last, h, i, j, hij, hj => by
    simp only [substFrom, bndB, Bool.and_eq_true, decide_eq_true_eq] at h
    cases j with
    | zero => omega
    | succ j =>
      have hj' : j < r.length := by simpa using hj
      cases i with
      | zero =>
        have := (substFrom_mem r x.1 h.2 (r.getD j Bnd.zero) (by simp [List.getD, hj'])).1
        simpa using this
      | succ i => simpa using substFrom_up r x.1 h.2 i j (by omega) hj'

set_option maxRecDepth 100000 in
set_option maxHeartbeats 1000000 in
theorem implSubst_any (p : Option Addr) (n c : Nat) (bs : List Bnd) (w : World) (hn : n = bs.length) (hb : n ≤ 1048576) (hl : bs.length + tll (trm bs) ≤ 1048576) (hin : BdIn w p bs) :
    Calls Try.prog 43 #[.slice p n c] w fun e w' => e = .returned (.bool (substB bs)) ∧ Below w.heap.size w w' := by
  have HI : Hid (BdIn w p bs) := hin
  have HN : Hid (n = bs.length) := hn
  by_cases h1 : n ≤ 1000
  · obtain ⟨R, eR⟩ : ∃ R, R = substFrom (-1) bs := ⟨_, rfl⟩
    have hR : substB bs = R := by rw [substB, eR, ← hn, decide_eq_true h1]; rfl
    rw [hR]
    have HR : Hid (R = substFrom (-1) (bs.drop 0)) := by show _ = _; rw [eR, List.drop_zero]
    clear hin hn hR eR
    go_enter Try.func43, Try.ntmps43
    go_wp2_with fail
    go_loopw [3, 11] (fun l i wr => ∃ (k : Nat) (last : Int), k ≤ n ∧ i = .int .i64 k ∧ l = .int .i64 last ∧ -1 ≤ last ∧ last ≤ 1000000 ∧ Hid (R = substFrom last (bs.drop k)) ∧ Hid (Below w.heap.size w wr)) (fun _ i _ => n - (intOf i).toNat)
    case atStart => exact ⟨0, -1, Nat.zero_le _, rfl, rfl, by decide, by decide, HR, Below.refl _ _⟩
    case round =>
      obtain ⟨k, last, hk, rfl, rfl, hl0, hl1, HR, HB⟩ := hrel
      by_cases hlt : k < n
      · have hkl : k < bs.length := by rw [← HN.out]; exact hlt
        obtain ⟨b, o, rfl, hcs⟩ := (HI.out.below HB.out) (by omega)
        obtain ⟨q, qc, d0, d1, d2⟩ := hcs k hkl
        have hst := substFrom_at bs k hkl last
        have hbd := tll_at (trm bs) k (by rw [trm_len]; exact hkl)
        rw [trm_at] at hbd
        obtain ⟨m, em⟩ : ∃ x, x = (bs.getD k Bnd.zero).2.length := ⟨_, rfl⟩
        obtain ⟨vv, evv⟩ : ∃ x, x = (bs.getD k Bnd.zero).1 := ⟨_, rfl⟩
        have HV : Hid (∀ W, Below wr.heap.size wr W → Calls Try.prog 31 #[.slice q m qc] W fun e w' => e = .returned (.bool (validB (bs.getD k Bnd.zero).2)) ∧ Below W.heap.size W w') := fun W hW => by rw [em]; exact implValid_any q qc (bs.getD k Bnd.zero).2 W (by omega) (d2.below hW)
        have HA : Hid (∀ o, Below wr.heap.size wr (wr.alloc o)) := fun o => (Below.refl _ _).alloc (Nat.le_refl _) _
        rw [bndB, ← evv] at hst
        rw [← em] at d1
        rw [← evv] at d0
        clear hcs d2 hbd em evv
        by_cases hv1 : last < vv
        · by_cases hv2 : vv ≤ 1000000
          · have hv1' : ¬ vv ≤ last := by omega
            have hv2' : ¬ 1000000 < vv := by omega
            rw [decide_eq_true hv1, decide_eq_true hv2] at hst
            obtain ⟨r, er⟩ : ∃ r, r = validB (bs.getD k Bnd.zero).2 := ⟨_, rfl⟩
            rw [← er] at hst HV
            cases r with
            | true =>
              have HR2 : Hid (R = substFrom vv (bs.drop (k + 1))) := by show _ = _; rw [HR.out, hst]; simp
              clear hst er
              go_wp2_with fail
              refine (HV.out _ (HA.out _)).mono ?_
              rintro e w2 ⟨rfl, hb2⟩
              have HB2 : Hid (Below w.heap.size w w2) := Below.on HB.out (Below.on (HA.out _) hb2)
              have k1 : w2.cell? ⟨wr.heap.size, 0, none⟩ = some (.int .i64 vv) := (hb2.cell (p := ⟨wr.heap.size, 0, none⟩) (by show _ < (wr.alloc _).heap.size; simp)).trans (cell_of_row _ _ 0 _ _ _ (heap_alloc_new wr _))
              clear hb2
              go_wp2_with fail
              go_roundw
              case rel => exact ⟨k + 1, vv, by omega, by go_num, rfl, by omega, hv2, HR2, HB2⟩
              case measure => simp [intOf]; omega
            | false =>
              have HR2 : Hid (R = false) := by show _ = _; rw [HR.out, hst]; simp
              clear hst er
              go_wp2_with fail
              refine (HV.out _ (HA.out _)).mono ?_
              rintro e w2 ⟨rfl, hb2⟩
              have HB2 : Hid (Below w.heap.size w w2) := Below.on HB.out (Below.on (HA.out _) hb2)
              clear hb2
              go_wp2_with fail
              go_ret
              exact ⟨ret_bool HR2.out.symm, HB2.out⟩
          · have hv1' : ¬ vv ≤ last := by omega
            have hv2' : 1000000 < vv := by omega
            have HR2 : Hid (R = false) := by show _ = _; rw [HR.out, hst, decide_eq_false hv2]; simp
            clear hst hv2
            go_wp2_with fail
            go_ret
            exact ⟨ret_bool HR2.out.symm, HB.out.alloc HB.out.size _⟩
        · have hv1' : vv ≤ last := by omega
          have HR2 : Hid (R = false) := by show _ = _; rw [HR.out, hst, decide_eq_false hv1]; simp
          clear hst hv1
          go_wp2_with fail
          go_ret
          exact ⟨ret_bool HR2.out.symm, HB.out.alloc HB.out.size _⟩
      · obtain rfl : k = n := by omega
        have HR2 : Hid (R = true) := by show _ = _; rw [HR.out, List.drop_eq_nil_of_le (by rw [← HN.out]; exact Nat.le_refl _)]; rfl
        go_wp2_with fail
        go_ret
        exact ⟨ret_bool HR2.out.symm, HB.out⟩
  · have hR : substB bs = false := by rw [substB, ← hn, decide_eq_false h1]; rfl
    rw [hR]
    have h1' : (1000 : Int) < (n : Int) := by omega
    clear hin hn hR h1
    go_enter Try.func43, Try.ntmps43
    go_wp2_with fail
    go_ret
    exact ⟨rfl, Below.refl _ _⟩

set_option maxRecDepth 100000 in
set_option maxHeartbeats 1000000 in
theorem l5index_any (p : Option Addr) (n c : Nat) (bs : List Bnd) (v : Int) (w : World) (hn : n = bs.length) (hb : n ≤ 1000000) (hup : ∀ i j, i < j → j < bs.length → (bs.getD i Bnd.zero).1 < (bs.getD j Bnd.zero).1) (hin : BdIn w p bs) :
    Calls Try.prog 40 #[.slice p n c, .int .i64 v] w fun e w' => e = .returned (.int .i64 (findI (bs.map Prod.fst) v)) ∧ w' = w := by
  have hkey : ∀ i, i < bs.length → (bs.map Prod.fst).getD i 0 = (bs.getD i Bnd.zero).1 := fun i hi => by simp [List.getD, hi]
  have HI : Hid (BdIn w p bs) := hin
  have HN : Hid (n = bs.length) := hn
  have HUP : Hid _ := hup
  have HKY : Hid _ := hkey
  clear hin hn hup hkey
  obtain ⟨R, eR⟩ : ∃ R, R = findI (bs.map Prod.fst) v := ⟨_, rfl⟩
  have HER : Hid (R = findI (bs.map Prod.fst) v) := eR
  rw [← eR]
  clear eR
  go_enter Try.func40, Try.ntmps40
  go_wp2_with fail
  go_loop [5, 6] (fun a b => ∃ (l h : Nat), l ≤ h ∧ h ≤ n ∧ a = .int .i64 l ∧ b = .int .i64 h ∧ Hid (∀ i, i < l → (bs.getD i Bnd.zero).1 < v) ∧ Hid (∀ i, h ≤ i → i < n → v ≤ (bs.getD i Bnd.zero).1)) (fun a b => (intOf b).toNat - (intOf a).toNat)
  case atStart => exact ⟨0, n, Nat.zero_le _, Nat.le_refl _, rfl, rfl, fun i h => by omega, fun i h1 h2 => by omega⟩
  case round =>
    obtain ⟨l, h, hlh, hhn, rfl, rfl, HL, HH⟩ := hrel
    by_cases hlt : l < h
    · obtain ⟨m, em⟩ : ∃ m, m = (l + h) / 2 := ⟨_, rfl⟩
      have hml : l ≤ m := by omega
      have hmh : m < h := by omega
      have hme : ((l : Int) + (h : Int)) / 2 = (m : Int) := by omega
      have hmn : m < bs.length := by rw [← HN.out]; omega
      obtain ⟨b, o, rfl, hcs⟩ := HI.out (by omega)
      obtain ⟨q, qc, d0, _, _⟩ := hcs m hmn
      obtain ⟨vv, evv⟩ : ∃ x, x = (bs.getD m Bnd.zero).1 := ⟨_, rfl⟩
      rw [← evv] at d0
      have HEV : Hid (vv = (bs.getD m Bnd.zero).1) := evv
      have hm0 : (0 : Int) ≤ (m : Int) := by omega
      have hmn' : (m : Int) < (n : Int) := by omega
      clear hcs em evv
      by_cases hv : vv < v
      · have HL2 : Hid (∀ i, i < m + 1 → (bs.getD i Bnd.zero).1 < v) := fun i hi => by
          rcases Nat.lt_or_ge i m with h' | h'
          · have := HUP.out i m h' hmn
            have := HEV.out
            omega
          · have e : i = m := by omega
            rw [e, ← HEV.out]; exact hv
        go_wp2_with fail
        go_round
        case rel => exact ⟨m + 1, h, by omega, hhn, by go_num, rfl, HL2, HH⟩
        case measure => simp [intOf]; omega
      · have HH2 : Hid (∀ i, m ≤ i → i < n → v ≤ (bs.getD i Bnd.zero).1) := fun i h1 h2 => by
          have := HEV.out
          rcases Nat.lt_or_ge m i with h' | h'
          · have := HUP.out m i h' (by rw [← HN.out]; exact h2)
            omega
          · have e : i = m := by omega
            rw [e, ← HEV.out]; omega
        go_wp2_with fail
        go_round
        case rel => exact ⟨l, m, hml, by omega, rfl, by rw [hme], HL, HH2⟩
        case measure => simp [intOf]; omega
    · obtain rfl : l = h := by omega
      by_cases hln : l < n
      · have hll : l < bs.length := by rw [← HN.out]; exact hln
        obtain ⟨b, o, rfl, hcs⟩ := HI.out (by omega)
        obtain ⟨q, qc, d0, _, _⟩ := hcs l hll
        obtain ⟨vv, evv⟩ : ∃ x, x = (bs.getD l Bnd.zero).1 := ⟨_, rfl⟩
        rw [← evv] at d0
        have HEV : Hid (vv = (bs.getD l Bnd.zero).1) := evv
        clear hcs evv
        by_cases hv : vv = v
        · subst hv
          have HF : Hid (R = (l : Int)) := by
            show _ = _
            rw [HER.out]
            refine find_at (by simp; exact hll) (fun i hi => ?_) (by rw [HKY.out l hll, ← HEV.out])
            rw [HKY.out i (by omega)]
            have := HL.out i hi
            omega
          go_wp2_with fail
          go_ret
          exact ⟨ret_int HF.out.symm, rfl⟩
        · have HF : Hid (R = -1) := by
            show _ = _
            rw [HER.out]
            refine find_none fun i hi => ?_
            have hi' : i < bs.length := by simpa using hi
            rw [HKY.out i hi']
            have h1 := HH.out l (Nat.le_refl _) hln
            have h2 := HEV.out
            rcases Nat.lt_trichotomy i l with h' | h' | h'
            · have := HL.out i h'; omega
            · rw [h', ← h2]; exact hv
            · have := HUP.out l i h' hi'; omega
          have hv' : (vv == v) = false := by simpa using hv
          go_wp2_with fail
          go_ret
          exact ⟨ret_int HF.out.symm, rfl⟩
      · have HF : Hid (R = -1) := by
          show _ = _
          rw [HER.out]
          refine find_none fun i hi => ?_
          have hi' : i < bs.length := by simpa using hi
          rw [HKY.out i hi']
          have := HL.out i (by have := HN.out; omega)
          omega
        go_wp2_with fail
        go_ret
        exact ⟨ret_int HF.out.symm, rfl⟩

end Go.Proofs.Ytedlcmkhbccjgaa

