/- Texts of LxC, LxD, Scan14, LxE, LxF, Tok1, RegR, RgP. Own work of the verifier. -/
import Derived.Test.YtfhelmhcmfpedaaDoorLxMa
import Derived.Test.YtfhelmhcmfpedaaDoorScan13
import Derived.RangeFuncNested
import Derived.RangeFuncBound
import Derived.RangeFuncCalls
import Derived.RangeFuncLeaves
import Derived.Shelf.Abstract
import Derived.Shelf.RegionOpen
import Derived.WalkKit
import Derived.OwnWalkIn
import Derived.TacticsInMore
import Derived.LoopNIn
import Derived.LoopIn
import Derived.Sort.EveryDepth
import Derived.Test.YtfhelmhcmfpedaaDoorUntilR
namespace Go.Proofs.YtfhelmhcmfpedaaDoor
open Go Go.RowKit
set_option linter.unusedVariables false

theorem tokenS_any (b cap pos : Nat) (call : Bool) (xs : List Int) (w : World) (hb : Bytes xs) (hn : xs.length ≤ 10000) (hcap : xs.length ≤ cap) (hp : pos < xs.length) (hc : ∀ m, m < xs.length → w.cell? ⟨b, m, none⟩ = some (.int .u8 (xs.getD m 0))) :
    Calls Tryd.prog 29 #[.slice (some ⟨b, 0, none⟩) xs.length cap, .int .i64 pos, .bool call] w (TokSOut w pos (nextR xs call pos)) := by
  have hr := hb.at pos
  obtain ⟨q1, q2, q3, q4, q5, q6, q7⟩ := cls_at hr.1 hr.2
  have hnx : nextR xs call pos = nextF (xs.getD pos 0) call xs pos := by rw [nextR, byteI_lt hp]
  rw [hnx]
  unfold nextF
  cases h1 : smallB (xs.getD pos 0) with
  | true =>
    rw [if_pos (by rw [q1]; exact h1)]
    have hd : digitB (xs.getD pos 0) = false := by simp only [smallB, digitB, decide_eq_true_eq, decide_eq_false_iff_not] at h1 ⊢; omega
    have ha : alnumB (xs.getD pos 0) = true := by simp only [smallB, alnumB, decide_eq_true_eq] at h1 ⊢; omega
    exact tokSmall_any b cap pos call xs w hb hn hcap hp hc hd ha h1
  | false =>
    rw [if_neg (by rw [q1, h1]; simp)]
    cases h4 : digitB (xs.getD pos 0) with
    | true =>
      rw [if_neg (by rw [q3, h1, h4]; simp), if_pos (by rw [q2]; exact h4)]
      exact tokNum_any b cap pos call xs w hb hn hcap hp hc h4
    | false =>
      cases ha : alnumB (xs.getD pos 0) with
      | true =>
        rw [if_pos (by rw [q3, h1, h4, ha]; rfl)]
        exact tokLarge_any b cap pos call xs w hb hn hcap hp hc h4 ha h1
      | false =>
        rw [if_neg (by rw [q3, ha]; simp), if_neg (by rw [q2, h4]; simp)]
        by_cases h46 : xs.getD pos 0 = 46 ∧ endsI (byteI xs (pos + 1)) = true
        · rw [if_pos h46]
          exact tokEnd_any b cap pos call xs w hb hn hcap hp hc h46.1 h46.2
        · rw [if_neg h46]
          cases hs : symbolB (xs.getD pos 0) with
          | true =>
            rw [if_pos (by rw [q4]; exact hs)]
            by_cases hp46 : xs.getD pos 0 = 46
            · have hne : ¬ endsI (byteI xs (pos + 1)) = true := fun h => h46 ⟨hp46, h⟩
              have h1' : pos + 1 < xs.length := by
                rcases Nat.lt_or_ge (pos + 1) xs.length with h | h
                · exact h
                · exact absurd (by rw [byteI_ge h]; decide) hne
              rw [byteI_lt h1'] at hne
              have hry := hb.at (pos + 1)
              have hbk : blankB (xs.getD (pos + 1) 0) = false := by
                cases hh : blankB (xs.getD (pos + 1) 0) with
                | false => rfl
                | true => exact absurd ((blank_ends hry.1).1 hh).1 hne
              have h37 : xs.getD (pos + 1) 0 ≠ 37 := fun h => hne (by rw [h]; decide)
              exact tokPoint_any b cap pos call xs w hb hn hcap hp hc hp46 h1' hbk h37
            · exact tokSym_any b cap pos call xs w hb hn hcap hp hc h4 ha hs hp46
          | false =>
            rw [if_neg (by rw [q4, hs]; simp)]
            cases h32 : isOfB (xs.getD pos 0) 32 with
            | true =>
              rw [if_pos rfl]
              refine tokOne_any b cap pos call xs w hb hn hcap hp hc ?_
              rw [h32] at q5
              simpa [eq_comm (a := true)] using q5
            | false =>
              rw [if_neg (by simp)]
              by_cases h39 : xs.getD pos 0 = 39
              · rw [if_pos h39]; exact tokQuote_any b cap pos call xs w hb hn hcap hp hc h39
              · rw [if_neg h39]
                by_cases h34 : xs.getD pos 0 = 34
                · rw [if_pos h34]; exact tokString_any b cap pos call xs w hb hn hcap hp hc h34
                · rw [if_neg h34]
                  by_cases h40 : xs.getD pos 0 = 40
                  · cases call with
                    | true => rw [if_pos ⟨h40, rfl⟩]; exact tokCall_any b cap pos true xs w hb hn hcap hp hc h40 rfl
                    | false =>
                      rw [if_neg (fun h => by simp at h), if_pos (by rw [q6, h40]; rfl)]
                      exact tokParen_any b cap pos false xs w hb hn hcap hp hc h40 rfl
                  · rw [if_neg (fun h => h40 h.1)]
                    cases h64 : isOfB (xs.getD pos 0) 64 with
                    | true =>
                      rw [if_pos rfl]
                      refine tokPunct_any b cap pos call xs w hb hn hcap hp hc ?_
                      rw [h64] at q6
                      simp only [Bool.or_eq_true, decide_eq_true_eq, eq_comm (a := true)] at q6
                      omega
                    | false =>
                      rw [if_neg (by simp)]
                      exact tokBad_any b cap pos call xs w hb hn hp hc h4 ha hs h32 h64 h39 h34

theorem runI_pos {k : Int} {xs : List Int} {pos : Nat} (hp : pos < xs.length) (h : isOfB (byteI xs pos) k = true) : 1 ≤ runI k xs pos := by
  rw [byteI_lt hp] at h
  unfold runI
  rw [List.drop_eq_getElem_cons hp]
  have : xs[pos] = xs.getD pos 0 := by simp [List.getD, List.getElem?_eq_getElem hp]
  unfold runLen
  rw [this, h]
  simp
theorem txt_ge {xs : List Int} {q : Int} : ∀ (f i : Nat) (ys zs : List Int) (j : Nat), txtF xs q f i ys = some (zs, j) → i < j
  | 0, i, ys, zs, j, h => by cases h
  | f + 1, i, ys, zs, j, h => by
    unfold txtF at h
    split at h
    · split at h
      · have := txt_ge f _ _ _ _ h; omega
      · cases h; omega
    · split at h
      · split at h
        · have := txt_ge f _ _ _ _ h; omega
        · split at h
          · cases h
          · rename_i v j' he
            have h1 := escI_rng he
            have := txt_ge f _ _ _ _ h; omega
      · split at h
        · have := txt_ge f _ _ _ _ h; omega
        · cases h
theorem digs_one {xs : List Int} {base : Int} {pos : Nat} (hb : base ≤ 16) (h : digI (byteI xs pos) < base) : pos + 1 ≤ (digsB xs base xs.length pos 0).2 := by
  rw [digs_step xs base hb pos 0 h]; exact digs_ge _ _ _ _ _
/-- A token takes a byte at the least. -/
theorem next_len {xs : List Int} {call : Bool} {pos l : Nat} {k v : Int} {ys : List Int} (hb : Bytes xs) (hp : pos < xs.length) (h : nextR xs call pos = .ok (k, l, ys, v)) : 1 ≤ l := by
  have hr := byteI_rng hb pos
  unfold nextR nextF at h
  split at h
  · rename_i h1
    have := runI_pos hp (isOf7 hr.1 hr.2 (.inl h1))
    unfold runR at h
    split at h
    · cases h
    · cases h; omega
  split at h
  · rename_i h1
    have := runI_pos hp (isOf7 hr.1 hr.2 (.inr h1))
    unfold runR at h
    split at h
    · cases h
    · cases h; omega
  split at h
  · rename_i h4
    have hd : digI (byteI xs pos) < 10 := by
      rw [byteI_lt hp] at h4 ⊢
      have hr2 := hb.at pos
      rw [(cls_at hr2.1 hr2.2).2.1] at h4
      simp only [digitB, decide_eq_true_eq] at h4
      unfold digI
      rw [if_pos h4]; omega
    unfold numR at h
    split at h
    · cases h
    · rename_i v' q hq
      have hge : pos + 1 ≤ q := by
        rw [numI, numF] at hq
        split at hq
        · have h9 := digs_one (xs := xs) (by decide) hd
          rw [Option.some.inj hq] at h9; exact h9
        · split at hq
          · have := chrI_rng hb hq; omega
          · split at hq
            · have h9 := digs_ge xs (baseI (byteI xs (pos + 1))) xs.length (pos + 2) 0
              rw [Option.some.inj hq] at h9; simp only at h9; omega
            · have h9 := digs_one (xs := xs) (by decide) hd
              rw [Option.some.inj hq] at h9; exact h9
      split at h
      · cases h
      · split at h
        · cases h
        · cases h; omega
  split at h
  · cases h; omega
  split at h
  · rename_i h8
    have := runI_pos hp h8
    unfold runR at h
    split at h
    · cases h
    · cases h; omega
  split at h
  · cases h; omega
  have hquo : ∀ kd, quoR xs kd pos = .ok (k, l, ys, v) → 1 ≤ l := fun kd hq => by
    unfold quoR at hq
    split at hq
    · cases hq
    · rename_i zs j hj
      have := txt_ge _ _ _ _ _ hj
      split at hq
      · cases hq
      · cases hq; omega
  split at h
  · exact hquo 1 h
  split at h
  · exact hquo 4 h
  split at h
  · cases h; omega
  split at h
  · cases h; omega
  · cases h

end Go.Proofs.YtfhelmhcmfpedaaDoor

namespace Go.Proofs.YtfhelmhcmfpedaaDoor
open Go Go.RowKit
set_option linter.unusedVariables false

theorem lexF_more {xs : List Int} (hb : Bytes xs) : ∀ (f pos : Nat) (a : Int) (acc : List Tok), xs.length ≤ pos + f → ∀ g, lexF xs (f + g) pos a acc = lexF xs f pos a acc
  | 0, pos, a, acc, h, 0 => rfl
  | 0, pos, a, acc, h, g + 1 => by
    rw [Nat.zero_add]
    unfold lexF
    rw [if_pos (by omega)]
  | f + 1, pos, a, acc, h, g => by
    rw [show f + 1 + g = (f + g) + 1 by omega]
    unfold lexF
    by_cases hp : xs.length ≤ pos
    · rw [if_pos hp, if_pos hp]
    · rw [if_neg hp, if_neg hp]
      cases hl : layI xs pos with
      | none => rfl
      | some n =>
        simp only
        by_cases h0 : 0 < n
        · rw [if_pos h0, if_pos h0]; exact lexF_more hb f (pos + n) a acc (by omega) g
        · rw [if_neg h0, if_neg h0]
          cases hn : nextR xs (decide (a = pos)) pos with
          | error c => rfl
          | ok r =>
            obtain ⟨k, l, ys, v⟩ := r
            have := next_len hb (by omega) hn
            exact lexF_more hb f (pos + l) _ _ (by omega) g
theorem lexI_at {xs : List Int} (hb : Bytes xs) {pos m : Nat} (hm : 1 ≤ m) (hp : pos < xs.length) (a : Int) (acc : List Tok) : lexF xs (xs.length - pos) (pos + m) a acc = lexI xs (pos + m) a acc := by
  have h := lexF_more hb (xs.length + 1 - (pos + m)) (pos + m) a acc (by omega) ((xs.length - pos) - (xs.length + 1 - (pos + m)))
  rw [show xs.length + 1 - (pos + m) + (xs.length - pos - (xs.length + 1 - (pos + m))) = xs.length - pos by omega] at h
  exact h
theorem lexI_end {xs : List Int} {pos : Nat} (h : xs.length ≤ pos) (a : Int) (acc : List Tok) : lexI xs pos a acc = .ok acc := by
  unfold lexI
  rcases Nat.eq_zero_or_pos (xs.length + 1 - pos) with h0 | h0
  · rw [h0]; rfl
  · rw [show xs.length + 1 - pos = (xs.length - pos) + 1 by omega]
    unfold lexF
    rw [if_pos h]
theorem lexI_step {xs : List Int} (hb : Bytes xs) {pos : Nat} (hp : pos < xs.length) (a : Int) (acc : List Tok) : lexI xs pos a acc = match layI xs pos with
    | none => .error (2, pos)
    | some n => if 0 < n then lexI xs (pos + n) a acc else match nextR xs (decide (a = pos)) pos with
      | .error c => .error (c, pos)
      | .ok (kind, len, ys, v) => lexI xs (pos + len) (if kind = 1 then ((pos + len : Nat) : Int) else -1) (acc ++ [((kind, (pos : Int), (len : Int), v), ys)]) := by
  conv => lhs; unfold lexI
  rw [show xs.length + 1 - pos = (xs.length - pos) + 1 by omega]
  conv => lhs; unfold lexF
  rw [if_neg (by omega)]
  cases hl : layI xs pos with
  | none => rfl
  | some n =>
    simp only
    by_cases h0 : 0 < n
    · rw [if_pos h0, if_pos h0]; exact lexI_at hb h0 hp a acc
    · rw [if_neg h0, if_neg h0]
      cases hn : nextR xs (decide (a = pos)) pos with
      | error c => rfl
      | ok r =>
        obtain ⟨k, l, ys, v⟩ := r
        exact lexI_at hb (next_len hb hp hn) hp _ _
/-- Lex of a text. -/
def lexR (xs : List Int) : LexR := if 10000 < xs.length then .error (3, 10000) else lexI xs 0 (-1) []
def LexSOut (w : World) (r : LexR) (e : Ending) (w' : World) : Prop :=
  match r with
  | .ok ts => ∃ p n c, e = .returned (.tuple #[.slice p n c, .int .i64 0, .int .i64 0]) ∧ OwnK w' w.heap.size p n c ts ∧ Below w.heap.size w w'
  | .error (c, at_) => e = .returned (.tuple #[.slice none 0 0, .int .i64 c, .int .i64 at_]) ∧ Below w.heap.size w w'
theorem lexSOut_of {w w' : World} {e : Ending} {r r' : LexR} (h : LexSOut w r e w') (er : r' = r) : LexSOut w r' e w' := er ▸ h

/-- append of one token onto tokens of the call's own. -/
theorem app_tok (W0 w : World) {ops : Array Oper} {rest : List Oper} {o : Oper} {a : Act} {Q : Exit → Act → World → Prop} (hgd : o.guard = none) (s x : Operand)
    (ho : o.op = .call { callee := .builtin .append, args := #[s, x], argTypes := #[27, 27] }) (B : Nat) (p : Option Addr) (n c : Nat) (ts : List Tok)
    (hs : a.eval s = .slice p n c) (hown : OwnK W0 B p n c ts) (hb0 : Below W0.heap.size W0 w) (hB : B ≤ W0.heap.size) (ad : Addr) (c' : Nat) (hx : a.eval x = .slice (some ad) 1 c') (hd : Int × Int × Int × Int) (tp : Option Addr) (tn tc : Nat) (t : List Int)
    (ht : OwnT w W0.heap.size tp tn tc t) (hnews : ∀ j u, (rtV (hd, tp, tn, tc))[j]? = some u → w.cell? (ad.add j) = some u) (hlen : n + 1 ≤ 1000000000)
    (h : ∀ g n' cap w', OwnK w' B (some ⟨g, 0, none⟩) n' cap (ts ++ [(hd, t)]) → Below B w w' → w.grownBy w' (Value.ownBlock (.slice p n c)) → Hid (n' = n + 1) → wpList Tryd.prog ops Q rest (a.put o.dst (.slice (some ⟨g, 0, none⟩) n' cap)) w') : wpList Tryd.prog ops Q (o :: rest) a w := by
  obtain ⟨i0, hi, hz0, hz1, hz2⟩ := info_parts infoTok
  obtain ⟨hn, rs, hl, hr, hf, ha⟩ := hown
  refine wpList_append_lies w hgd s x 27 ho B 39 i0 (.agg #[.int .i64 0, .int .i64 0, .int .i64 0, .slice none 0 0, .int .i64 0]) 5 56 Tryd.underlying27 hi hz0 hz1 hz2 rfl (by decide) (.slice p n c) n (flatT rs) hs (row_below hr hb0) ad 1 c' (rtV (hd, tp, tn, tc)) hx rfl hnews (rtV_one _) (by decide) (by unfold maxLen; omega) (by omega) (Nat.le_trans hB hb0.size) w.heap.size rfl ?_
  intro g cap w' hown' hgrow hat hlt
  refine h g _ cap w' (ownK_grew hn hl hr hf ha hb0 hB ht hown' hgrow hat) ((Below.refl _ _).grown hgrow (Nat.le_trans hB hb0.size) (fun k hk => ?_)) hgrow rfl
  exact (hr.lt k hk).1
theorem news_rt {w : World} {g : Nat} {r : RT} (h : w.heap[g]? = some (.cells #[.int .i64 r.1.1, .int .i64 r.1.2.1, .int .i64 r.1.2.2.1, .slice r.2.1 r.2.2.1 r.2.2.2, .int .i64 r.1.2.2.2] 39)) : ∀ j u, (rtV r)[j]? = some u → w.cell? ((⟨g, 0, none⟩ : Addr).add j) = some u := fun j u hu =>
  World.news_of_block h j u hu

end Go.Proofs.YtfhelmhcmfpedaaDoor

namespace Go.Proofs.YtfhelmhcmfpedaaDoor
open Go Go.RowKit
set_option linter.unusedVariables false

theorem lay_end (xs : List Int) (p : Nat) (h : xs.length ≤ p) : layI xs p = some 0 := by
  unfold layI
  rw [byteI_ge h]
  simp
theorem lay_lex {xs : List Int} (hb : Bytes xs) (a : Int) (acc : List Tok) : ∀ (f p : Nat), p ≤ xs.length → xs.length < p + f → match layA xs p with
    | .error q => lexI xs p a acc = .error (2, q) ∧ p ≤ q ∧ q ≤ xs.length
    | .ok q => lexI xs p a acc = lexI xs q a acc ∧ p ≤ q ∧ q ≤ xs.length ∧ layI xs q = some 0
  | 0, p, hp, hf => by omega
  | f + 1, p, hp, hf => by
    rw [layA_step hp]
    rcases Nat.lt_or_ge p xs.length with h | h
    · cases hl : layI xs p with
      | none =>
        simp only
        rw [lexI_step hb h, hl]
        exact ⟨rfl, Nat.le_refl _, hp⟩
      | some k =>
        simp only
        by_cases hk : 0 < k
        · rw [if_pos hk]
          have hr := layI_rng hp hl
          have ih := lay_lex hb a acc f (p + k) hr (by omega)
          have e : lexI xs p a acc = lexI xs (p + k) a acc := by rw [lexI_step hb h, hl]; simp only; rw [if_pos hk]
          rw [e]
          cases hq : layA xs (p + k) with
          | error q => rw [hq] at ih; exact ⟨ih.1, by have := ih.2.1; omega, ih.2.2⟩
          | ok q => rw [hq] at ih; exact ⟨ih.1, by have := ih.2.1; omega, ih.2.2⟩
        · rw [if_neg hk]
          exact ⟨rfl, Nat.le_refl _, hp, by rw [hl, show k = 0 by omega]⟩
    · rw [lay_end xs p h]
      exact ⟨rfl, Nat.le_refl _, hp, lay_end xs p h⟩
theorem lex_at {xs : List Int} (hb : Bytes xs) (a : Int) (acc : List Tok) (p : Nat) (hp : p ≤ xs.length) : match layA xs p with
    | .error q => lexI xs p a acc = .error (2, q) ∧ p ≤ q ∧ q ≤ xs.length
    | .ok q => lexI xs p a acc = lexI xs q a acc ∧ p ≤ q ∧ q ≤ xs.length ∧ layI xs q = some 0 := lay_lex hb a acc (xs.length + 1) p hp (by omega)

end Go.Proofs.YtfhelmhcmfpedaaDoor

namespace Go.Proofs.YtfhelmhcmfpedaaDoor
open Go Go.RowKit
set_option linter.unusedVariables false

theorem skipS_none {xs : List Int} {pos : Nat} (h : layI xs pos = none) : skipS xs pos = -1 := by rw [skipS, h]
theorem skipS_some {xs : List Int} {pos n : Nat} (h : layI xs pos = some n) : skipS xs pos = (n : Nat) := by rw [skipS, h]
theorem lay_le {xs : List Int} {pos n : Nat} (hp : pos < xs.length) (h : layI xs pos = some n) : pos + n ≤ xs.length := by
  unfold layI at h
  split at h
  · cases h; omega
  split at h
  · cases h
    have := runLen_le (fun c => c != 10) (xs.drop pos)
    rw [List.length_drop] at this
    unfold lineI; omega
  split at h
  · split at h
    · cases h
    · rename_i j hj
      cases h
      have := blk_rng _ _ _ hj
      omega
  · cases h; omega

theorem txt_le {xs : List Int} {q : Int} (hq : 0 ≤ q) : ∀ (f i : Nat) (ys zs : List Int) (j : Nat), txtF xs q f i ys = some (zs, j) → j ≤ xs.length
  | 0, i, ys, zs, j, h => by cases h
  | f + 1, i, ys, zs, j, h => by
    unfold txtF at h
    split at h
    · rename_i hi
      have hil : i < xs.length := by
        rcases Nat.lt_or_ge i xs.length with h' | h'
        · exact h'
        · rw [byteI_ge h'] at hi; omega
      split at h
      · exact txt_le hq f _ _ _ _ h
      · cases h; omega
    · split at h
      · split at h
        · exact txt_le hq f _ _ _ _ h
        · split at h
          · cases h
          · exact txt_le hq f _ _ _ _ h
      · split at h
        · exact txt_le hq f _ _ _ _ h
        · cases h
theorem next_le {xs : List Int} {call : Bool} {pos l : Nat} {k v : Int} {ys : List Int} (hb : Bytes xs) (hp : pos < xs.length) (h : nextR xs call pos = .ok (k, l, ys, v)) : l ≤ 2 * xs.length + 6 := by
  have hrun : ∀ kd kk, runR xs pos kd kk = .ok (k, l, ys, v) → l ≤ 2 * xs.length + 6 := fun kd kk hq => by
    have := runI_le kk xs pos (by omega)
    unfold runR at hq
    split at hq
    · cases hq
    · cases hq; omega
  have hquo : ∀ kd, quoR xs kd pos = .ok (k, l, ys, v) → l ≤ 2 * xs.length + 6 := fun kd hq => by
    unfold quoR at hq
    split at hq
    · cases hq
    · rename_i zs j hj
      have := txt_le (by rw [byteI_lt hp]; exact (hb.at pos).1) _ _ _ _ _ hj
      split at hq
      · cases hq
      · cases hq; omega
  unfold nextR nextF at h
  split at h
  · exact hrun _ _ h
  split at h
  · exact hrun _ _ h
  split at h
  · unfold numR at h
    split at h
    · cases h
    · rename_i v' q hq
      have := numI_rng hb hq
      split at h
      · cases h
      · split at h
        · cases h
        · cases h; omega
  split at h
  · cases h; omega
  split at h
  · exact hrun _ _ h
  split at h
  · cases h; omega
  split at h
  · exact hquo _ h
  split at h
  · exact hquo _ h
  split at h
  · cases h; omega
  split at h
  · cases h; omega
  · cases h
theorem next_code {xs : List Int} {call : Bool} {pos : Nat} {c : Int} (h : nextR xs call pos = .error c) : c = 2 ∨ c = 3 := by
  have hrun : ∀ kd kk, runR xs pos kd kk = .error c → c = 2 ∨ c = 3 := fun kd kk hq => by
    unfold runR at hq
    split at hq
    · cases hq; exact .inr rfl
    · cases hq
  have hquo : ∀ kd, quoR xs kd pos = .error c → c = 2 ∨ c = 3 := fun kd hq => by
    unfold quoR at hq
    split at hq
    · cases hq; exact .inl rfl
    · split at hq
      · cases hq; exact .inr rfl
      · cases hq
  unfold nextR nextF at h
  split at h
  · exact hrun _ _ h
  split at h
  · exact hrun _ _ h
  split at h
  · unfold numR at h
    split at h
    · cases h; exact .inl rfl
    · split at h
      · cases h; exact .inl rfl
      · split at h
        · cases h; exact .inr rfl
        · cases h
  split at h
  · cases h
  split at h
  · exact hrun _ _ h
  split at h
  · cases h
  split at h
  · exact hquo _ h
  split at h
  · exact hquo _ h
  split at h
  · cases h
  split at h
  · cases h
  · cases h; exact .inl rfl

set_option maxRecDepth 100000 in
set_option maxHeartbeats 8000000 in
theorem lexS_any (b cap : Nat) (xs : List Int) (w : World) (hb : Bytes xs) (hn : xs.length ≤ 1048576) (hcap : xs.length ≤ cap) (hc : ∀ m, m < xs.length → w.cell? ⟨b, m, none⟩ = some (.int .u8 (xs.getD m 0))) :
    Calls Tryd.prog 14 #[.slice (some ⟨b, 0, none⟩) xs.length cap] w (LexSOut w (lexR xs)) := by
  obtain ⟨n, en⟩ : ∃ n, n = xs.length := ⟨_, rfl⟩
  by_cases hbig : 10000 < xs.length
  · have HF : Hid (LexSOut w (lexR xs) (.returned (.tuple #[.slice none 0 0, .int .i64 3, .int .i64 10000])) w) := lexSOut_of (r := .error (3, 10000)) ⟨rfl, Below.refl _ _⟩ (by rw [lexR, if_pos hbig])
    rw [← en] at hn hbig ⊢
    have hbI : (10000 : Int) < n := by omega
    clear hb hc hcap en
    go_enter Tryd.func14, Tryd.ntmps14
    go_wp2_with fail
    go_ret3
    exact HF.out
  have HR : Hid (lexR xs = lexI xs 0 (-1) []) := by show _ = _; rw [lexR, if_neg hbig]
  have HC : Hid (∀ (W : World), Below w.heap.size w W → ∀ m, m < xs.length → W.cell? ⟨b, m, none⟩ = some (.int .u8 (xs.getD m 0))) := fun W hW m hm => (hW.cell (World.block_lt_of_cell? _ _ (hc m hm))).trans (hc m hm)
  have HSK : Hid (∀ (W : World) (pos : Nat), Below w.heap.size w W → pos < n → Calls Tryd.prog 28 #[.slice (some ⟨b, 0, none⟩) n cap, .int .i64 pos] W fun e w' => e = .returned (.int .i64 (skipS xs pos)) ∧ w' = W) := fun W pos hW hp => by
    have := skipS_any b cap pos xs W hb (by omega) (by omega) (HC.out W hW)
    rw [← en] at this; exact this
  have HTK : Hid (∀ (W : World) (pos : Nat) (call : Bool), Below w.heap.size w W → pos < n → Calls Tryd.prog 29 #[.slice (some ⟨b, 0, none⟩) n cap, .int .i64 pos, .bool call] W (TokSOut W pos (nextR xs call pos))) := fun W pos call hW hp => by
    have := tokenS_any b cap pos call xs W hb (by omega) hcap (by omega) (HC.out W hW)
    rw [← en] at this; exact this
  have HBY : Hid (Bytes xs) := hb
  have HN : Hid (n = xs.length) := en
  have hn4 : n ≤ 10000 := by omega
  have hbI : ¬ (10000 : Int) < n := by omega
  rw [← en] at hcap ⊢
  clear hb hc en hn hbig HC
  go_enter Tryd.func14, Tryd.ntmps14
  go_wp2_with fail
  go_loopw [5, 6, 7] (fun s pv av wr => ∃ (pos n5 c5 : Nat) (a : Int) (p5 : Option Addr) (ts : List Tok), pos ≤ 60000 ∧ n5 ≤ pos ∧ -1 ≤ a ∧ a ≤ 60000 ∧ s = .slice p5 n5 c5 ∧ pv = .int .i64 pos ∧ av = .int .i64 a ∧ Hid (lexI xs pos a ts = lexI xs 0 (-1) []) ∧ Hid (OwnK wr w.heap.size p5 n5 c5 ts) ∧ Hid (Below w.heap.size w wr)) (fun _ pv _ _ => 70000 - (intOf pv).toNat)
  case atStart => exact ⟨0, 0, 0, -1, none, [], by omega, by omega, by omega, by omega, by trivial, by trivial, by trivial, rfl, OwnK.nil _ _, Below.refl _ _⟩
  case round =>
    obtain ⟨pos, n5, c5, a, p5, ts, hpos, hn5, ha0, ha1, rfl, rfl, rfl, HT, HO, HB⟩ := hrel
    by_cases hlt : pos < n
    · have hsk := HSK.out wr pos HB.out hlt
      have hstep := lexI_step HBY.out (pos := pos) (by rw [← HN.out]; exact hlt) a ts
      cases hl : layI xs pos with
      | none =>
        rw [skipS_none hl] at hsk
        rw [hl] at hstep
        have HF : Hid (LexSOut w (lexR xs) (.returned (.tuple #[.slice none 0 0, .int .i64 2, .int .i64 pos])) wr) := lexSOut_of (r := .error (2, pos)) ⟨rfl, HB.out⟩ (by rw [HR.out, ← HT.out]; exact hstep)
        clear hstep hl HSK HTK HBY HT HO HB HR
        go_wp2_with (go_at_call 28; refine hsk.mono ?_; rintro e w' ⟨rfl, rfl⟩)
        go_ret3
        exact HF.out
      | some m =>
        rw [skipS_some hl] at hsk
        rw [hl] at hstep
        have hmle := lay_le (by rw [← HN.out]; exact hlt) hl
        have hm : pos + m ≤ 10000 := by have := HN.out; omega
        simp only at hstep
        by_cases h0 : 0 < m
        · rw [if_pos h0] at hstep
          have HT2 : Hid (lexI xs (pos + m) a ts = lexI xs 0 (-1) []) := by show _ = _; rw [← HT.out]; exact hstep.symm
          have h0I : (0 : Int) < m := by omega
          clear hstep hl hmle HSK HTK HBY HT HR
          go_wp2_with (go_at_call 28; refine hsk.mono ?_; rintro e w' ⟨rfl, rfl⟩)
          go_roundw
          case rel => exact ⟨pos + m, n5, c5, a, _, _, by omega, by omega, by omega, by omega, by trivial, by go_num, by trivial, HT2, HO, HB⟩
          case measure => simp [intOf]; omega
        · obtain rfl : m = 0 := by omega
          rw [if_neg h0] at hstep
          obtain ⟨cl, ecl⟩ : ∃ cl : Bool, cl = decide (a = pos) := ⟨_, rfl⟩
          rw [← ecl] at hstep
          have hcl : (a == (pos : Int)) = cl := by rw [ecl]; rfl
          have htk := HTK.out wr pos cl HB.out hlt
          have HBY2 : Hid (Bytes xs) := HBY
          clear ecl hl hmle HSK HTK HBY
          cases hnx : nextR xs cl pos with
          | error cd =>
            rw [hnx] at htk hstep
            have HF : Hid (∀ W, Below w.heap.size w W → LexSOut w (lexR xs) (.returned (.tuple #[.slice none 0 0, .int .i64 cd, .int .i64 pos])) W) := fun W hW => lexSOut_of (r := .error (cd, pos)) ⟨rfl, hW⟩ (by rw [HR.out, ← HT.out]; exact hstep)
            have hcd := next_code hnx
            have hcb : (cd != 0) = true := by simp; omega
            clear hstep hnx HT HO HR hcd
            go_wp2_with (go_at_call 28; refine hsk.mono ?_; rintro e w' ⟨rfl, rfl⟩)
            refine htk.mono ?_
            rintro e w5 ⟨k, a', l, v, rfl, hb5⟩
            have HF5 : Hid _ := HF.out _ ((Below.on HB.out hb5).alloc (Nat.le_trans HB.out.size hb5.size) (.cells #[.int .i64 k, .int .i64 a', .int .i64 l, .slice none 0 0, .int .i64 v] 39))
            clear HF hb5 htk hsk
            go_wp2_with fail
            go_ret3
            exact HF5.out
          | ok r =>
            obtain ⟨k, l, ys, v⟩ := r
            have hl1 := next_len HBY2.out (by rw [← HN.out]; exact hlt) hnx
            have hl2 := next_le HBY2.out (by rw [← HN.out]; exact hlt) hnx
            have hl3 : l ≤ 20006 := by have := HN.out; omega
            rw [hnx] at htk hstep
            simp only at hstep
            have HS : Hid (lexI xs (pos + l) (if k = 1 then ((pos + l : Nat) : Int) else -1) (ts ++ [((k, (pos : Int), (l : Int), v), ys)]) = lexI xs 0 (-1) []) := by show _ = _; rw [← HT.out]; exact hstep.symm
            clear hstep hnx HT HR hl2 HBY2
            go_wp2_with (go_at_call 28; refine hsk.mono ?_; rintro e w' ⟨rfl, hw'⟩; obtain rfl := hw'.symm)
            refine htk.mono ?_
            rintro e w5 ⟨p6, n6, c6, rfl, ho6, hb6⟩
            obtain ⟨wB, eB⟩ : ∃ wB, wB = (w5.alloc (.cells #[.int .i64 k, .int .i64 pos, .int .i64 l, .slice p6 n6 c6, .int .i64 v] 39)).alloc (.cells #[.int .i64 k, .int .i64 pos, .int .i64 l, .slice p6 n6 c6, .int .i64 v] 39) := ⟨_, rfl⟩
            have hb5B : Below w5.heap.size w5 wB := by rw [eB]; exact ((Below.refl _ _).alloc (Nat.le_refl _) _).alloc (by simp) _
            have G1 : wB.heap[w5.heap.size]? = some (.cells #[.int .i64 k, .int .i64 pos, .int .i64 l, .slice p6 n6 c6, .int .i64 v] 39) := by rw [eB]; exact (Below.heap_alloc _ _ _ (by simp)).trans (heap_alloc_new _ _)
            have G2 : wB.heap[w5.heap.size + 1]? = some (.cells #[.int .i64 k, .int .i64 pos, .int .i64 l, .slice p6 n6 c6, .int .i64 v] 39) := by
              have := heap_alloc_new (w5.alloc (.cells #[.int .i64 k, .int .i64 pos, .int .i64 l, .slice p6 n6 c6, .int .i64 v] 39)) (.cells #[.int .i64 k, .int .i64 pos, .int .i64 l, .slice p6 n6 c6, .int .i64 v] 39)
              rw [World.size_alloc] at this
              rw [eB]; exact this
            have HG1 : Hid _ := G1
            have HNW : Hid _ := news_rt (r := ((k, (pos : Int), (l : Int), v), p6, n6, c6)) G2
            have HBB : Hid (Below wr.heap.size wr wB) := Below.on hb6 hb5B
            have HOT : Hid (OwnT wB wr.heap.size p6 n6 c6 ys) := ho6.toT.below hb5B
            have HW5 : Hid (wr.heap.size ≤ w5.heap.size ∧ w5.heap.size < wB.heap.size) := ⟨hb6.size, (Array.getElem?_eq_some_iff.1 G1).1⟩
            have HLO : Hid (∀ q, Value.ownBlock (.slice p5 n5 c5) = some q → q < wr.heap.size) := fun q hq => by
              obtain ⟨_, rs, _, hr, _⟩ := HO.out
              exact (hr.lt q hq).2
            clear htk hsk ho6 hb6 hb5B G1 G2
            by_cases hk1 : k = 1
            · have hs := HS.out
              rw [if_pos hk1] at hs
              have HS1 : Hid (lexI xs (pos + l) (((pos + l : Nat) : Int)) (ts ++ [((k, (pos : Int), (l : Int), v), ys)]) = lexI xs 0 (-1) []) := hs
              have hkb : (k == 1) = true := by simpa using hk1
              clear hs HS hk1
              go_wp2_with (rw [← eB]; refine app_tok wr _ rfl _ _ rfl w.heap.size p5 n5 c5 ts rfl HO.out HBB.out HB.out.size ⟨w5.heap.size + 1, 0, none⟩ 1 rfl (k, (pos : Int), (l : Int), v) p6 n6 c6 ys HOT.out HNW.out (by omega) ?_; intro g7 n7 cap7 w7 hown7 hb7 hg7 hn7; obtain ⟨⟨a0, a1, a2, a3, a4⟩, af⟩ := five_cells ((hg7.block w5.heap.size HW5.out.2 (fun e => by have := HLO.out _ e.symm; have := HW5.out.1; omega)).trans HG1.out); have HO7 : Hid (OwnK w7 w.heap.size (some ⟨g7, 0, none⟩) n7 cap7 (ts ++ [((k, (pos : Int), (l : Int), v), ys)])) := hown7; have HB7 : Hid (Below w.heap.size w w7) := (HB.out.trans (HBB.out.mono HB.out.size)).trans hb7; have HN7 : Hid (n7 = n5 + 1) := hn7; clear hown7 hb7 hg7 hn7)
              have hn7' := HN7.out
              go_roundw
              case rel => exact ⟨pos + l, n7, cap7, ((pos + l : Nat) : Int), _, _, by omega, by omega, by omega, by omega, by trivial, by go_num, by go_num, HS1, HO7, HB7⟩
              case measure => simp [intOf]; omega
            · have hs := HS.out
              rw [if_neg hk1] at hs
              have HS1 : Hid (lexI xs (pos + l) (-1) (ts ++ [((k, (pos : Int), (l : Int), v), ys)]) = lexI xs 0 (-1) []) := hs
              have hkb : (k == 1) = false := by simpa using hk1
              clear hs HS hk1
              go_wp2_with (rw [← eB]; refine app_tok wr _ rfl _ _ rfl w.heap.size p5 n5 c5 ts rfl HO.out HBB.out HB.out.size ⟨w5.heap.size + 1, 0, none⟩ 1 rfl (k, (pos : Int), (l : Int), v) p6 n6 c6 ys HOT.out HNW.out (by omega) ?_; intro g7 n7 cap7 w7 hown7 hb7 hg7 hn7; obtain ⟨⟨a0, a1, a2, a3, a4⟩, af⟩ := five_cells ((hg7.block w5.heap.size HW5.out.2 (fun e => by have := HLO.out _ e.symm; have := HW5.out.1; omega)).trans HG1.out); have HO7 : Hid (OwnK w7 w.heap.size (some ⟨g7, 0, none⟩) n7 cap7 (ts ++ [((k, (pos : Int), (l : Int), v), ys)])) := hown7; have HB7 : Hid (Below w.heap.size w w7) := (HB.out.trans (HBB.out.mono HB.out.size)).trans hb7; have HN7 : Hid (n7 = n5 + 1) := hn7; clear hown7 hb7 hg7 hn7)
              have hn7' := HN7.out
              go_roundw
              case rel => exact ⟨pos + l, n7, cap7, -1, _, _, by omega, by omega, by omega, by omega, by trivial, by go_num, by trivial, HS1, HO7, HB7⟩
              case measure => simp [intOf]; omega
    · have hltI : ¬ (pos : Int) < n := by omega
      have HF : Hid (LexSOut w (lexR xs) (.returned (.tuple #[.slice p5 n5 c5, .int .i64 0, .int .i64 0])) wr) := lexSOut_of (r := .ok ts) ⟨p5, n5, c5, rfl, HO.out, HB.out⟩ (by rw [HR.out, ← HT.out, lexI_end (by rw [← HN.out]; omega)])
      clear HSK HTK HBY HT HO HB HR
      go_wp2_with fail
      go_ret3
      exact HF.out

end Go.Proofs.YtfhelmhcmfpedaaDoor

namespace Go.Proofs.YtfhelmhcmfpedaaDoor
open Go Go.RowKit
set_option linter.unusedVariables false

theorem byteI_in {xs : List Int} {i : Nat} (h : byteI xs i ≠ -1) : i < xs.length := by
  rcases Nat.lt_or_ge i xs.length with h' | h'
  · exact h'
  · exact absurd (byteI_ge h') h
theorem dig_in {xs : List Int} {i : Nat} {base : Int} (hb : base ≤ 16) (h : digI (byteI xs i) < base) : i < xs.length := byteI_in fun e => by
  rw [e] at h
  have : digI (-1) = 16 := by decide
  omega
theorem digs_fit (xs : List Int) (base : Int) (hb : base ≤ 16) : ∀ (f i : Nat) (v : Int), i ≤ xs.length → (digsB xs base f i v).2 ≤ xs.length
  | 0, i, v, h => h
  | f + 1, i, v, h => by
    unfold digsB
    split
    · rename_i hd
      exact digs_fit xs base hb f (i + 1) _ (dig_in hb hd)
    · exact h
theorem hexI_fit {xs : List Int} {at_ q : Nat} {v : Int} (h : hexI xs at_ = some (v, q)) : q ≤ xs.length := by
  unfold hexI at h
  simp only at h
  split at h
  · cases h
  · rename_i hn
    have h9 : byteI xs (digsB xs 16 xs.length at_ 0).2 = 92 := Classical.byContradiction fun e => hn (.inr (.inr e))
    have := byteI_in (xs := xs) (i := (digsB xs 16 xs.length at_ 0).2) (by rw [h9]; decide)
    cases h
    omega
theorem escI_fit {xs : List Int} {at_ q : Nat} {v : Int} (h : escI xs at_ = some (v, q)) : q ≤ xs.length := by
  unfold escI at h
  have hin : byteI xs (at_ + 1) ≠ -1 → at_ + 2 ≤ xs.length := fun h => byteI_in h
  generalize byteI xs (at_ + 1) = x at h hin
  unfold escF at h
  repeat' (split at h)
  all_goals first | (exact hexI_fit h) | (cases h; exact hin (by omega)) | cases h
theorem chrI_fit {xs : List Int} {at_ q : Nat} {v : Int} (h : chrI xs at_ = some (v, q)) : q ≤ xs.length := by
  unfold chrI at h
  have h0 : byteI xs at_ ≠ -1 → at_ + 1 ≤ xs.length := fun h => byteI_in h
  have h1 : byteI xs (at_ + 1) ≠ -1 → at_ + 2 ≤ xs.length := fun h => byteI_in h
  generalize byteI xs (at_ + 1) = y at h h1
  generalize byteI xs at_ = x at h h0
  unfold chrF at h
  split at h
  · cases h; exact h1 (by omega)
  split at h
  · exact escI_fit h
  split at h
  · cases h
  · rename_i hn
    cases h
    exact h0 (by omega)
theorem numI_fit {xs : List Int} {pos q : Nat} {v : Int} (hp : pos < xs.length) (h : numI xs pos = some (v, q)) : q ≤ xs.length := by
  have key : ∀ bs : Int, bs ≤ 16 → ∀ at_ : Nat, at_ ≤ xs.length → some (digsB xs bs xs.length at_ 0) = some (v, q) → q ≤ xs.length := fun bs h0 at_ ha e => by
    have h1 := digs_fit xs bs h0 xs.length at_ 0 ha
    simp only [Option.some.injEq] at e
    rw [e] at h1
    exact h1
  unfold numI numF at h
  split at h
  · exact key 10 (by decide) pos (by omega) h
  split at h
  · exact chrI_fit h
  split at h
  · rename_i hd
    have := dig_in (baseI_rng _).2 hd
    exact key _ (baseI_rng _).2 (pos + 2) (by omega) h
  · exact key 10 (by decide) pos (by omega) h
theorem next_fit {xs : List Int} {call : Bool} {pos l : Nat} {k v : Int} {ys : List Int} (hb : Bytes xs) (hp : pos < xs.length) (h : nextR xs call pos = .ok (k, l, ys, v)) : pos + l ≤ xs.length := by
  have hrun : ∀ kd kk, runR xs pos kd kk = .ok (k, l, ys, v) → pos + l ≤ xs.length := fun kd kk hq => by
    have := runI_le kk xs pos (by omega)
    unfold runR at hq
    split at hq
    · cases hq
    · cases hq; omega
  have hquo : ∀ kd, quoR xs kd pos = .ok (k, l, ys, v) → pos + l ≤ xs.length := fun kd hq => by
    unfold quoR at hq
    split at hq
    · cases hq
    · rename_i zs j hj
      have := txt_le (by rw [byteI_lt hp]; exact (hb.at pos).1) _ _ _ _ _ hj
      split at hq
      · cases hq
      · cases hq; omega
  unfold nextR nextF at h
  split at h
  · exact hrun _ _ h
  split at h
  · exact hrun _ _ h
  split at h
  · unfold numR at h
    split at h
    · cases h
    · rename_i v' q hq
      have := numI_fit hp hq
      split at h
      · cases h
      · split at h
        · cases h
        · cases h; omega
  split at h
  · cases h; omega
  split at h
  · exact hrun _ _ h
  split at h
  · cases h; omega
  split at h
  · exact hquo _ h
  split at h
  · exact hquo _ h
  split at h
  · cases h; omega
  split at h
  · cases h; omega
  · cases h

end Go.Proofs.YtfhelmhcmfpedaaDoor

namespace Go.Proofs.YtfhelmhcmfpedaaDoor
open Go Go.RowKit Go.Shelf
set_option linter.unusedVariables false
attribute [local go_sem] Oper.semAt_some

/-- What a round keeps: what lies up to the scanner's block, but for one box. -/
structure RK (S TB : Nat) (W W' : World) : Prop where
  size : W.heap.size ≤ W'.heap.size
  block : ∀ k, k ≤ S → k ≠ TB → W'.heap[k]? = W.heap[k]?
/-- Where the blocks lie. -/
structure Geo (S b TB : Nat) : Prop where
  src : b < TB
  tab : 0 < TB
  max : 2 < TB
  box : TB < S
/-- The scanner between two tokens; a: where the last atom ended. -/
structure SSt (W : World) (S b n c : Nat) (xs : List Int) (m : Int) (pos : Nat) (a : Int) : Prop where
  env : Env W S b n c pos xs
  max : W.cell? ⟨2, 0, none⟩ = some (.int .i64 m)
  last : ∃ (ka la ll : Int) (v5 v6 : Value), W.cell? ⟨S, 2, none⟩ = some (.int .i64 ka) ∧ W.cell? ⟨S, 3, none⟩ = some (.int .i64 la) ∧ W.cell? ⟨S, 4, none⟩ = some (.int .i64 ll) ∧ W.cell? ⟨S, 5, none⟩ = some v5 ∧ W.cell? ⟨S, 6, none⟩ = some v6 ∧
    (0 ≤ la ∧ la ≤ 100000) ∧ (0 ≤ ll ∧ ll ≤ 100000) ∧ a = if ka = 1 then la + ll else -1
theorem SSt.moved {W W' : World} {S b n c : Nat} {xs : List Int} {m : Int} {pos q : Nat} {a : Int} (h : SSt W S b n c xs m pos a) (M : Moved W W' S q) : SSt W' S b n c xs m q a := by
  obtain ⟨ka, la, ll, v5, v6, h2, h3, h4, h5, h6, hr⟩ := h.last
  exact ⟨h.env.moved M, max_kept h.env M h.max, ka, la, ll, v5, v6, (M.other 2 (by decide)).trans h2, (M.other 3 (by decide)).trans h3, (M.other 4 (by decide)).trans h4, (M.other 5 (by decide)).trans h5, (M.other 6 (by decide)).trans h6, hr⟩
theorem SSt.below {W W' : World} {S b n c : Nat} {xs : List Int} {m : Int} {pos : Nat} {a : Int} (h : SSt W S b n c xs m pos a) (hb : Below W.heap.size W W') : SSt W' S b n c xs m pos a := h.moved (Moved.of_below hb h.env.inH h.env.at1)
theorem SSt.kept {W W' : World} {S b n c TB : Nat} {xs : List Int} {m : Int} {pos : Nat} {a : Int} (h : SSt W S b n c xs m pos a) (g : Geo S b TB) (k : RK S TB W W') : SSt W' S b n c xs m pos a := by
  have hS : ∀ j, W'.cell? ⟨S, j, none⟩ = W.cell? ⟨S, j, none⟩ := fun j => World.cell?_of_block (a := ⟨S, j, none⟩) (k.block S (Nat.le_refl _) (by have := g.box; omega))
  obtain ⟨ka, la, ll, v5, v6, h2, h3, h4, h5, h6, hr⟩ := h.last
  refine ⟨⟨h.env.bytes, h.env.len, h.env.cap, h.env.small, (hS 0).trans h.env.src, (hS 1).trans h.env.at1, fun j => ?_, Nat.lt_of_lt_of_le h.env.inH k.size, fun i hi => ?_, fun i hi => ?_⟩, ?_, ka, la, ll, v5, v6, (hS 2).trans h2, (hS 3).trans h3, (hS 4).trans h4, (hS 5).trans h5, (hS 6).trans h6, hr⟩
  · rw [← h.env.fz j]
    simp only [World.frozen?, k.block S (Nat.le_refl _) (by have := g.box; omega)]
  · rw [World.cell?_of_block (w := W) (a := ⟨b, i, none⟩) (k.block b (by have := g.src; have := g.box; omega) (by have := g.src; omega))]
    exact h.env.row i hi
  · rw [World.cell?_of_block (w := W) (a := ⟨0, i, none⟩) (k.block 0 (by have := g.tab; have := g.box; omega) (by have := g.tab; omega))]
    exact h.env.tab i hi
  · rw [World.cell?_of_block (w := W) (a := ⟨2, 0, none⟩) (k.block 2 (by have := g.max; have := g.box; omega) (by have := g.max; omega))]
    exact h.max
theorem call_is {ka la ll a : Int} {pos : Nat} (ha : a = if ka = 1 then la + ll else -1) : callI ka la ll pos = decide (a = pos) := by
  unfold callI
  rw [ha]
  by_cases h : ka = 1
  · simp [h]
  · rw [if_neg h]
    simp only [h, false_and, decide_false]
    symm
    simp only [decide_eq_false_iff_not]
    omega
theorem grown_last (w : World) (g : Nat) (v0 v1 v2 v3 v4 : Value) : w.grownBy (w.setCells g 2 [v0, v1, v2, v3, v4]) (some g) :=
  ((((grown_setCell w ⟨g, 2, none⟩ v0).trans (grown_setCell _ ⟨g, 3, none⟩ v1)).trans (grown_setCell _ ⟨g, 4, none⟩ v2)).trans (grown_setCell _ ⟨g, 5, none⟩ v3)).trans (grown_setCell _ ⟨g, 6, none⟩ v4)
theorem SSt.set {W : World} {S b n c : Nat} {xs : List Int} {m : Int} {pos : Nat} {a : Int} (h : SSt W S b n c xs m pos a) (kd at_ len v : Int) (p : Option Addr) (k cp : Nat) (h1 : 0 ≤ at_ ∧ at_ ≤ 100000) (h2 : 0 ≤ len ∧ len ≤ 100000) :
    SSt (W.setCells S 2 [.int .i64 kd, .int .i64 at_, .int .i64 len, .slice p k cp, .int .i64 v]) S b n c xs m pos (if kd = 1 then at_ + len else -1) := by
  obtain ⟨ka, la, ll, v5, v6, c2, c3, c4, c5, c6, hr⟩ := h.last
  have G := grown_last W S (.int .i64 kd) (.int .i64 at_) (.int .i64 len) (.slice p k cp) (.int .i64 v)
  have hsm : ∀ j, j < [Value.int .i64 kd, .int .i64 at_, .int .i64 len, .slice p k cp, .int .i64 v].length → (W.cell? ⟨S, 2 + j, none⟩).isSome = true := fun j hj => by
    have hj' : j < 5 := hj
    rcases (by omega : j = 0 ∨ j = 1 ∨ j = 2 ∨ j = 3 ∨ j = 4) with rfl | rfl | rfl | rfl | rfl
    · rw [c2]; rfl
    · rw [c3]; rfl
    · rw [c4]; rfl
    · rw [c5]; rfl
    · rw [c6]; rfl
  have hin := World.cell?_setCells_in S [.int .i64 kd, .int .i64 at_, .int .i64 len, .slice p k cp, .int .i64 v] 2 W hsm
  have htS : S ≠ 0 := fun e => by have := h.env.tab 0 (by decide); have h2 := h.env.src; rw [e] at h2; rw [h2] at this; cases this
  have hmS : S ≠ 2 := fun e => by have := h.max; have h2 := h.env.src; rw [e] at h2; rw [h2] at this; cases this
  refine ⟨⟨h.env.bytes, h.env.len, h.env.cap, h.env.small, ?_, ?_, fun j => ?_, Nat.lt_of_lt_of_le h.env.inH G.size, fun i hi => ?_, fun i hi => ?_⟩, ?_, kd, at_, len, _, _, hin 0 (by simp), hin 1 (by simp), hin 2 (by simp), hin 3 (by simp), hin 4 (by simp), h1, h2, rfl⟩
  · rw [World.cell?_setCells_out S _ 2 W ⟨S, 0, none⟩ (fun _ _ => .inl (by simp))]; exact h.env.src
  · rw [World.cell?_setCells_out S _ 2 W ⟨S, 1, none⟩ (fun _ _ => .inl (by simp))]; exact h.env.at1
  · rw [World.frozen?_setCells]; exact h.env.fz j
  · have hbS : b ≠ S := fun e => by have := h.env.row 0 (by omega); rw [e, h.env.src] at this; cases this
    rw [World.cell?_setCells_out S _ 2 W ⟨b, i, none⟩ (fun e _ => absurd e hbS)]; exact h.env.row i hi
  · rw [World.cell?_setCells_out S _ 2 W ⟨0, i, none⟩ (fun e _ => absurd e.symm htS)]; exact h.env.tab i hi
  · rw [World.cell?_setCells_out S _ 2 W ⟨2, 0, none⟩ (fun e _ => absurd e.symm hmS)]; exact h.max
theorem OwnS.grownS {W W' : World} {B S k cp : Nat} {p : Option Addr} {ys : List Int} (h : OwnS W B p k cp ys) (hS : S < B) (G : W.grownBy W' (some S)) : OwnS W' B p k cp ys := by
  obtain ⟨rfl, hr⟩ := h
  refine ⟨rfl, hr.1, ?_⟩
  rcases hr.2 with h' | ⟨g, cap, cur, hv, hB, hg, r⟩
  · exact .inl h'
  · exact .inr ⟨g, cap, cur, hv, hB, (G.block g (Array.getElem?_eq_some_iff.1 hg).1 (by simp; omega)).trans hg, r⟩
/-- What tokens leaves. -/
def TksOut (J : List Tok → World → Prop) (r : LexR) (e : Ending) (W' : World) : Prop :=
  match r with
  | .ok ts => (∃ v, e = .returned v) ∧ J ts W'
  | .error (cd, q) => Faults cd q e ∧ ∃ ts, J ts W'
theorem tksOut_of {J : List Tok → World → Prop} {r r' : LexR} {e : Ending} {W' : World} (h : TksOut J r e W') (er : r' = r) : TksOut J r' e W' := er ▸ h

set_option maxRecDepth 100000 in
set_option maxHeartbeats 600000 in
theorem tokens_in (S b n c TB l nn : Nat) (xs : List Int) (m : Int) (g : Geo S b TB) (J : List Tok → World → Prop) (hJ : ∀ ts W W', J ts W → W.grownBy W' (some S) → J ts W')
    (hY : ∀ ts W0 W (kd : Int) (pos len : Nat) p k cp ys v, J ts W0 → ts.length ≤ 10000 → W0.grownBy W (some S) → S < W0.heap.size → OwnS W W0.heap.size p k cp ys →
      YieldAt Fence.wide (nn - 1) Tryd.prog l #[tokV kd pos len p k cp v] W fun e W' => e = .returned (.bool true) ∧ J (ts ++ [((kd, (pos : Int), (len : Int), v), ys)]) W' ∧ RK S TB W W')
    (W : World) (hS : SSt W S b n c xs m 0 (-1)) (h0 : J [] W) :
    CallsIn Fence.wide nn Tryd.prog 32 #[.pointer (some ⟨S, 0, none⟩), .func (.yield l) #[] #[]] W (TksOut J (lexI xs 0 (-1) [])) := by
  have HL := skipLayout_any S b n c 0 xs m W hS.env (Nat.zero_le _) hS.max
  have hat := lex_at hS.env.bytes (-1) [] 0 (Nat.zero_le _)
  obtain ⟨R, eR⟩ : ∃ R, R = lexI xs 0 (-1) [] := ⟨_, rfl⟩
  rw [← eR] at hat ⊢
  clear eR
  cases hA : layA xs 0 with
  | error q =>
    rw [hA] at HL hat
    have HR : Hid (R = .error (2, q)) := hat.1
    clear hat
    refine callsIn_of_wp Tryd.func32 rfl trivial ?_ rfl
    simp only [Tryd.ntmps32, List.size_toArray, List.length_cons, List.length_nil, Nat.reduceAdd, Nat.reduceSub, Array.replicate_succ, Array.replicate_zero, List.push_toArray, List.append_toArray, List.nil_append, List.cons_append]
    gi_wp2_with fail
    refine ⟨trivial, fun h => (by cases h), (callsIn_wide.2 HL).mono ?_⟩
    rintro e w1 ⟨hfa, hgr⟩
    cases hfa
    refine ⟨rfl, tksOut_of ?_ HR.out⟩
    exact ⟨rfl, [], hJ _ _ _ h0 hgr⟩
  | ok q =>
    rw [hA] at HL hat
    have HR : Hid (R = lexI xs q (-1) [] ∧ 0 ≤ q ∧ q ≤ xs.length ∧ layI xs q = some 0) := hat
    have HS0 : Hid (SSt W S b n c xs m 0 (-1)) := hS
    have HJ0 : Hid (J [] W) := h0
    have HJJ : Hid (∀ ts W W', J ts W → W.grownBy W' (some S) → J ts W') := hJ
    have HYY : Hid _ := hY
    have HG : Hid (Geo S b TB) := g
    have hsm : n ≤ 10000 := hS.env.small
    have HN : Hid (n = xs.length) := hS.env.len
    have HBY : Hid (Bytes xs) := hS.env.bytes
    clear hS h0 hJ hY g hat hA
    refine callsIn_of_wp Tryd.func32 rfl trivial ?_ rfl
    simp only [Tryd.ntmps32, List.size_toArray, List.length_cons, List.length_nil, Nat.reduceAdd, Nat.reduceSub, Array.replicate_succ, Array.replicate_zero, List.push_toArray, List.append_toArray, List.nil_append, List.cons_append]
    gi_wp2_with fail
    refine ⟨trivial, fun h => (by cases h), (callsIn_wide.2 HL).mono ?_⟩
    rintro e w1 ⟨rfl, M1⟩
    have HS1 : Hid (SSt w1 S b n c xs m q (-1)) := HS0.out.moved M1
    have HJ1 : Hid (J [] w1) := HJJ.out _ _ _ HJ0.out M1.grown
    clear M1 HL HS0 HJ0
    gi_wp2_with fail
    gi_loopw [] (fun wr => ∃ (pos : Nat) (a : Int) (ts : List Tok), pos ≤ 10000 ∧ Hid (pos ≤ xs.length ∧ ts.length ≤ pos ∧ layI xs pos = some 0 ∧ R = lexI xs pos a ts ∧ SSt wr S b n c xs m pos a ∧ J ts wr)) (fun wr => xs.length - placeOf wr S)
    case atStart => exact ⟨q, -1, [], by have := HR.out.2.2.1; have := HN.out; omega, ⟨HR.out.2.2.1, Nat.zero_le _, HR.out.2.2.2, HR.out.1, HS1.out, HJ1.out⟩⟩
    case round =>
      obtain ⟨pos, a, ts, hp0, HX⟩ := hrel
      have hsrc := HX.out.2.2.2.2.1.env.src
      have hat1 := HX.out.2.2.2.2.1.env.at1
      by_cases hlt : pos < n
      · have hpx : pos < xs.length := by rw [← HN.out]; exact hlt
        obtain ⟨ka, la, ll, v5, v6, h2, h3, h4, h5, h6, hla, hll, ha⟩ := HX.out.2.2.2.2.1.last
        have HST : Hid (SSt wr.drew S b n c xs m pos a) := HX.out.2.2.2.2.1.below (Below.refl _ _).drew
        have HNX := next_any S b n c pos ka la ll xs wr.drew HST.out.env hpx h2 h3 h4 hla hll
        rw [call_is ha] at HNX
        have hstep := lexI_step HBY.out hpx a ts
        rw [HX.out.2.2.1] at hstep
        simp only [Nat.lt_irrefl, if_false] at hstep
        have HJW : Hid (J ts wr.drew) := HJJ.out _ _ _ HX.out.2.2.2.2.2 (grown_of_below (Below.refl _ _).drew _)
        clear h2 h3 h4 h5 h6 hla hll ha
        cases hR : nextR xs (decide (a = pos)) pos with
        | error code =>
          rw [hR] at HNX hstep
          have HRR : Hid (R = .error (code, pos)) := HX.out.2.2.2.1.trans hstep
          clear hstep hR
          gi_wp2_with fail
          refine wpIn_wide.2 ?_
          go_region
          gi_wp2_with fail
          refine ⟨trivial, fun h => (by cases h), (callsIn_wide.2 HNX).mono ?_⟩
          rintro e w2 ⟨hfa, hgr⟩
          cases hfa
          refine ⟨rfl, tksOut_of ?_ HRR.out⟩
          exact ⟨rfl, ts, HJJ.out _ _ _ HJW.out hgr⟩
        | ok r =>
          obtain ⟨kd, len, ys, vv⟩ := r
          rw [hR] at HNX hstep
          have HLE : Hid (1 ≤ len ∧ pos + len ≤ xs.length) := ⟨next_len HBY.out hpx hR, next_fit HBY.out hpx hR⟩
          have HRR : Hid (R = lexI xs (pos + len) (if kd = 1 then ((pos + len : Nat) : Int) else -1) (ts ++ [((kd, (pos : Int), (len : Int), vv), ys)])) := HX.out.2.2.2.1.trans hstep
          clear hstep hR
          gi_wp2_with fail
          refine wpIn_wide.2 ?_
          go_region
          gi_wp2_with fail
          refine ⟨trivial, fun h => (by cases h), (callsIn_wide.2 HNX).mono ?_⟩
          rintro e w2 ⟨p2, m2, c2, rfl, ho2, M2⟩
          have HS2 : Hid (SSt w2 S b n c xs m (pos + len) a) := HST.out.moved M2
          have HO2 : Hid (OwnS w2 wr.drew.heap.size p2 m2 c2 ys) := ho2
          have HG2 : Hid (wr.drew.grownBy w2 (some S)) := M2.grown
          obtain ⟨ka, la, ll, v5, v6, d2, d3, d4, d5, d6, _, _, _⟩ := HS2.out.last
          have z2 := HS2.out.env.fz 2
          have z3 := HS2.out.env.fz 3
          have z4 := HS2.out.env.fz 4
          have z5 := HS2.out.env.fz 5
          have z6 := HS2.out.env.fz 6
          have hSw : S < wr.heap.size := HST.out.env.inH
          have HS3 : Hid _ := HS2.out.set kd pos len vv p2 m2 c2 (by omega) (by have := HLE.out; have := HN.out; omega)
          have HY2 := HYY.out ts wr.drew (w2.setCells S 2 [.int .i64 kd, .int .i64 pos, .int .i64 len, .slice p2 m2 c2, .int .i64 vv]) kd pos len p2 m2 c2 ys vv HJW.out (by have := HX.out.2.1; omega) (HG2.out.trans (grown_last _ _ _ _ _ _ _)) hSw (HO2.out.grownS hSw (grown_last _ _ _ _ _ _ _))
          obtain ⟨fn, tmps, assign, body, hy, hRd⟩ := HY2
          have HRd : Hid _ := hRd
          simp only [World.setCells, Nat.reduceAdd] at hy
          clear ho2 M2 HNX hsrc hat1 hRd hSw
          gi_wp2_with fail
          refine ⟨fun h => (by cases h), RoundIn.mono HRd.out ?_⟩
          rintro e w4 ⟨rfl, hj4, hk4⟩
          have HJ4 : Hid (J (ts ++ [((kd, (pos : Int), (len : Int), vv), ys)]) w4) := hj4
          have HS4 : Hid _ := HS3.out.kept HG.out hk4
          have HL4 := skipLayout_any S b n c (pos + len) xs m w4 HS4.out.env HLE.out.2 HS4.out.max
          have hat4 := lex_at HBY.out (if kd = 1 then ((pos + len : Nat) : Int) else -1) (ts ++ [((kd, (pos : Int), (len : Int), vv), ys)]) (pos + len) HLE.out.2
          rw [← HRR.out] at hat4
          clear hj4 hk4 hy d2 d3 d4 d5 d6 z2 z3 z4 z5 z6 HRd
          cases hA4 : layA xs (pos + len) with
          | error q4 =>
            rw [hA4] at HL4 hat4
            have HR4 : Hid (R = .error (2, q4)) := hat4.1
            clear hat4 hA4
            gi_wp2_with fail
            refine ⟨trivial, fun h => (by cases h), (callsIn_wide.2 HL4).mono ?_⟩
            rintro e w5 ⟨hfa, hgr⟩
            cases hfa
            refine ⟨rfl, tksOut_of ?_ HR4.out⟩
            exact ⟨rfl, _, HJJ.out _ _ _ HJ4.out hgr⟩
          | ok q4 =>
            rw [hA4] at HL4 hat4
            have HR4 : Hid (R = lexI xs q4 (if kd = 1 then ((pos + len : Nat) : Int) else -1) (ts ++ [((kd, (pos : Int), (len : Int), vv), ys)]) ∧ pos + len ≤ q4 ∧ q4 ≤ xs.length ∧ layI xs q4 = some 0) := hat4
            clear hat4 hA4
            gi_wp2_with fail
            refine ⟨trivial, fun h => (by cases h), (callsIn_wide.2 HL4).mono ?_⟩
            rintro e w5 ⟨rfl, M5⟩
            have HS5 : Hid _ := HS4.out.moved M5
            have HJ5 : Hid _ := HJJ.out _ _ _ HJ4.out M5.grown
            have HP5 : Hid (placeOf w5 S = q4) := placeOf_at M5.at1
            clear M5 HL4
            gi_wp2_with fail
            go_roundw
            case rel =>
              refine ⟨q4, if kd = 1 then (pos : Int) + (len : Int) else -1, ts ++ [((kd, (pos : Int), (len : Int), vv), ys)], by have := HR4.out.2.2.1; have := HN.out; omega, ⟨HR4.out.2.2.1, ?_, HR4.out.2.2.2, ?_, HS5.out, HJ5.out⟩⟩
              · have h1 := HX.out.2.1
                have h2 := HLE.out.1
                have h3 := HR4.out.2.1
                simp only [List.length_append, List.length_singleton]; omega
              · have := HR4.out.1
                rwa [Int.natCast_add] at this
            case measure =>
              have h1 := HP5.out
              have h2 := placeOf_at (S := S) HX.out.2.2.2.2.1.env.at1
              have h3 := HR4.out.2.1
              have h4 := HLE.out.1
              show xs.length - placeOf w5 S < xs.length - placeOf wr S
              rw [h1, h2]
              omega
      · have HRR : Hid (R = .ok ts) := by show _ = _; rw [HX.out.2.2.2.1]; exact lexI_end (by rw [← HN.out]; omega) a ts
        have HJX : Hid (J ts wr.drew) := HJJ.out _ _ _ HX.out.2.2.2.2.2 (grown_of_below (Below.refl _ _).drew _)
        gi_wp2_with fail
        refine wpIn_wide.2 ?_
        go_region
        gi_wp2_with fail
        go_end0
        refine tksOut_of ?_ HRR.out
        exact ⟨⟨_, rfl⟩, HJX.out⟩

end Go.Proofs.YtfhelmhcmfpedaaDoor

namespace Go.Proofs.YtfhelmhcmfpedaaDoor
open Go Go.RowKit
set_option linter.unusedVariables false
section
variable {P : Program} {ops : Array Oper} {Q : Exit → Act → World → Prop} {n k : Nat}
theorem upon_more {o : Oper} {a : Act} {K K' : Act → World → Prop} {r : Result Next} (hK : ∀ a w, K a w → K' a w) (h : o.upon P a K Q r) : o.upon P a K' Q r := by
  cases r with
  | ok x w' =>
    cases x <;> simp only [Oper.upon] at h ⊢ <;>
      first
        | exact hK _ _ h
        | exact Calls.mono h (fun e w'' h' => by cases e <;> first | exact hK _ _ h' | exact h')
        | exact Rows.mono h (fun v w'' h' => hK _ _ h')
        | exact h
  | halt x w' => cases x <;> simp only [Oper.upon] at h ⊢ <;> exact h
theorem wpOpsIn_of (hd : noDefer ops = true) (hQ : ¬ LetsOut Q) : ∀ (l : List Nat) (a : Act) (w : World), wpOps P ops Q l a w → wpOpsIn (Fence.wide.inRound k) n P ops Q l a w
  | [], a, w, h => h
  | i :: rest, a, w, h => by
    unfold wpOps at h
    unfold wpOpsIn
    cases hi : ops[i]? with
    | none =>
      simp only [hi] at h ⊢
      exact wpOpsIn_of hd hQ rest a w h
    | some o =>
      simp only [hi] at h ⊢
      split
      · rename_i hw
        simp only [hw, if_true] at h
        rcases h with h | h
        · refine ⟨fun _ _ => trivial, ?_⟩
          have e : o.semAt (Fence.wide.inRound k).round a.eval = execOp a.eval o := Oper.semAt_some k _ _ (noDefer_spec hd hi)
          rw [e]
          exact upon_wide (upon_more (fun a' w' h' => wpOpsIn_of hd hQ rest a' w' h') h)
        · exact absurd h.2 hQ
      · rename_i hw
        refine ⟨fun _ _ => trivial, wpOpsIn_of hd hQ rest _ _ ?_⟩
        simpa [hw] using h
/-- An ordered region of a round, walked as everywhere: it ends normally. -/
theorem wpIn_region_round {id : Nat} {a : Act} {w : World} (hd : noDefer ops = true) (h : wpList P ops (fun e a w => e = .normal ∧ Q .normal a w) ops.toList a w) : (Code.region id ops false).wpIn (Fence.wide.inRound k) n P Q a w := by
  have h2 : wpOps P ops (fun e a w => e = .normal ∧ Q .normal a w) (List.range ops.size) a w := by rw [List.range_eq_range', ← Array.length_toList, wpOps_eq_wpList ops.toList 0 (by simp)]; exact h
  have h3 : wpOpsIn (Fence.wide.inRound k) n P ops (fun e a w => e = .normal ∧ Q .normal a w) (List.range ops.size) a w := wpOpsIn_of hd (fun h => by simp [LetsOut] at h) _ _ _ h2
  exact wpIn_mono (wpIn_region h3) (fun e a w h => h.1 ▸ h.2)
end
theorem OwnT.grownS {W W' : World} {B S tn tc : Nat} {tp : Option Addr} {t : List Int} (h : OwnT W B tp tn tc t) (hS : S < B) (G : W.grownBy W' (some S)) : OwnT W' B tp tn tc t := by
  refine ⟨h.1, fun hn => ?_⟩
  obtain ⟨g, e, hB, hx, hc⟩ := h.2 hn
  refine ⟨g, e, hB, Nat.lt_of_lt_of_le hx G.size, fun i hi => ?_⟩
  have hblk : W'.heap[g]? = W.heap[g]? := G.block g (World.block_lt_of_cell? _ _ (hc i hi).1) (by simp; omega)
  exact ⟨(World.cell?_of_block (a := ⟨g, i, none⟩) hblk).trans (hc i hi).1, by rw [← (hc i hi).2]; simp only [World.frozen?, hblk]⟩
theorem OwnK.grownS {W W' : World} {B S k cp : Nat} {p : Option Addr} {ts : List Tok} (h : OwnK W B p k cp ts) (hS : S < B) (G : W.grownBy W' (some S)) : OwnK W' B p k cp ts := by
  obtain ⟨rfl, rs, hl, hr, hf, ha⟩ := h
  refine ⟨rfl, rs, hl, ⟨hr.1, ?_⟩, fun i hi => ⟨(hf i hi).1, (hf i hi).2.grownS hS G⟩, ha⟩
  rcases hr.2 with h' | ⟨g, cap, cur, hv, hB, hg, r⟩
  · exact .inl h'
  · exact .inr ⟨g, cap, cur, hv, hB, (G.block g (Array.getElem?_eq_some_iff.1 hg).1 (by simp; omega)).trans hg, r⟩

end Go.Proofs.YtfhelmhcmfpedaaDoor

namespace Go.Proofs.YtfhelmhcmfpedaaDoor
open Go Go.RowKit Go.Shelf
set_option linter.unusedVariables false

theorem wpIn_range_pan {P : Program} {n : Nat} {g : Operand} {ps : Array Tmp} {assign body : Code} {Q : Exit → Act → World → Prop} {a : Act} {w : World} {gf : Nat} {first : Array Value}
    (hg : a.eval g = .func (.func gf) first #[]) (eg : ∀ args w, (callFunc gf args).run P w = .ok (.enter gf args) w)
    (h : ∀ (l D : Nat) (ready busy done : Obj) (W1 : World), D = w.heap.size → l = w.heap.size + 1 → W1 = (w.alloc (.deferred (some []))).alloc ready → ready.isCells = false → busy.isCells = false → done.isCells = false →
      (∀ (args : Array Value) (W : World) (R : Ending → World → Prop), args.size = ps.size → W.heap[l]? = some ready →
        assign.wpIn (Fence.wide.inRound l) (n - 1 - 1) P (Exit.then (fun a₁ W₁ => W₁.heap[l]? = some ready ∧ body.wpIn (Fence.wide.inRound l) (n - 1 - 1) P (fun e _ W₂ => e = .normal ∧ W₂.heap[l]? = some busy ∧ R (.returned (.bool true)) (W₂.putObj l ready)) a₁ (W₁.putObj l busy)) (fun _ _ _ => False))
          { tmps := (ps.zip args).foldl (fun t (p, v) => t.setIfInBounds p v) a.tmps, defers := [] } W → YieldAt Fence.wide (n - 1 - 1) P l args W R) →
      CallsIn Fence.wide (n - 1) P gf (first ++ #[.func (.yield l) #[] #[]]) W1 (fun e W' => match e with
        | .returned _ => W'.heap[l]? = some ready ∧ Q .normal { a with defers := { target := .collected D, args := #[] } :: a.defers } (W'.putObj l done)
        | .panicked chain => Q (.panic chain) { a with defers := { target := .collected D, args := #[] } :: a.defers } W'
        | .outgrown => False)) :
    (Code.rangeFunc g ps assign body).wpIn Fence.wide n P Q a w := by
  refine wpIn_rangeFunc ?_
  intro fn hfn
  have e0 : Fence.wide.round = none := rfl
  rw [e0]
  obtain ⟨rec, hrec⟩ : ∃ rec : LoopState → Option Code → Loop, rec = fun st pe => { state := st, pending := pe, fn, tmps := a.tmps, params := ps, assign, body, defers := w.heap.size } := ⟨_, rfl⟩
  obtain ⟨W1, hW1⟩ : ∃ W1, W1 = (w.alloc (.deferred (some []))).alloc (.loop (rec .ready none)) := ⟨_, rfl⟩
  refine ⟨w.heap.size + 1, [{ target := .collected w.heap.size, args := #[] }], W1, { target := .fn (.func gf) #[], args := first ++ #[.func (.yield (w.heap.size + 1)) #[] #[]] }, W1, gf, first ++ #[.func (.yield (w.heap.size + 1)) #[] #[]], W1, ?_, ?_, ?_, ?_, fun h => (by cases h), ?_⟩
  · rw [hW1, hrec]; exact run_enterLoop_outer _ _ _ _ _
  · simp only [resolve, hg]
    simp [go_sem]
  · intro f' _; trivial
  · simp [invoke, go_sem, eg]
  · refine (h _ _ (.loop (rec .ready none)) (.loop (rec .busy none)) (.loop (rec .exhausted none)) W1 rfl rfl hW1 rfl rfl rfl ?_).mono ?_
    · intro args W R hs hl hw
      have hy := run_yield (P := P) (args := args) hl (by rw [hrec]; exact hs)
      have hb : ∀ W₁ : World, W₁.heap[w.heap.size + 1]? = some (.loop (rec .ready none)) → (Instr.beginRound (w.heap.size + 1)).run P W₁ = .ok () (W₁.putObj (w.heap.size + 1) (.loop (rec .busy none))) := fun W₁ h1 => by
        have := run_beginRound (P := P) h1 (by rw [hrec])
        rw [this, hrec]
      have he : ∀ W₂ : World, W₂.heap[w.heap.size + 1]? = some (.loop (rec .busy none)) → (Instr.endRound (w.heap.size + 1) none).run P W₂ = .ok (.bool true) (W₂.putObj (w.heap.size + 1) (.loop (rec .ready none))) := fun W₂ h2 => by
        have := run_endRound (P := P) none h2
        rw [this, hrec]
        rfl
      rw [hrec] at hy
      refine ⟨fn, _, assign, body, hy, roundIn_of_wpIn hfn (wpIn_mono hw ?_)⟩
      rintro e a1 W2 hq
      cases e with
      | normal =>
        obtain ⟨hl1, hbody⟩ := hq
        refine ⟨_, hb _ hl1, wpIn_mono hbody ?_⟩
        rintro e2 a2 W3 ⟨rfl, hl3, hR⟩
        exact ⟨_, _, he _ hl3, hR⟩
      | ret => exact hq.elim
      | exit id => exact hq.elim
      | goto t => exact hq.elim
      | panic ch => exact hq.elim
      | outgrown => exact hq.elim
    · rintro e W' hq
      cases e with
      | returned v =>
        obtain ⟨hl, hQ⟩ := hq
        refine ⟨none, _, ?_, hQ⟩
        have := run_endLoop (P := P) hl (by rw [hrec]; simp)
        rw [this, hrec]
      | panicked chain => exact hq
      | outgrown => exact hq.elim

end Go.Proofs.YtfhelmhcmfpedaaDoor

