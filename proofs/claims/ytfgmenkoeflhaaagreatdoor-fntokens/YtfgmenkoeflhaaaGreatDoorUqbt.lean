/- Texts of FtQ, FtR, UntilR, Scan12. Own work of the verifier. -/
import Derived.Test.YtfgmenkoeflhaaaGreatDoorUqbs
import Derived.OrdersIn
import Derived.RangeFuncCalls
import Derived.TacticsIn
import Derived.Test.YtfgmenkoeflhaaaGreatDoorIndexL
namespace Go.Proofs.YtfgmenkoeflhaaaGreatDoor
set_option linter.unusedVariables false
section
open Go Go.RowKit
theorem lay_zero {xs : List Int} {p : Nat} (h : layI xs p = some 0) (hp : p < xs.length) : ¬ (endsI (byteI xs p) = true ∧ byteI xs p ≠ -1 ∧ byteI xs p ≠ 37) ∧ byteI xs p ≠ 37 ∧ ¬ (byteI xs p = 47 ∧ byteI xs (p + 1) = 42) := by
 unfold layI at h
 split at h
 ·cases h
 ·rename_i h1
  split at h
  ·rename_i h2
   exfalso
   have : lineI xs p = 0 := Option.some.inj h
   unfold lineI at this
   have hx : xs.drop p = xs[p] :: xs.drop (p + 1) := List.drop_eq_getElem_cons hp
   have hv : xs[p] = 37 := by rw [byteI_lt hp] at h2; simpa [List.getD, hp] using h2
   rw [hx, hv] at this
   simp [runLen] at this
  ·rename_i h2
   split at h
   ·rename_i h3
    exfalso
    split at h
    ·cases h
    ·rename_i j hj
     have := blk_rng _ _ _ hj; have := Option.some.inj h
     omega
   ·rename_i h3
    exact ⟨h1, h2, h3⟩
theorem lay_cut0 {xs : List Int} {p l : Nat} (hl : p + l ≤ xs.length) (h1 : 1 ≤ l) (h : layI xs p = some 0) : layI (cutL xs p l) 0 = some 0 := by
 obtain ⟨a, b, c⟩ := lay_zero h (by omega)
 have e0 : byteI (cutL xs p l) 0 = byteI xs p := by rw [cut_byte hl (by omega), Nat.add_zero]
 unfold layI
 rw [e0, if_neg a, if_neg b, if_neg]
 intro hh
 rcases cut_or hl 1 with e | e
 ·rw [Nat.zero_add, e] at hh; exact c hh
 ·rw [Nat.zero_add, e] at hh; omega
theorem lex_one {xs : List Int} (hb : Bytes xs) {p l : Nat} {call : Bool} {k v : Int} {ys : List Int} (hs : xs.length ≤ 10000) (hp : p < xs.length) (hy : layI xs p = some 0) (h : nextR xs call p = .ok (k, l, ys, v)) (h6 : k ≠ 6) (h7 : k ≠ 7) (hd : ¬ (k = 1 ∧ l = 1 ∧ byteI xs p = 46)) : lexT (cutL xs p l) = ([((k, 0, (l : Int), v), ys)], 0, 0) := by
 have h1 := next_len hb hp h; have hl := next_fit hb hp h; have hn := next_cut hb hp h h6 h7 hd; have hlen := cut_len hl
 unfold lexT lexR
 rw [if_neg (by omega)]
 unfold lexI
 rw [hlen, show l + 1 - 0 = l + 1 by omega]
 unfold lexF
 rw [if_neg (by omega), lay_cut0 hl h1 hy]; simp only [Nat.lt_irrefl, if_false]; rw [show (decide ((-1 : Int) = ((0 : Nat) : Int))) = false by decide, hn]; simp only [Nat.zero_add, List.nil_append]
 obtain ⟨l', rfl⟩ : ∃ l', l = l' + 1 := ⟨l - 1, by omega⟩
 unfold lexF
 rw [if_pos (by omega)]
 rfl
inductive Lay (xs : List Int) : Nat → Nat → Prop
 | refl (p : Nat) : Lay xs p p
 | step (p n q : Nat) : p < xs.length → layI xs p = some n → 0 < n → Lay xs (p + n) q → Lay xs p q
theorem Lay.le {xs : List Int} {p q : Nat} (h : Lay xs p q) : p ≤ q := by
 induction h with
 | refl p => exact Nat.le_refl _
 | step p n q _ _ _ _ ih => omega
theorem blk_cut {xs : List Int} {p l : Nat} (hl : p + l ≤ xs.length) : ∀ (f i j : Nat), blkF xs f (p + i) = some j → j + 2 ≤ p + l → blkF (cutL xs p l) f i = some (j - p)
 | 0, i, j, h, _ => by cases h
 | f + 1, i, j, h, hj => by
   have hr := blk_rng _ _ _ h
   unfold blkF at h ⊢
   split at h
   ·rename_i hh
    cases h
    rw [cut_byte hl (show i < l by omega), cut_byte hl (show i + 1 < l by omega), if_pos (by rw [show p + (i + 1) = p + i + 1 by omega]; exact hh)]
    congr 1; omega
   ·rename_i hh
    have hr2 := blk_rng _ _ _ h; rw [cut_byte hl (show i < l by omega), cut_byte hl (show i + 1 < l by omega), if_neg (by rw [show p + (i + 1) = p + i + 1 by omega]; exact hh)]; exact blk_cut hl f (i + 1) j h hj
theorem blk_fuel (xs : List Int) : ∀ (f i : Nat), xs.length ≤ i + f → ∀ g, blkF xs (f + g) i = blkF xs f i
 | 0, i, h, 0 => rfl
 | 0, i, h, g + 1 => by
   have hm : byteI xs i = -1 := byteI_ge (by omega); rw [Nat.zero_add]
   have : blkF xs (g + 1) i = blkF xs g (i + 1) := by
    show (if byteI xs i = 42 ∧ byteI xs (i + 1) = 47 then some i else blkF xs g (i + 1)) = _
    rw [if_neg (by rw [hm]; omega)]
   rw [this]; have := blk_fuel xs 0 (i + 1) (by omega) g; rw [Nat.zero_add] at this; rw [this]
   rfl
 | f + 1, i, h, g => by
   rw [show f + 1 + g = (f + g) + 1 by omega]
   unfold blkF
   rw [blk_fuel xs f (i + 1) (by omega) g]
theorem lay_cut {xs : List Int} {p l i n : Nat} (hl : p + l ≤ xs.length) (hn : 0 < n) (h : layI xs (p + i) = some n) (hi : i + n ≤ l) : layI (cutL xs p l) i = some n := by
 unfold layI at h ⊢
 rw [cut_byte hl (show i < l by omega)]
 split at h
 ·rename_i h1; rw [if_pos h1]; exact h
 ·rename_i h1; rw [if_neg h1]
  split at h
  ·rename_i h2; rw [if_pos h2]
   have e := Option.some.inj h
   congr 1
   unfold lineI at e ⊢
   have : (cutL xs p l).drop i = (xs.drop (p + i)).take (l - i) := by unfold cutL; rw [List.drop_take, List.drop_drop]
   rw [this, runLen_take, e]
   omega
  ·rename_i h2; rw [if_neg h2]
   split at h
   ·rename_i h3
    split at h
    ·cases h
    ·rename_i j hj
     have hr := blk_rng _ _ _ hj; have e := Option.some.inj h; rw [cut_byte hl (show i + 1 < l by omega), show p + (i + 1) = p + i + 1 by omega, if_pos h3]; have c := blk_cut hl _ (i + 2) j hj (by omega)
     unfold blkI at hj c ⊢
     have m := blk_fuel (cutL xs p l) (l - (i + 2)) (i + 2) (by rw [cut_len hl]; omega) (xs.length - (p + i + 2) - (l - (i + 2))); rw [show l - (i + 2) + (xs.length - (p + i + 2) - (l - (i + 2))) = xs.length - (p + i + 2) by omega, c] at m; rw [cut_len hl, ← m]; simp only
     congr 1; omega
   ·exfalso
    have := Option.some.inj h
    omega
theorem lay_lexF {xs : List Int} {e q : Nat} (hq : q ≤ xs.length) : ∀ {p : Nat}, Lay xs p q → e ≤ p → ∀ f a, q - e + 1 ≤ (p - e) + f → lexF (cutL xs e (q - e)) f (p - e) a [] = .ok [] := by
 intro p h
 induction h with
 | refl p =>
   intro hep f a hf
   obtain ⟨f', rfl⟩ : ∃ f', f = f' + 1 := ⟨f - 1, by omega⟩
   unfold lexF
   rw [if_pos (by rw [cut_len (by omega)]; omega)]
 | step p n q hp hy hn hL ih =>
   intro hep f a hf
   have hle := hL.le
   obtain ⟨f', rfl⟩ : ∃ f', f = f' + 1 := ⟨f - 1, by omega⟩
   unfold lexF
   rw [if_neg (by rw [cut_len (by omega)]; omega), lay_cut (p := e) (i := p - e) (n := n) (by omega) hn (by rw [show e + (p - e) = p by omega]; exact hy) (by omega)]; simp only; rw [if_pos hn, show p - e + n = p + n - e by omega]; exact ih hq (by omega) f' a (by omega)
theorem lex_none {xs : List Int} {e q : Nat} (hs : xs.length ≤ 10000) (hq : q ≤ xs.length) (h : Lay xs e q) : lexT (cutL xs e (q - e)) = ([], 0, 0) := by
 have := h.le
 unfold lexT lexR
 rw [if_neg (by rw [cut_len (by omega)]; omega)]
 unfold lexI
 have := lay_lexF hq h (Nat.le_refl e) ((cutL xs e (q - e)).length + 1 - 0) (-1) (by rw [cut_len (by omega)]; omega); rw [Nat.sub_self] at this; rw [this]
def Chain (xs : List Int) : Nat → Int → List Tok → Prop
 | e, a, [] => Lay xs e xs.length
 | e, a, t :: r => ∃ (p l : Nat) (k v : Int) (ys : List Int), Lay xs e p ∧ p < xs.length ∧ layI xs p = some 0 ∧ nextR xs (decide (a = p)) p = .ok (k, l, ys, v) ∧ t = ((k, (p : Int), (l : Int), v), ys) ∧ Chain xs (p + l) (if k = 1 then ((p + l : Nat) : Int) else -1) r
theorem Lay.trans {xs : List Int} {e p q : Nat} (h : Lay xs e p) (h2 : Lay xs p q) : Lay xs e q := by
 induction h with
 | refl p => exact h2
 | step p n q' hp hy hn _ ih => exact .step p n _ hp hy hn (ih h2)
theorem lexF_code {xs : List Int} : ∀ (f pos : Nat) (a : Int) (acc : List Tok) (r : Int × Nat), lexF xs f pos a acc = .error r → r.1 ≠ 0
 | 0, pos, a, acc, r, h => by cases h
 | f + 1, pos, a, acc, r, h => by
   unfold lexF at h
   split at h
   ·cases h
   ·split at h
    ·cases h; show (2 : Int) ≠ 0; decide
    ·split at h
     ·exact lexF_code f _ _ _ _ h
     ·split at h
      ·rename_i c hc
       cases h
       have := next_code hc
       show c ≠ 0
       omega
      ·exact lexF_code f _ _ _ _ h
theorem lexF_chain {xs : List Int} (hb : Bytes xs) : ∀ (f pos : Nat) (a : Int) (acc ts : List Tok), pos ≤ xs.length → xs.length + 1 ≤ pos + f → lexF xs f pos a acc = .ok ts → ∃ r, ts = acc ++ r ∧ (∀ e, Lay xs e pos → Chain xs e a r)
 | 0, pos, a, acc, ts, hp, hf, h => by omega
 | f + 1, pos, a, acc, ts, hp, hf, h => by
   unfold lexF at h
   split at h
   ·rename_i hge
    cases h
    have : pos = xs.length := by omega
    subst this; exact ⟨[], by simp, fun e he => he⟩
   ·rename_i hlt
    split at h
    ·cases h
    ·rename_i n hy
     split at h
     ·rename_i hn
      have hle := lay_le (by omega) hy; obtain ⟨r, e1, e2⟩ := lexF_chain hb f (pos + n) a acc ts (by omega) (by omega) h; exact ⟨r, e1, fun e he => e2 e (he.trans (.step pos n _ (by omega) hy hn (.refl _)))⟩
     ·rename_i hn
      have hn0 : n = 0 := by omega
      subst hn0
      split at h
      ·cases h
      ·rename_i k l ys v hx
       have hl := next_len hb (by omega) hx; have hfit := next_fit hb (by omega) hx; obtain ⟨r, e1, e2⟩ := lexF_chain hb f (pos + l) _ _ ts (by omega) (by omega) h; refine ⟨((k, (pos : Int), (l : Int), v), ys) :: r, by rw [e1]; simp, fun e he => ⟨pos, l, k, v, ys, he, by omega, hy, hx, rfl, e2 _ (.refl _)⟩⟩
theorem lexT_chain {xs : List Int} (hb : Bytes xs) (h : (lexT xs).2.1 = 0) : xs.length ≤ 10000 ∧ Chain xs 0 (-1) (lexT xs).1 := by
 unfold lexT at h ⊢
 cases hr : lexR xs with
 | error r =>
   rw [hr] at h
   exfalso
   have h0 : r.1 = 0 := h
   unfold lexR at hr
   split at hr
   ·cases hr; cases h0
   ·exact absurd h0 (lexF_code _ _ _ _ _ hr)
 | ok ts =>
   simp only
   unfold lexR at hr
   split at hr
   ·cases hr
   ·rename_i hs
    refine ⟨by omega, ?_⟩; obtain ⟨r, e1, e2⟩ := lexF_chain hb (xs.length + 1 - 0) 0 (-1) [] ts (by omega) (by omega) hr; rw [e1, List.nil_append]; exact e2 0 (.refl 0)
theorem lex_whole {xs : List Int} (hs : xs.length ≤ 10000) (h0 : 1 ≤ xs.length) {k v : Int} {ys : List Int} (hy : layI xs 0 = some 0) (h : nextR xs false 0 = .ok (k, xs.length, ys, v)) : lexT xs = ([((k, 0, (xs.length : Int), v), ys)], 0, 0) := by
 unfold lexT lexR
 rw [if_neg (by omega)]
 unfold lexI
 rw [show xs.length + 1 - 0 = xs.length + 1 by omega]
 unfold lexF
 rw [if_neg (by omega), hy]; simp only [Nat.lt_irrefl, if_false]; rw [show (decide ((-1 : Int) = ((0 : Nat) : Int))) = false by decide, h]; simp only [Nat.zero_add, List.nil_append]
 generalize hn : xs.length = n at h0
 obtain ⟨n', rfl⟩ : ∃ n', n = n' + 1 := ⟨n - 1, by omega⟩
 unfold lexF
 rw [if_pos (by omega)]
 rfl
theorem lay_not {xs : List Int} (h1 : endsI (byteI xs 0) = false) (h2 : byteI xs 0 ≠ 37) (h3 : ¬ (byteI xs 0 = 47 ∧ byteI xs 1 = 42)) : layI xs 0 = some 0 := by
 unfold layI
 rw [if_neg (by rw [h1]; simp), if_neg h2, if_neg h3]
theorem run_whole {xs : List Int} (kind k : Int) (h : xs.all (isOfB · k) = true) (hl : xs.length ≤ 100) : runR xs 0 kind k = .ok (kind, xs.length, xs, 0) := by
 have e : runI k xs 0 = xs.length := by unfold runI; rw [List.drop_zero]; exact (runLen_all _ xs).2 h
 unfold runR
 rw [e, if_neg (by omega), List.drop_zero, List.take_length]
theorem all_of {xs : List Int} (hb : Bytes xs) {f : Int → Bool} {k : Int} (hf : ∀ c, 0 ≤ c → c < 256 → f c = true → isOfB c k = true) (h : xs.all f = true) : xs.all (isOfB · k) = true := by
 rw [List.all_eq_true] at h ⊢
 intro x hx
 exact hf x (hb x hx).1 (hb x hx).2 (h x hx)
theorem clsT_all : (List.range 256).all (fun c => (!(symbolB c) || (isOfB c 8 && (!isOfB c 1 && (!isOfB c 2 && (!isOfB c 4 && (!endsI c && decide ((c : Int) ≠ 37))))))) && (!(smallB c) || (isOfB c 1 && (!endsI c && (decide ((c : Int) ≠ 37) && decide ((c : Int) ≠ 47)))))) = true := by decide +kernel
theorem cls_sym {c : Int} (h0 : 0 ≤ c) (h1 : c < 256) (h : symbolB c = true) : isOfB c 8 = true ∧ isOfB c 1 = false ∧ isOfB c 2 = false ∧ isOfB c 4 = false ∧ endsI c = false ∧ c ≠ 37 := by
 have g := List.all_eq_true.1 clsT_all c.toNat (by simp; omega); rw [show ((c.toNat : Nat) : Int) = c by omega] at g
 simp [h] at g
 exact ⟨g.1.1, g.1.2.1, g.1.2.2.1, g.1.2.2.2.1, g.1.2.2.2.2.1, g.1.2.2.2.2.2⟩
theorem cls_small {c : Int} (h0 : 0 ≤ c) (h1 : c < 256) (h : smallB c = true) : isOfB c 1 = true ∧ endsI c = false ∧ c ≠ 37 ∧ c ≠ 47 := by
 have g := List.all_eq_true.1 clsT_all c.toNat (by simp; omega); rw [show ((c.toNat : Nat) : Int) = c by omega] at g
 simp [h] at g
 exact ⟨g.2.1, g.2.2.1, g.2.2.2.1, g.2.2.2.2⟩
theorem plain_lex {xs : List Int} (hb : Bytes xs) (h : plainB xs = true) (n1 : xs ≠ [91, 93]) (n2 : xs ≠ [123, 125]) : lexT xs = ([((1, 0, (xs.length : Int), 0), xs)], 0, 0) := by
 unfold plainB at h
 split at h
 ·cases h
 ·rename_i hn
  have h0 : 1 ≤ xs.length := by omega
  have hl : xs.length ≤ 100 := by omega
  have eb : byteI xs 0 = xs.getD 0 0 := byteI_lt (by omega); have hr := hb.at 0
  split at h
  ·rename_i ho
   rcases ho with rfl | rfl | ho | ho
   ·decide +kernel
   ·decide +kernel
   ·exact absurd ho n1
   ·exact absurd ho n2
  ·split at h
   ·rename_i hsm
    obtain ⟨c1, c2, c3, c4⟩ := cls_small hr.1 hr.2 hsm; refine lex_whole (by omega) h0 (lay_not (by rw [eb]; exact c2) (by rw [eb]; exact c3) (fun hh => c4 (by rw [← eb]; exact hh.1))) ?_
    unfold nextR nextF
    rw [eb, if_pos c1]; exact run_whole 1 7 (all_of hb (fun c a b hc => by rw [(isOf_at a b).2.1]; exact hc) h) hl
   ·split at h
    ·cases h
    ·rename_i hno
     have hall := h
     have h00 : symbolB (xs.getD 0 0) = true := by
      rw [List.all_eq_true] at h; exact h _ (by rw [List.getD_eq_getElem?_getD, List.getElem?_eq_getElem (by omega)]; exact List.getElem_mem (by omega))
     obtain ⟨c8, c1, c2, c4, ce, c37⟩ := cls_sym hr.1 hr.2 h00
     have hnot : ¬ (byteI xs 0 = 47 ∧ byteI xs 1 = 42) := fun hh => hno (.inr (by
      have hl2 : 1 < xs.length := byteI_in (by rw [hh.2]; decide); rw [byteI_lt (by omega), byteI_lt hl2] at hh
      match xs, hl2, hh with
      | a :: b :: r, _, hh => simp at hh; rw [hh.1, hh.2]; rfl))
     refine lex_whole (by omega) h0 (lay_not (by rw [eb]; exact ce) (by rw [eb]; exact c37) hnot) ?_
     unfold nextR nextF
     rw [eb, if_neg (by rw [c1]; simp), if_neg (by rw [c2]; simp), if_neg (by rw [c4]; simp), if_neg, if_pos c8]
     ·exact run_whole 1 8 (all_of hb (fun c a b hc => by rw [(isOf_at a b).2.2]; exact hc) hall) hl
     ·intro hh
      have hl2 : 1 < xs.length := by
       rcases Nat.lt_or_ge 1 xs.length with h2 | h2
       ·exact h2
       ·exfalso
        match xs, h0, h2, hh, hno with
        | [a], _, _, hh, hno => exact hno (.inl (by have := hh.1; simp at this; rw [this]))
      have hs1 : symbolB (xs.getD 1 0) = true := by
       rw [List.all_eq_true] at hall; exact hall _ (by rw [List.getD_eq_getElem?_getD, List.getElem?_eq_getElem hl2]; exact List.getElem_mem hl2)
      have h2 := (cls_sym (hb.at 1).1 (hb.at 1).2 hs1).2.2.2.2.1; rw [Nat.zero_add, byteI_lt hl2, h2] at hh; exact absurd hh.2 (by simp)
theorem byte_drop {xs : List Int} {i : Nat} {z : Int} {r : List Int} (h : xs.drop i = z :: r) : byteI xs i = z ∧ xs.drop (i + 1) = r := by
 have hl : i < xs.length := by
  rcases Nat.lt_or_ge i xs.length with h2 | h2
  ·exact h2
  ·rw [List.drop_eq_nil_of_le h2] at h; cases h
 rw [List.drop_eq_getElem_cons hl] at h
 injection h with h1 h2
 exact ⟨by rw [byteI_lt hl]; simpa [List.getD, hl] using h1, h2⟩
theorem hexd_all : (List.range 16).all (fun c => decide (digI (hexD c) = (c : Int)) && decide (hexD c ≠ 92)) = true := by decide +kernel
theorem hexd {c : Int} (h0 : 0 ≤ c) (h1 : c < 16) : digI (hexD c) = c := by
 have g := List.all_eq_true.1 hexd_all c.toNat (by simp; omega); rw [show ((c.toNat : Nat) : Int) = c by omega] at g
 simp at g
 exact g.1
theorem hex_two {xs : List Int} {i : Nat} {c : Int} {r : List Int} (h0 : 0 ≤ c) (h1 : c < 256) (h : xs.drop i = hexD (c / 16) :: hexD (c % 16) :: 92 :: r) : hexI xs i = some (c, i + 3) := by
 obtain ⟨a0, h⟩ := byte_drop h; obtain ⟨a1, h⟩ := byte_drop h; obtain ⟨a2, h⟩ := byte_drop h
 have d0 : digI (byteI xs i) = c / 16 := by rw [a0]; exact hexd (by omega) (by omega)
 have d1 : digI (byteI xs (i + 1)) = c % 16 := by rw [a1]; exact hexd (by omega) (by omega)
 have d2 : ¬ digI (byteI xs (i + 1 + 1)) < 16 := by rw [a2]; decide
 have e : digsB xs 16 xs.length i 0 = (c, i + 2) := by
  rw [digs_step xs 16 (by omega) i 0 (by omega), digs_step xs 16 (by omega) (i + 1) _ (by omega), digs_stop xs 16 (i + 1 + 1) _ d2, d0, d1]
  congr 1
  omega
 unfold hexI
 rw [e]; simp only; rw [if_neg (by rw [show i + 2 = i + 1 + 1 by omega, a2]; omega)]
theorem txt_back {xs : List Int} : ∀ (name : List Int) (f i : Nat) (ys : List Int), Bytes name → name.length + 1 ≤ f → xs.drop i = name.flatMap q1 ++ [39] → txtF xs 39 f i ys = some (ys ++ name, xs.length)
 | [], f, i, ys, hb, hf, h => by
   obtain ⟨f', rfl⟩ : ∃ f', f = f' + 1 := ⟨f - 1, by simp at hf; omega⟩
   have hlen : xs.length = i + 1 := by have := congrArg List.length h; simp at this; omega
   obtain ⟨a0, h2⟩ := byte_drop (by simpa using h)
   unfold txtF
   rw [if_pos a0, if_neg (by rw [byteI_ge (by omega)]; decide), hlen]
   simp
 | c :: r, f, i, ys, hb, hf, h => by
   obtain ⟨f', rfl⟩ : ∃ f', f = f' + 1 := ⟨f - 1, by simp at hf; omega⟩
   have hc := hb c (List.mem_cons_self ..)
   have hbr : Bytes r := fun x hx => hb x (List.mem_cons_of_mem _ hx)
   have ih := fun j ys' (hj : xs.drop j = r.flatMap q1 ++ [39]) => txt_back r f' j ys' hbr (by simp at hf; omega) hj
   rw [List.flatMap_cons, List.append_assoc] at h
   have hm : c % 256 = c := by omega
   unfold q1 at h
   unfold txtF
   split at h
   ·rename_i hx
    obtain ⟨a0, h⟩ := byte_drop h; obtain ⟨a1, h⟩ := byte_drop h
    have e : escI xs i = some (c, i + 2) := by
     unfold escI escF
     rw [a1]
     rcases hx with rfl | rfl <;> rfl
    rw [a0, if_neg (by decide), if_pos rfl, a1, if_neg (by omega), e]; simp only; rw [ih _ _ h, hm]
    simp
   ·split at h
    ·rename_i hx
     obtain ⟨a0, h⟩ := byte_drop h; obtain ⟨a1, h⟩ := byte_drop h
     have e : escI xs i = some (10, i + 2) := by unfold escI escF; rw [a1]; rfl
     rw [a0, if_neg (by decide), if_pos rfl, a1, if_neg (by decide), e]; simp only; rw [ih _ _ h, hx]
     simp
    ·split at h
     ·rename_i hx
      obtain ⟨a0, h⟩ := byte_drop h; obtain ⟨a1, h⟩ := byte_drop h
      have e : escI xs i = some (9, i + 2) := by unfold escI escF; rw [a1]; rfl
      rw [a0, if_neg (by decide), if_pos rfl, a1, if_neg (by decide), e]; simp only; rw [ih _ _ h, hx]
      simp
     ·split at h
      ·obtain ⟨a0, h⟩ := byte_drop h
       obtain ⟨a1, h⟩ := byte_drop h; have hx := hex_two hc.1 hc.2 h; obtain ⟨_, h⟩ := byte_drop h; obtain ⟨_, h⟩ := byte_drop h; obtain ⟨_, h⟩ := byte_drop h
       have e : escI xs i = some (c, i + 2 + 3) := by
        unfold escI escF
        rw [a1]; exact hx
       rw [a0, if_neg (by decide), if_pos rfl, a1, if_neg (by decide), e]; simp only; rw [ih _ _ h, hm]
       simp
      ·rename_i h39 h10 h9 hr
       obtain ⟨a0, h⟩ := byte_drop h; rw [a0, if_neg (by omega), if_neg (by omega), if_pos (by omega), ih _ _ h]
       simp
theorem quoted_lex {xs : List Int} (hb : Bytes xs) (hl : xs.length ≤ 100) : lexT (quotedB xs) = ([((1, 0, ((quotedB xs).length : Int), 0), xs)], 0, 0) := by
 have hlen : (quotedB xs).length ≤ 502 := by have := q1s_len xs; unfold quotedB; simp only [List.length_cons, List.length_append, List.length_nil]; omega
 have h1 : 1 ≤ (quotedB xs).length := by unfold quotedB; simp
 have e0 : byteI (quotedB xs) 0 = 39 := (byte_drop (xs := quotedB xs) (i := 0) (by rfl)).1; have hd : (quotedB xs).drop 1 = xs.flatMap q1 ++ [39] := rfl
 have hx : xs.length + 2 ≤ (quotedB xs).length := by
  have : ∀ ys : List Int, ys.length ≤ (ys.flatMap q1).length := fun ys => by
   induction ys with
   | nil => simp
   | cons c r ih =>
     rw [List.flatMap_cons, List.length_append, List.length_cons]
     have : 1 ≤ (q1 c).length := by unfold q1; (repeat' split) <;> simp
     omega
  have := this xs
  unfold quotedB
  simp only [List.length_cons, List.length_append, List.length_nil]
  omega
 refine lex_whole (by omega) h1 (lay_not (by rw [e0]; decide) (by rw [e0]; decide) (by rw [e0]; omega)) ?_
 unfold nextR
 rw [e0]
 show quoR (quotedB xs) 1 0 = _
 unfold quoR
 rw [e0]
 have t : txtI (quotedB xs) 39 (0 + 1) [] = some (xs, (quotedB xs).length) := by
  unfold txtI
  rw [txt_back xs _ (0 + 1) [] hb (by omega) hd, List.nil_append]
 rw [t]; simp only; rw [if_neg (by omega)]
 rfl
theorem quote_lex {xs : List Int} (hb : Bytes xs) (hl : xs.length ≤ 100) (n1 : xs ≠ [91, 93]) (n2 : xs ≠ [123, 125]) : lexT (quoteB xs) = ([((1, 0, ((quoteB xs).length : Int), 0), xs)], 0, 0) := by
 unfold quoteB
 rw [if_neg (by omega)]
 split
 ·rename_i hp; exact plain_lex hb hp n1 n2
 ·exact quoted_lex hb hl
end
section
open Go
section
variable {P : Program} {ops : Array Oper} {Q : Exit → Act → World → Prop} {md : Region.Mode} {S : World → Prop} {c : Nat} {l n : Nat}
def noDefer (ops : Array Oper) : Bool := ops.all fun o => match o.op with | .defer _ => false | _ => true
theorem noDefer_spec (h : noDefer ops = true) {i : Nat} {o : Oper} (hi : ops[i]? = some o) : ∀ c, o.op ≠ .defer c := fun c e => by
 have := Array.all_eq_true_iff_forall_mem.1 h o (Array.mem_of_getElem? hi); rw [e] at this
 cases this
theorem upon_wide {o : Oper} {a : Act} {K : Act → World → Prop} {r : Result Next} (h : o.upon P a K Q r) : o.uponIn (Fence.wide.inRound l) n P a K Q r := by
 cases r with
 | ok x w' =>
   cases x <;> simp only [Oper.upon] at h <;> simp only [Oper.uponIn] <;>
    first
     | exact h
     | exact ⟨fun h => (by cases h), CallsIn.inRound l (callsIn_wide.2 h)⟩
     | exact ⟨fun h => (by cases h), fun c cs _ => let ⟨v, w', r, s⟩ := h c cs; ⟨v, w', r, stepsIn_wide.2 s⟩⟩
     | exact h.elim
 | halt x w' => cases x <;> simp only [Oper.upon] at h <;> simp only [Oper.uponIn] <;> first | exact h | exact h.elim
end
end
section
open Go Go.RowKit Go.Shelf
theorem u8_is {x : Int} (h0 : 0 ≤ x) (h1 : x < 256) (k : Nat) (hk : k < 256) : ((UInt8.ofNat k : UInt8) == UInt8.ofNat x.toNat) = decide (x = k) := by
 rw [Bool.eq_iff_iff, beq_iff_eq, decide_eq_true_iff]
 constructor
 ·intro hh
  have := congrArg UInt8.toNat hh
  simp at this
  omega
 ·intro hh; rw [hh]; simp
theorem index_blk {xs : List Int} (hb : Bytes xs) : ∀ (f i : Nat), i + f = xs.length → Lib.index (Lib.bytesOf (xs.drop i)) (Lib.bytesOf [42, 47]) = match blkI xs i with
  | none => -1
  | some j => ((j - i : Nat) : Int)
 | 0, i, h => by
   rw [blk_end xs i (by omega), List.drop_eq_nil_of_le (by omega)]; rfl
 | f + 1, i, h => by
   have hi : i < xs.length := by omega
   have ih := index_blk hb f (i + 1) (by omega); have hx := hb.at i
   have e0 : xs[i] = xs.getD i 0 := by simp [List.getD, List.getElem?_eq_getElem hi]
   rw [List.drop_eq_getElem_cons hi, e0, blk_step xs i hi, byteI_lt hi]
   show (if (Lib.bytesOf [42, 47]).isPrefixOf (UInt8.ofNat (xs.getD i 0).toNat :: Lib.bytesOf (xs.drop (i + 1))) then (0 : Int) else if Lib.index (Lib.bytesOf (xs.drop (i + 1))) _ == -1 then -1 else Lib.index (Lib.bytesOf (xs.drop (i + 1))) _ + 1) = _
   have hpre : (Lib.bytesOf [42, 47]).isPrefixOf (UInt8.ofNat (xs.getD i 0).toNat :: Lib.bytesOf (xs.drop (i + 1))) = decide (xs.getD i 0 = 42 ∧ byteI xs (i + 1) = 47) := by
    show (((UInt8.ofNat 42 : UInt8) == UInt8.ofNat (xs.getD i 0).toNat) && List.isPrefixOf [UInt8.ofNat 47] (Lib.bytesOf (xs.drop (i + 1)))) = _
    rw [u8_is hx.1 hx.2 42 (by decide)]
    rcases Nat.lt_or_ge (i + 1) xs.length with h1 | h1
    ·have hy := hb.at (i + 1)
     have e1 : xs[i + 1] = xs.getD (i + 1) 0 := by simp [List.getD, List.getElem?_eq_getElem h1]
     rw [List.drop_eq_getElem_cons h1, e1, byteI_lt h1]
     show (_ && (((UInt8.ofNat 47 : UInt8) == UInt8.ofNat (xs.getD (i + 1) 0).toNat) && true)) = _
     rw [u8_is hy.1 hy.2 47 (by decide), Bool.and_true, Bool.eq_iff_iff]
     simp
    ·rw [List.drop_eq_nil_of_le h1, byteI_ge h1]
     show (_ && false) = _
     simp
   rw [hpre, ih]
   by_cases hc : xs.getD i 0 = 42 ∧ byteI xs (i + 1) = 47
   ·rw [if_pos (by simpa using hc), if_pos hc]; simp
   ·rw [if_neg (by simpa using hc), if_neg hc]
    cases hblk : blkI xs (i + 1) with
    | none => simp
    | some j =>
      have := blk_rng _ _ _ hblk
      have h9 : (((j - (i + 1) : Nat) : Int) == -1) = false := by simp
      simp only [h9, Bool.false_eq_true, if_false]
      omega
def BlkOut (w : World) (S pos : Nat) (r : Option Nat) (e : Ending) (w' : World) : Prop :=
 match r with
 | none => Faults 2 pos e ∧ w.grownBy w' (some S)
 | some j => e = .returned (.tuple #[]) ∧ Moved w w' S (j + 2)
set_option maxRecDepth 100000 in
set_option maxHeartbeats 4000000 in
theorem skipBlock_any (S b n c pos : Nat) (xs : List Int) (m : Int) (w : World) (E : Env w S b n c pos xs) (hp : pos + 2 ≤ xs.length) (hM : w.cell? ⟨2, 0, none⟩ = some (.int .i64 m)) :
  Calls Tryz.prog 69 #[.pointer (some ⟨S, 0, none⟩)] w (BlkOut w S pos (blkI xs (pos + 2))) := by
 have h0 := E.src; have h1 := E.at1; have hf := E.fz 1; have hS := E.inH; have hsm := E.small; have hlen := E.len; have hnc := E.cap
 have hpn : pos + 2 ≤ n := by omega
 obtain ⟨W, eW⟩ : ∃ W, W = w.alloc (.cells #[.int .u8 42, .int .u8 47] 5 (2, 3)) := ⟨_, rfl⟩
 have hbW : Below w.heap.size w W := by rw [eW]; exact (Below.refl _ _).alloc (Nat.le_refl _) _
 have kc := Lib.run_convert_bytes_const (P := Tryz.prog) w 22 5 #[.int .u8 42, .int .u8 47] 2 2 Tryz.underlying22 Tryz.underlying5; rw [show ((#[Value.int .u8 42, Value.int .u8 47] : Array Value).size, (#[Value.int .u8 42, Value.int .u8 47] : Array Value).size + 1) = (2, 3) from rfl, ← eW] at kc
 have hG : W.heap[w.heap.size]? = some (.cells #[.int .u8 42, .int .u8 47] 5 (2, 3)) := by rw [eW]; exact heap_alloc_new _ _
 have hc2 : ∀ i, i < 2 → W.cell? ((⟨w.heap.size, 0, none⟩ : Addr).add i) = some (.int .u8 (([42, 47] : List Int).getD i 0)) := fun i hi => by
  have : i = 0 ∨ i = 1 := by omega
  rcases this with rfl | rfl
  ·show World.cell? _ ⟨w.heap.size, 0, none⟩ = _; unfold World.cell?; rw [hG]; rfl
  ·show World.cell? _ ⟨w.heap.size, 1, none⟩ = _; unfold World.cell?; rw [hG]; rfl
 have hMW : W.cell? ⟨Tryz.indexL_ren.g 1, 0, none⟩ = some (.int .i64 m) := (hbW.cell (p := ⟨2, 0, none⟩) (World.block_lt_of_cell? _ _ hM)).trans hM
 have HIX : ∀ a1 : Addr, (∀ i, i < n - (pos + 2) → W.cell? (a1.add i) = some (.int .u8 ((xs.drop (pos + 2)).getD i 0))) → Calls Tryz.prog 91 #[.slice (some a1) (n - (pos + 2)) (c - (pos + 2)), .slice (some ⟨w.heap.size, 0, none⟩) 2 2] W fun e w' => e = .returned (.int .i64 (Lib.index (Lib.bytesOf (xs.drop (pos + 2))) (Lib.bytesOf [42, 47]))) ∧ ∃ q, w' = W.drewN q := fun a1 hc1 =>
  Any.bytes_Index_at Tryz.indexL a1 ⟨w.heap.size, 0, none⟩ (n - (pos + 2)) (c - (pos + 2)) 2 2 (xs.drop (pos + 2)) [42, 47] m W (by simp; omega) rfl (fun x hx => E.bytes x (List.mem_of_mem_drop hx)) (by decide) hc1 hc2 (by omega) (by omega) (by decide) hMW
 have HBY : Hid (Bytes xs) := E.bytes; have HLN : Hid (n = xs.length) := hlen; have HBW : Hid (Below w.heap.size w W) := hbW
 have HF1 : Hid (∀ q, (W.drewN q).cell? ⟨S, 1, none⟩ = some (.int .i64 pos)) := fun q => (hbW.cell (p := ⟨S, 1, none⟩) hS).trans h1
 have HFF : Hid (∀ q, (W.drewN q).frozen? ⟨S, 1, none⟩ = false) := fun q => (hbW.frozen (p := ⟨S, 1, none⟩) hS).trans hf
 have HFS : Hid (∀ q, S < (W.drewN q).heap.size) := fun q => Nat.lt_of_lt_of_le hS hbW.size
 have HMV : Hid (∀ q k : Nat, Hid (Moved w ((W.drewN q).setCell ⟨S, 1, none⟩ (.int .i64 (k : Nat))) S k)) := fun q k => Moved.onto (below_drewN hbW q) (Moved.set pos k (HF1.out q)) (Below.refl _ _) hS
 have hrow : ∀ i, i < n - (pos + 2) → W.cell? ⟨b, pos + 2 + i, none⟩ = some (.int .u8 ((xs.drop (pos + 2)).getD i 0)) := fun i hi => by
  have h9 := E.row (pos + 2 + i) (by omega); rw [hbW.cell (p := ⟨b, pos + 2 + i, none⟩) (World.block_lt_of_cell? _ _ h9), h9]
  simp [List.getD, List.getElem?_drop]
 have hp0 : (0 : Int) ≤ (pos : Int) + 2 := by omega
 have hp1 : (pos : Int) + 2 ≤ (n : Int) := by omega
 have hto : ((pos : Int) + 2).toNat = pos + 2 := by omega
 clear hlen hbW E hc2 hMW hM hp eW hG
 by_cases hcc : c = pos + 2
 ·have hn2 : n = pos + 2 := by omega
  subst hcc; subst hn2; have HI := HIX ⟨b, 0, none⟩ (fun i hi => by omega); clear HIX; have hblk : blkI xs (pos + 2) = none := blk_end xs (pos + 2) (by have := HLN.out; omega); rw [index_blk HBY.out 0 (pos + 2) (by have := HLN.out; omega), hblk, Nat.sub_self] at HI; rw [hblk]; clear hblk
  go_enter Tryz.func69, Tryz.ntmps69
  go_wp2_with (first | (go_at_call 91; refine HI.mono ?_; rintro e w' ⟨rfl, q, rfl⟩) | (go_at_call 77; refine (fault_any S pos 2 _ (HF1.out _) (HFS.out _)).mono ?_; rintro e w1 ⟨rfl, hb1⟩)); refine ⟨rfl, ?_⟩; exact ⟨rfl, grown_of_below (Below.on HBW.out ((below_drewN (Below.refl _ _) _).trans hb1)) _⟩
 ·skip
  have HI := HIX ⟨b, pos + 2, none⟩ (fun i hi => by rw [show (⟨b, pos + 2, none⟩ : Addr).add i = ⟨b, pos + 2 + i, none⟩ by unfold Addr.add; split <;> simp_all]; exact hrow i hi); clear HIX
  cases hblk : blkI xs (pos + 2) with
  | none =>
    rw [index_blk HBY.out (n - (pos + 2)) (pos + 2) (by have := HLN.out; omega), hblk] at HI; clear hblk
    go_enter Tryz.func69, Tryz.ntmps69
    go_wp2_with (first | (go_at_call 91; refine HI.mono ?_; rintro e w' ⟨rfl, q, rfl⟩) | (go_at_call 77; refine (fault_any S pos 2 _ (HF1.out _) (HFS.out _)).mono ?_; rintro e w1 ⟨rfl, hb1⟩)); refine ⟨rfl, ?_⟩; exact ⟨rfl, grown_of_below (Below.on HBW.out ((below_drewN (Below.refl _ _) _).trans hb1)) _⟩
  | some j =>
    have hrg := blk_rng _ _ _ hblk; rw [index_blk HBY.out (n - (pos + 2)) (pos + 2) (by have := HLN.out; omega), hblk] at HI; simp only at HI
    obtain ⟨d, ed⟩ : ∃ d, d = j - (pos + 2) := ⟨_, rfl⟩
    rw [← ed] at HI
    have hd : d ≤ 10000 := by have := HLN.out; omega
    have HJ : Hid (j + 2 = pos + 2 + d + 2) := by show _ = _; omega
    have hd0 : ¬ ((d : Int) < 0) := by omega
    clear hblk hrg ed
    go_enter Tryz.func69, Tryz.ntmps69
    go_wp2_with (first | (go_at_call 91; refine HI.mono ?_; rintro e w' ⟨rfl, q, rfl⟩; have hw1 := HF1.out q; have hwf := HFF.out q)); refine bodyPost_end (v := .tuple #[]) (by simp [results, Tryz.results69, go_sem]) rfl ⟨rfl, ?_⟩; have hq := (HMV.out q (j + 2)).out; rw [HJ.out] at hq ⊢
    simpa using hq
end
end Go.Proofs.YtfgmenkoeflhaaaGreatDoor
