/- Texts of OpsF, OpsG, Pure, Same1, Same2. Own work of the verifier. -/
import Derived.Test.YtbfhpnacoigfkaaDoorOpsI
import Derived.Test.YtbfhpnacoigfkaaDoorDefP
import Derived.Test.YtbfhpnacoigfkaaDoorOpsV3
import Derived.WalkKit
import Derived.Test.YtbfhpnacoigfkaaDoorCopy
import Derived.Test.YtbfhpnacoigfkaaDoorOps1
import Derived.Deep.QuietTactic
import Derived.BigQuiet
namespace Go.Proofs.YtbfhpnacoigfkaaDoor
open Go Go.RowKit
set_option linter.unusedVariables false

theorem asc_chain : ∀ (cs : List Cel) (a : Option Cel), Asc cs → (∀ c ∈ cs, okC c = true) → (∀ x, a = some x → ∀ c ∈ cs, ltO x c = true) → chainO a cs = true
  | [], _, _, _, _ => rfl
  | x :: r, a, h, hok, ha => by
    have h1 := List.pairwise_cons.1 h
    have ih := asc_chain r (some x) h1.2 (fun c hc => hok c (List.mem_cons_of_mem _ hc)) (fun y hy c hc => by cases hy; exact h1.1 c hc)
    simp only [chainO, hok x (List.mem_cons_self ..), ih, Bool.true_and, Bool.and_true]
    cases a with
    | none => rfl
    | some y => exact ha y rfl x (List.mem_cons_self ..)
theorem putO_mem {cs : List Cel} {o : Cel} (x : Cel) : x ∈ putO cs o ↔ (o.1 ≠ 0 ∧ x = o) ∨ (x ∈ cs ∧ keyC x ≠ keyC o) := by
  rw [putO]
  by_cases h : o.1 = 0
  · rw [h, show ((0 : Int) == 0) = true from rfl, putL_done]
    simp
  · have h' : (o.1 == 0) = false := by simpa using h
    rw [h', putL_mem]
    simp [h]
/-- What AddOp takes. -/
structure Took (cs : List Cel) (k n : Int) (xs : List Int) : Prop where
  tab : tabB cs = true
  len : 1 ≤ xs.length ∧ xs.length ≤ 100
  pri : 0 ≤ k ∧ k ≤ 1200
  typ : 0 ≤ n ∧ n ≤ 6
  com : ((strOfNums xs).toList == [44]) = false
  res : resB (strOfNums xs) = false
  code : addCode cs (k, n, xs) = 0
theorem took_of {cs : List Cel} {k n : Int} {xs : List Int} (h : (addR cs k n xs).2 = 0) : Took cs k n xs ∧ addR cs k n xs = (putO cs (k, n, xs), 0) := by
  unfold addR at h ⊢
  split at h
  · cases h
  · rename_i h1
    split at h
    · cases h
    · rename_i h2
      split at h
      · rename_i h3
        exact absurd h h3
      · rename_i h3
        have h1' : argB cs k n xs.length = true := by simpa using h1
        simp only [argB, Bool.and_eq_true, decide_eq_true_eq] at h1'
        have h2' : (((strOfNums xs).toList == [44]) || resB (strOfNums xs)) = false := by simpa using h2
        rw [Bool.or_eq_false_iff] at h2'
        rw [if_neg h1, if_neg h2, if_neg h3]
        exact ⟨⟨h1'.1, h1'.2.1, h1'.2.2.1, h1'.2.2.2, h2'.1, h2'.2, by simpa using h3⟩, rfl⟩
theorem addR_of {cs : List Cel} {k n : Int} {xs : List Int} (h : Took cs k n xs) : addR cs k n xs = (putO cs (k, n, xs), 0) := by
  have h1 : argB cs k n xs.length = true := by simp [argB, h.tab, h.len, h.pri, h.typ]
  rw [addR, if_neg (by rw [h1]; simp), if_neg (by rw [h.com, h.res]; simp), if_neg (by rw [h.code]; simp)]
theorem took_chain {cs : List Cel} {k n : Int} {xs : List Int} (h : Took cs k n xs) : Asc cs ∧ (∀ c ∈ cs, okC c = true) ∧ cs.length ≤ 200 ∧ cs.any comC = true := by
  obtain ⟨h1, h2, h3⟩ := tab_chain h.tab
  exact ⟨chain_asc cs none h2, chain_ok cs none h2, h1, h3⟩
theorem took_okC {cs : List Cel} {k n : Int} {xs : List Int} (h : Took cs k n xs) (hk : k ≠ 0) : okC (k, n, xs) = true := by
  have hp := h.pri
  have hk1 : 1 ≤ k := by omega
  simp [okC, okB, h.len, h.typ, hk1, hp.2, h.com, h.res]
theorem took_len {cs : List Cel} {k n : Int} {xs : List Int} (h : Took cs k n xs) : (putO cs (k, n, xs)).length ≤ 200 := by
  obtain ⟨hA, _, hl, _⟩ := took_chain h
  rw [putO]
  by_cases hk : k = 0
  · have : ((k, n, xs) : Cel).1 = 0 := hk
    rw [this, show ((0 : Int) == 0) = true from rfl, putL_done]
    exact Nat.le_trans (List.length_filter_le _ _) hl
  · have h' : (((k, n, xs) : Cel).1 == 0) = false := by simpa using hk
    rw [h', putL_len _ cs hA]
    split
    · exact hl
    · rename_i hh
      have hf : findK cs (keyC (k, n, xs)) = none := by
        cases hf : findK cs (keyC (k, n, xs)) with
        | none => rfl
        | some x =>
          obtain ⟨h1, h2⟩ := findK_some hf
          exact absurd (by rw [hasK, List.any_eq_true]; exact ⟨x, h1, by simp [h2]⟩) hh
      have hc := h.code
      rw [addCode, hf] at hc
      by_cases h2 : cs.length = 200
      · simp [hk, h2] at hc
      · omega
theorem com_key {c : Cel} {k n : Int} {xs : List Int} (hc : comC c = true) (h : ((strOfNums xs).toList == [44]) = false) : keyC c ≠ keyC (k, n, xs) := fun e => by
  have h1 : (strOfNums c.2.2).toList = (strOfNums xs).toList := (Prod.mk.inj e).1
  simp only [comC, beq_iff_eq] at hc
  rw [← h1, hc] at h
  simp at h
/-- What AddOp answers is a table. -/
theorem took_tab {cs : List Cel} {k n : Int} {xs : List Int} (h : Took cs k n xs) : tabB (putO cs (k, n, xs)) = true := by
  obtain ⟨hA, hok, hl, hany⟩ := took_chain h
  have hch : chainO none (putO cs (k, n, xs)) = true := asc_chain _ none (putO_asc hA) (fun c hc => by
    rcases (putO_mem c).1 hc with ⟨h0, rfl⟩ | ⟨h1, _⟩
    · exact took_okC h h0
    · exact hok c h1) (fun x hx => by cases hx)
  have hany' : (putO cs (k, n, xs)).any comC = true := by
    obtain ⟨c, hc1, hc2⟩ := List.any_eq_true.1 hany
    exact List.any_eq_true.2 ⟨c, (putO_mem c).2 (.inr ⟨hc1, com_key hc2 h.com⟩), hc2⟩
  have := took_len h
  simp [tabB, hch, hany', this]
theorem code_zero {cs : List Cel} {o : Cel} (h : ∀ x, findK cs (keyC o) = some x → postB x.2.1 = postB o.2.1) (h0 : o.1 = 0 ∨ findK cs (keyC o) ≠ none) : addCode cs o = 0 := by
  rw [addCode]
  cases hf : findK cs (keyC o) with
  | some x => simp [h x hf]
  | none =>
    rcases h0 with h0 | h0
    · simp [h0]
    · exact absurd hf h0
theorem code_post {cs : List Cel} {o : Cel} (h : addCode cs o = 0) : ∀ x, findK cs (keyC o) = some x → postB x.2.1 = postB o.2.1 := fun x hx => by
  rw [addCode, hx] at h
  by_cases e : postB x.2.1 = postB o.2.1
  · exact e
  · simp [e] at h
theorem find_put {cs : List Cel} {o : Cel} (hA : Asc cs) : ∀ x, findK (putO cs o) (keyC o) = some x → x = o := fun x hx => by
  obtain ⟨h1, h2⟩ := findK_some hx
  rcases (putO_mem x).1 h1 with ⟨_, h3⟩ | ⟨_, h3⟩
  · exact h3
  · exact absurd h2 h3
theorem find_has {cs : List Cel} {x : Cel} {k : List UInt8 × Int} (hx : x ∈ cs) (hk : keyC x = k) : findK cs k ≠ none := fun h => by
  have := List.find?_eq_none.1 h x hx
  simp [hk] at this
/-- Put in again: nothing changes. -/
theorem took_again {cs : List Cel} {k n : Int} {xs : List Int} (h : Took cs k n xs) : addR (putO cs (k, n, xs)) k n xs = (putO cs (k, n, xs), 0) := by
  obtain ⟨hA, hok, hl, hany⟩ := took_chain h
  have ht : Took (putO cs (k, n, xs)) k n xs := ⟨took_tab h, h.len, h.pri, h.typ, h.com, h.res, code_zero (fun x hx => by rw [find_put hA x hx]) (by
    by_cases hk : k = 0
    · exact .inl hk
    · exact .inr (find_has ((putO_mem _).2 (.inl ⟨hk, rfl⟩)) rfl))⟩
  rw [addR_of ht]
  congr 1
  refine asc_unique _ _ (putO_asc (putO_asc hA)) (putO_asc hA) (fun x => ?_)
  rw [putO_mem, putO_mem]
  constructor
  · rintro (h1 | ⟨h1 | h1, h2⟩)
    · exact .inl h1
    · exact .inl h1
    · exact .inr h1
  · rintro (h1 | h1)
    · exact .inl h1
    · exact .inr ⟨.inr h1, h1.2⟩
theorem key_pri (a b n : Int) (xs : List Int) : keyC (a, n, xs) = keyC (b, n, xs) := rfl
/-- Taken away: as if it had never been. -/
theorem took_gone {cs : List Cel} {k n : Int} {xs : List Int} (h : Took cs k n xs) : addR (putO cs (k, n, xs)) 0 n xs = (putO cs (0, n, xs), 0) ∧ addR cs 0 n xs = (putO cs (0, n, xs), 0) := by
  obtain ⟨hA, hok, hl, hany⟩ := took_chain h
  have ht : Took cs 0 n xs := ⟨h.tab, h.len, ⟨by omega, by omega⟩, h.typ, h.com, h.res, code_zero (fun x hx => code_post h.code x hx) (.inl rfl)⟩
  have ht2 : Took (putO cs (k, n, xs)) 0 n xs := ⟨took_tab h, h.len, ⟨by omega, by omega⟩, h.typ, h.com, h.res, code_zero (fun x hx => by
    have e := find_put (o := (k, n, xs)) hA x hx
    rw [e]) (.inl rfl)⟩
  refine ⟨?_, addR_of ht⟩
  rw [addR_of ht2]
  congr 1
  refine asc_unique _ _ (putO_asc (putO_asc hA)) (putO_asc hA) (fun x => ?_)
  rw [putO_mem, putO_mem, putO_mem]
  constructor
  · rintro (h1 | ⟨h1 | h1, h2⟩)
    · exact absurd rfl h1.1
    · exact absurd (by rw [h1.2]; rfl) h2
    · exact .inr h1
  · rintro (h1 | h1)
    · exact absurd rfl h1.1
    · exact .inr ⟨.inr h1, h1.2⟩

end Go.Proofs.YtbfhpnacoigfkaaDoor

namespace Go.Proofs.YtbfhpnacoigfkaaDoor
open Go Go.RowKit
set_option linter.unusedVariables false

set_option maxRecDepth 100000 in
theorem tab_dTab : tabB dTab = true := by decide +kernel
set_option maxRecDepth 100000 in
theorem tab_comma : tabB (putO [] (1000, 1, [44])) = true := by decide +kernel

end Go.Proofs.YtbfhpnacoigfkaaDoor

namespace Go.Proofs.YtbfhpnacoigfkaaDoor
open Go

def smallB (c : Int) : Bool := decide (97 ≤ c ∧ c ≤ 122)
def digitB (c : Int) : Bool := decide (48 ≤ c ∧ c ≤ 57)
def alnumB (c : Int) : Bool := decide ((97 ≤ c ∧ c ≤ 122) ∨ (65 ≤ c ∧ c ≤ 90) ∨ c = 95 ∨ (48 ≤ c ∧ c ≤ 57))
def symL : List Int := [43, 45, 42, 47, 92, 94, 60, 62, 61, 126, 58, 46, 63, 64, 35, 38, 36]
def symbolB (c : Int) : Bool := symL.contains c
def tab : List Int := [0, 0, 0, 0, 0, 0, 0, 0, 0, 16, 16, 0, 0, 16, 0, 0, 0, 0, 0, 0, 0, 0, 0, 0, 0, 0, 0, 0, 0, 0, 0, 0,
  16, 32, 0, 8, 8, 0, 8, 0, 64, 64, 8, 8, 64, 8, 8, 8, 4, 4, 4, 4, 4, 4, 4, 4, 4, 4, 8, 32, 8, 8, 8, 8,
  8, 2, 2, 2, 2, 2, 2, 2, 2, 2, 2, 2, 2, 2, 2, 2, 2, 2, 2, 2, 2, 2, 2, 2, 2, 2, 2, 64, 8, 64, 8, 2,
  0, 1, 1, 1, 1, 1, 1, 1, 1, 1, 1, 1, 1, 1, 1, 1, 1, 1, 1, 1, 1, 1, 1, 1, 1, 1, 1, 64, 64, 64, 8, 0]
def isOfB (b k : Int) : Bool := decide (0 ≤ b) && (decide (b < 128) && (bits BinOp.and .u8 (tab.getD b.toNat 0) k != 0))

theorem isOf_all : (List.range 256).all (fun c => isOfB c 1 == smallB c && (isOfB c 7 == alnumB c && (isOfB c 8 == symbolB c))) = true := by decide +kernel
theorem isOf_at {c : Int} (h0 : 0 ≤ c) (h1 : c < 256) : isOfB c 1 = smallB c ∧ isOfB c 7 = alnumB c ∧ isOfB c 8 = symbolB c := by
  have h := List.all_eq_true.1 isOf_all c.toNat (by simp; omega)
  rw [show ((c.toNat : Nat) : Int) = c by omega] at h
  simpa using h
theorem isOf_hi {b k : Int} (h : 128 ≤ b) : isOfB b k = false := by
  have : ¬ b < 128 := by omega
  simp [isOfB, this]
theorem isOf_lo {b k : Int} (h : b < 0) : isOfB b k = false := by
  have : ¬ 0 ≤ b := by omega
  simp [isOfB, this]
theorem isOf_in {b k : Int} (h0 : 0 ≤ b) (h : b < 128) : isOfB b k = (bits BinOp.and .u8 (tab.getD b.toNat 0) k != 0) := by
  simp [isOfB, h0, h]

/-- How many of the first numbers are of a class. -/
def runLen (f : Int → Bool) : List Int → Nat
  | [] => 0
  | x :: r => if f x then runLen f r + 1 else 0
theorem runLen_le (f : Int → Bool) : ∀ xs, runLen f xs ≤ xs.length
  | [] => Nat.le_refl _
  | x :: r => by have := runLen_le f r; unfold runLen; split <;> simp <;> omega
theorem runLen_all (f : Int → Bool) : ∀ xs, (runLen f xs = xs.length) ↔ xs.all f = true
  | [] => by simp [runLen]
  | x :: r => by
    have := runLen_all f r
    have := runLen_le f r
    unfold runLen
    by_cases h : f x = true
    · simp [h]; simpa using runLen_all f r
    · simp [h]
/-- Where the first k are all of the class and there is one more that is: k + 1; where it is not: just k. -/
theorem runLen_stop (f : Int → Bool) : ∀ (xs : List Int) (k : Nat), k ≤ xs.length → (∀ i, i < k → f (xs.getD i 0) = true) → (k = xs.length ∨ f (xs.getD k 0) = false) → runLen f xs = k
  | [], k, h, _, _ => by simp at h; simp [runLen, h]
  | x :: r, 0, _, _, h2 => by
    rcases h2 with h2 | h2
    · simp at h2
    · have : f x = false := by simpa using h2
      simp [runLen, this]
  | x :: r, k + 1, h, h1, h2 => by
    have hx : f x = true := by simpa using h1 0 (by omega)
    have := runLen_stop f r k (by simpa using h) (fun i hi => by simpa using h1 (i + 1) (by omega)) (by simpa using h2)
    simp [runLen, hx, this]

/-- What a plain atom is, both programs' way. -/
def plainB (xs : List Int) : Bool :=
  if xs.length = 0 ∨ 100 < xs.length then false
  else if xs = [33] ∨ xs = [59] ∨ xs = [91, 93] ∨ xs = [123, 125] then true
  else if smallB (xs.getD 0 0) then xs.all alnumB
  else if xs = [46] ∨ xs.take 2 = [47, 42] then false
  else xs.all symbolB

def Bytes (xs : List Int) : Prop := ∀ x ∈ xs, 0 ≤ x ∧ x < 256
theorem Bytes.at {xs : List Int} (h : Bytes xs) (i : Nat) : 0 ≤ xs.getD i 0 ∧ xs.getD i 0 < 256 := by
  by_cases hi : i < xs.length
  · have := h xs[i] (List.getElem_mem hi)
    simpa [List.getD, hi] using this
  · simp [List.getD, List.getElem?_eq_none (Nat.le_of_not_lt hi)]
theorem Bytes.at' {xs : List Int} (h : Bytes xs) (i : Nat) : 0 ≤ xs[i]?.getD 0 ∧ xs[i]?.getD 0 < 256 := by
  simpa [List.getD] using h.at i
theorem Bytes.take {xs : List Int} (h : Bytes xs) (n : Nat) : Bytes (xs.take n) := fun x hx => h x (List.mem_of_mem_take hx)
theorem Bytes.drop {xs : List Int} (h : Bytes xs) (n : Nat) : Bytes (xs.drop n) := fun x hx => h x (List.mem_of_mem_drop hx)

end Go.Proofs.YtbfhpnacoigfkaaDoor

namespace Go.Proofs.YtbfhpnacoigfkaaDoor
open Go Go.RowKit
set_option linter.unusedVariables false

theorem sameB_any (p q : Option Addr) (c1 c2 : Nat) (xs ys : List Int) (w : World) (hn : xs.length ≤ 1000000000) (hm : ys.length ≤ 1000000000) (hx : BIn w p xs) (hy : BIn w q ys) :
    Calls Tryd.prog 37 #[.slice p xs.length c1, .slice q ys.length c2] w fun e w' => e = .returned (.bool (decide (xs = ys))) ∧ ∃ n, w' = w.drewN n := by
  by_cases hl : xs.length = ys.length
  · have HL : Hid (xs.length = ys.length) := hl
    obtain ⟨n, en⟩ : ∃ n, ys.length = n := ⟨_, rfl⟩
    rw [hl]
    rw [hl] at hn
    rw [en] at hn hm hl ⊢
    have HE : Hid (ys.length = n) := en
    clear hl en
    go_enter Tryd.func37, Tryd.ntmps37
    go_wp2
    go_loopw [5] (fun i wr => ∃ k m : Nat, k ≤ n ∧ i = .int .i64 k ∧ Hid (wr = w.drewN m) ∧ Hid (∀ j, j < k → xs.getD j 0 = ys.getD j 0)) (fun i _ => n - (intOf i).toNat)
    case atStart => exact ⟨0, 0, Nat.zero_le _, rfl, rfl, fun _ h => absurd h (Nat.not_lt_zero _)⟩
    case round =>
      obtain ⟨k, m, hk, rfl, HW, HN⟩ := hrel
      by_cases hlt : k < n
      · obtain ⟨b, o, rfl, hcx⟩ := hx (by rw [HL.out, HE.out]; omega)
        obtain ⟨b', o', rfl, hcy⟩ := hy (by rw [HE.out]; omega)
        have h1 : wr.cell? ⟨b, o + k, none⟩ = some (.int .u8 (xs.getD k 0)) := by rw [HW.out]; exact hcx k (by rw [HL.out, HE.out]; exact hlt)
        have h2 : wr.cell? ⟨b', o' + k, none⟩ = some (.int .u8 (ys.getD k 0)) := by rw [HW.out]; exact hcy k (by rw [HE.out]; exact hlt)
        obtain ⟨x, ex⟩ : ∃ x, x = xs.getD k 0 := ⟨_, rfl⟩
        obtain ⟨y, ey⟩ : ∃ y, y = ys.getD k 0 := ⟨_, rfl⟩
        rw [← ex] at h1
        rw [← ey] at h2
        have HX : Hid (x = xs.getD k 0) := ex
        have HY : Hid (y = ys.getD k 0) := ey
        clear ex ey hcx hcy hx hy
        by_cases ht : x = y
        · subst ht
          go_wp2
          go_region
          all_goals go_wp2
          all_goals go_roundw
          case rel => exact ⟨k + 1, m + 1, by omega, by go_num, by rw [HW.out]; rfl, fun j hj => by
            by_cases e : j = k
            · subst e; rw [← HX.out, ← HY.out]
            · exact HN.out j (by omega)⟩
          case measure => simp [intOf]; omega
        · have ht' : (x != y) = true := by simpa using ht
          go_wp2
          go_region
          all_goals go_wp2
          all_goals go_ret
          exact ⟨ret_bool (by
            symm; rw [decide_eq_false_iff_not]; intro e
            exact ht (by rw [HX.out, HY.out, e])), m + 1, by rw [HW.out]; rfl⟩
      · obtain rfl : k = n := by omega
        go_wp2
        go_ret
        exact ⟨ret_bool (by symm; rw [decide_eq_true_iff]; exact same_every HL.out (by rw [HL.out, HE.out]; exact HN.out)), m, HW.out⟩
  · have hne : ¬ ((xs.length : Int) = (ys.length : Int)) := by omega
    have e : decide (xs = ys) = false := by rw [decide_eq_false_iff_not]; intro e; exact hl (by rw [e])
    rw [e]
    clear e hx hy
    go_enter Tryd.func37, Tryd.ntmps37
    go_wp2
    go_ret
    exact ⟨rfl, 0, rfl⟩

end Go.Proofs.YtbfhpnacoigfkaaDoor

namespace Go.Proofs.YtbfhpnacoigfkaaDoor
open Go Go.RowKit
set_option linter.unusedVariables false

theorem sameOps_same (p q : Option Addr) (c1 c2 : Nat) (xs : List Cel) (w : World) (hn : xs.length + tl xs ≤ 1000000000) (hx : OIn w p xs) (hy : OIn w q xs) :
    Calls Tryd.prog 13 #[.slice p xs.length c1, .slice q xs.length c2] w fun e w' => e = .returned (.bool true) ∧ ∃ n, w' = w.drewN n := by
  have HX : Hid (OIn w p xs) := hx
  have HY : Hid (OIn w q xs) := hy
  clear hx hy
  obtain ⟨n, en⟩ : ∃ n, xs.length = n := ⟨_, rfl⟩
  rw [en] at hn ⊢
  have HE : Hid (xs.length = n) := en
  clear en
  go_enter Tryd.func13, Tryd.ntmps13
  go_wp2
  go_loopw [5] (fun i wr => ∃ k m : Nat, k ≤ n ∧ i = .int .i64 k ∧ Hid (wr = w.drewN m)) (fun i _ => n - (intOf i).toNat)
  case atStart => exact ⟨0, 0, Nat.zero_le _, rfl, rfl⟩
  case round =>
    obtain ⟨k, m, hk, rfl, HW⟩ := hrel
    by_cases hlt : k < n
    · have hkx : k < xs.length := by rw [HE.out]; exact hlt
      obtain ⟨b, o, rfl, hcx⟩ := HX.out (by omega)
      obtain ⟨b', o', rfl, hcy⟩ := HY.out (by omega)
      obtain ⟨px, qx, x0, x1, x2, x3⟩ : OAt wr b (o + k * 3) (xs.getD k Cel.none) := by rw [HW.out]; exact hcx k hkx
      obtain ⟨py, qy, y0, y1, y2, y3⟩ : OAt wr b' (o' + k * 3) (xs.getD k Cel.none) := by rw [HW.out]; exact hcy k hkx
      have bx := tl_at xs k hkx
      obtain ⟨a0, ea0⟩ : ∃ x, x = (xs.getD k Cel.none).1 := ⟨_, rfl⟩
      obtain ⟨a1, ea1⟩ : ∃ x, x = (xs.getD k Cel.none).2.1 := ⟨_, rfl⟩
      obtain ⟨am, eam⟩ : ∃ x, x = (xs.getD k Cel.none).2.2.length := ⟨_, rfl⟩
      have HS : Hid (∀ j, Calls Tryd.prog 37 #[.slice px am qx, .slice py am qy] (wr.drewN j) fun e w' => e = .returned (.bool true) ∧ ∃ n, w' = (wr.drewN j).drewN n) := fun j => by
        have := sameB_any px py qx qy (xs.getD k Cel.none).2.2 (xs.getD k Cel.none).2.2 (wr.drewN j) (by omega) (by omega) x3 y3
        rwa [decide_eq_true rfl, ← eam] at this
      rw [← ea0] at x0 y0
      rw [← ea1] at x1 y1
      rw [← eam] at x2 y2
      clear ea0 ea1 eam x3 y3 hcx hcy HX HY bx hkx
      go_wp2
      have g0 : (a0 != a0) = false := by simp
      have g1 : (a1 != a1) = false := by simp
      go_quiet ((go_at_call 37; exact Calls.quiet_of (HS.out _)))
      go_wp2
      go_roundw
      case rel => exact ⟨k + 1, m + nq, by omega, by go_num, by rw [HW.out]; exact World.drewN_drewN _ _ _⟩
      case measure => simp [intOf]; omega
    · obtain rfl : k = n := by omega
      go_wp2
      go_ret
      exact ⟨rfl, m, HW.out⟩

end Go.Proofs.YtbfhpnacoigfkaaDoor

