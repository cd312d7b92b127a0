/- Texts of ItP, Dt1, Tree2, Tree3. Own work of the verifier. -/
import Derived.Test.YtfgmenkoeflhaaaGreatDoorUqai
import Derived.Test.YtfgmenkoeflhaaaGreatDoorUqag
namespace Go.Proofs.YtfgmenkoeflhaaaGreatDoor
open Go Go.RowKit
set_option linter.unusedVariables false
def dot : Cel := (3, 2, [46])
def splitF : Cel → Fo → List (Cel × Fo) × (Cel × Fo)
 | c, .node c1 k1 (.node c2 k2 .nil) => if c = dot then ((c1, k1) :: (splitF c2 k2).1, (splitF c2 k2).2) else ([], (c, .node c1 k1 (.node c2 k2 .nil)))
 | c, k => ([], (c, k))
theorem splitF_dot (c1 : Cel) (k1 : Fo) (c2 : Cel) (k2 : Fo) : splitF dot (.node c1 k1 (.node c2 k2 .nil)) = ((c1, k1) :: (splitF c2 k2).1, (splitF c2 k2).2) := by
 rw [splitF, if_pos rfl]
theorem splitF_other (c : Cel) (k : Fo) (h : c ≠ dot) : splitF c k = ([], (c, k)) := by
 unfold splitF
 split
 ·rw [if_neg h]
 ·rfl
def itsF : List (Cel × Fo) → Fo
 | [] => .nil
 | x :: r => .node x.1 x.2 (itsF r)
theorem itsF_snoc : ∀ (a : List (Cel × Fo)) (x : Cel × Fo), itsF (a ++ [x]) = (itsF a).cat (.node x.1 x.2 .nil)
 | [], x => rfl
 | y :: r, x => by simp only [List.cons_append, itsF, Fo.cat, itsF_snoc r x]
theorem two_of {k : Fo} (h : k.count = 2) : ∃ c1 k1 c2 k2, k = .node c1 k1 (.node c2 k2 .nil) := by
 cases k with
 | nil => simp [Fo.count] at h
 | node c1 k1 r =>
   cases r with
   | nil => simp [Fo.count] at h
   | node c2 k2 r =>
     cases r with
     | nil => exact ⟨c1, k1, c2, k2, rfl⟩
     | node a b d => simp [Fo.count] at h
def itC (x : Cel × Fo) : List Cel := x.1 :: x.2.cells
def nilC : Cel := (2, 0, [91, 93])
def lenOf : Value → Nat
 | .slice _ n _ => n
 | _ => 0
def oddI : List Int := [0, 1, -1, 42, 1000000000000000, -1000000000000000, 255, 1000000]
def intD (x : Nat) : Int := if x < 40 then oddI.getD (x % 8) 0 else ((x % 12 : Nat) : Int) - 2
def leafT (xs : List Int) (k i : Nat) : List Cel × Nat :=
 if k % 5 = 0 then ([(1, intD (rdI xs i).toNat, [])], rdN xs i)
 else if k % 5 < 3 then ([(0, (((rdI xs i).toNat % 5 : Nat) : Int), [])], rdN xs i)
 else ([(2, 0, numsU (nameAt (rdI xs i).toNat))], rdN xs i)
def iterT (f : Nat → List Cel × Nat) : Nat → Nat → List (List Cel) × Nat
 | 0, i => ([], i)
 | n + 1, i => let r := f (iterT f n i).2; ((iterT f n i).1 ++ [r.1], r.2)
def binU : List (List UInt8) := [[45], [43], [61], [44], [58, 45], [59], [45, 62], [105, 115], [94], [42, 42], [42], [64, 64], [109, 111, 100], [102], [45, 45, 62], [114], [113]]
def unaU : List (List UInt8) := [[45], [92, 43], [58, 45], [43], [123, 125], [100, 121, 110, 97, 109, 105, 99], [103], [92], [112], [64, 64], [91, 93], [33]]
def lsL (css : List (List Cel)) (en : List Cel) : List Cel := css.flatMap (fun cs => dot :: cs) ++ en
def nodeT (xs : List Int) (f g : Nat → List Cel × Nat) (i : Nat) : List Cel × Nat :=
 let k := (rdI xs i).toNat
 let i1 := rdN xs i
 if i1 = xs.length ∨ k < 50 then leafT xs k i1
 else if k < 90 then
  let it := iterT f (1 + k % 3) i1
  if k % 4 = 0 then (lsL it.1 (g it.2).1, (g it.2).2) else (lsL it.1 [nilC], it.2)
 else if k < 180 then
  let a := f (rdN xs i1)
  let b := f a.2
  ((3, 2, numsU (binU.getD ((rdI xs i1).toNat % 17) [])) :: (a.1 ++ b.1), b.2)
 else if k < 230 then
  let a := f (rdN xs i1)
  ((3, 1, numsU (unaU.getD ((rdI xs i1).toNat % 12) [])) :: a.1, a.2)
 else
  let it := iterT f (1 + k % 4) i1
  ((3, ((1 + k % 4 : Nat) : Int), numsU (nameAt (rdI xs it.2).toNat)) :: it.1.flatten, rdN xs it.2)
def drawT (xs : List Int) : Nat → Nat → List Cel × Nat
 | 0 => fun i => leafT xs (rdI xs i).toNat (rdN xs i)
 | 1 => nodeT xs (drawT xs 0) (drawT xs 0)
 | d + 2 => nodeT xs (drawT xs (d + 1)) (drawT xs d)
structure Sml (m : Nat) (cs : List Cel) : Prop where
 pos : 0 < cs.length
 len : cs.length + 1 ≤ m
 txt : tl cs ≤ 11 * cs.length
theorem tl_app : ∀ (a b : List Cel), tl (a ++ b) = tl a + tl b
 | [], b => by simp [tl]
 | c :: a, b => by rw [List.cons_append, tl, tl, tl_app a b]; omega
theorem nameU_len (x : Nat) : (numsU (nameAt x)).length ≤ 11 := by
 rw [numsU, List.length_map, nameAt]
 have h : ∀ j, j < 28 → (nmU.getD j []).length ≤ 11 := by decide
 split
 ·exact h _ (by omega)
 ·exact h _ (by omega)
theorem binU_len (x : Nat) : (numsU (binU.getD (x % 17) [])).length ≤ 11 := by
 rw [numsU, List.length_map]
 have h : ∀ j, j < 17 → (binU.getD j []).length ≤ 11 := by decide
 exact h _ (by omega)
theorem unaU_len (x : Nat) : (numsU (unaU.getD (x % 12) [])).length ≤ 11 := by
 rw [numsU, List.length_map]
 have h : ∀ j, j < 12 → (unaU.getD j []).length ≤ 11 := by decide
 exact h _ (by omega)
theorem leafT_sml (xs : List Int) (k i : Nat) : Sml 2 (leafT xs k i).1 := by
 unfold leafT
 have := nameU_len (rdI xs i).toNat
 repeat' split
 all_goals exact ⟨by simp, by simp, by simp [tl]; try omega⟩
theorem iterT_len (f : Nat → List Cel × Nat) : ∀ (n i : Nat), (iterT f n i).1.length = n
 | 0, _ => rfl
 | n + 1, i => by simp [iterT, iterT_len f n i]
theorem iterT_at (f : Nat → List Cel × Nat) {P : List Cel → Prop} (hf : ∀ i, P (f i).1) : ∀ (n i j : Nat), j < n → P ((iterT f n i).1.getD j [])
 | 0, _, _, h => by omega
 | n + 1, i, j, h => by
   simp only [iterT]
   rcases Nat.lt_or_ge j n with h1 | h1
   ·rw [List.getD, List.getElem?_append_left (by rw [iterT_len]; exact h1)]
    exact iterT_at f hf n i j h1
   ·obtain rfl : j = n := by omega
    rw [List.getD, List.getElem?_append_right (by rw [iterT_len]; exact Nat.le_refl _), iterT_len, Nat.sub_self]; exact hf _
theorem iterT_sml (f : Nat → List Cel × Nat) {m : Nat} (hf : ∀ i, Sml m (f i).1) : ∀ (n i : Nat), (iterT f n i).1.flatten.length + n ≤ n * m ∧ tl (iterT f n i).1.flatten ≤ 11 * (iterT f n i).1.flatten.length
 | 0, _ => by simp [iterT, tl]
 | n + 1, i => by
   obtain ⟨h1, h2⟩ := iterT_sml f hf n i; have h3 := hf (iterT f n i).2; simp only [iterT, List.flatten_append, List.flatten_cons, List.flatten_nil, List.append_nil, List.length_append, tl_app]; have := h3.len; have := h3.txt; rw [Nat.add_mul]
   omega
theorem lsL_len : ∀ (css : List (List Cel)) (en : List Cel), (lsL css en).length = css.flatten.length + css.length + en.length ∧ tl (lsL css en) = tl css.flatten + css.length + tl en
 | [], en => by simp [lsL, tl]
 | c :: r, en => by
   obtain ⟨h1, h2⟩ := lsL_len r en; simp only [lsL, List.flatMap_cons, List.append_assoc, List.cons_append, List.length_cons, List.length_append, List.flatten_cons, tl_app, tl] at h1 h2 ⊢; simp only [dot, List.length_cons, List.length_nil] at h1 h2 ⊢
   omega
theorem nodeT_sml (xs : List Int) (f g : Nat → List Cel × Nat) {m : Nat} (h2 : 2 ≤ m) (hf : ∀ i, Sml m (f i).1) (hg : ∀ i, Sml m (g i).1) (i : Nat) : Sml (4 * m) (nodeT xs f g i).1 := by
 unfold nodeT
 simp only
 split
 ·have := leafT_sml xs (rdI xs i).toNat (rdN xs i)
  exact ⟨this.pos, by have := this.len; omega, this.txt⟩
 split
 ·obtain ⟨a1, a2⟩ := iterT_sml f hf (1 + (rdI xs i).toNat % 3) (rdN xs i)
  have hn : 1 + (rdI xs i).toNat % 3 ≤ 3 := by omega
  have h3 : (1 + (rdI xs i).toNat % 3) * m ≤ 3 * m := Nat.mul_le_mul_right m hn
  have h0 : 1 ≤ 1 + (rdI xs i).toNat % 3 := by omega
  generalize 1 + (rdI xs i).toNat % 3 = n at *
  split
  ·obtain ⟨b1, b2⟩ := lsL_len (iterT f n (rdN xs i)).1 (g (iterT f n (rdN xs i)).2).1
   have h4 := hg (iterT f n (rdN xs i)).2; rw [iterT_len] at b1 b2; have := h4.len; have := h4.pos; have := h4.txt
   show Sml (4 * m) (lsL (iterT f n (rdN xs i)).1 (g (iterT f n (rdN xs i)).2).1)
   exact ⟨by omega, by omega, by omega⟩
  ·obtain ⟨b1, b2⟩ := lsL_len (iterT f n (rdN xs i)).1 [nilC]
   rw [iterT_len] at b1 b2; have e1 : tl [nilC] = 2 := rfl; have e2 : [nilC].length = 1 := rfl; rw [e2] at b1; rw [e1] at b2
   show Sml (4 * m) (lsL (iterT f n (rdN xs i)).1 [nilC])
   exact ⟨by omega, by omega, by omega⟩
 split
 ·have ha := hf (rdN xs (rdN xs i)); have hb := hf (f (rdN xs (rdN xs i))).2
  have := ha.len; have := ha.pos; have := ha.txt; have := hb.len; have := hb.txt; have := binU_len (rdI xs (rdN xs i)).toNat; exact ⟨by simp, by simp; omega, by simp only [tl, tl_app, List.length_cons, List.length_append]; omega⟩
 split
 ·have ha := hf (rdN xs (rdN xs i))
  have := ha.len; have := ha.pos; have := ha.txt; have := unaU_len (rdI xs (rdN xs i)).toNat; exact ⟨by simp, by simp; omega, by simp only [tl, List.length_cons]; omega⟩
 ·obtain ⟨a1, a2⟩ := iterT_sml f hf (1 + (rdI xs i).toNat % 4) (rdN xs i)
  have hn : 1 + (rdI xs i).toNat % 4 ≤ 4 := by omega
  have h3 : (1 + (rdI xs i).toNat % 4) * m ≤ 4 * m := Nat.mul_le_mul_right m hn
  have h0 : 1 ≤ 1 + (rdI xs i).toNat % 4 := by omega
  generalize 1 + (rdI xs i).toNat % 4 = n at *
  have := nameU_len (rdI xs (iterT f n (rdN xs i)).2).toNat
  have h1 : n = 1 → n * m = m := fun e => by rw [e, Nat.one_mul]
  refine ⟨by simp, ?_, by simp only [tl, List.length_cons]; omega⟩; simp only [List.length_cons]
  rcases (by omega : n = 1 ∨ 2 ≤ n) with e | e
  ·have := h1 e
   omega
  ·omega
theorem drawT_sml (xs : List Int) : ∀ (d i : Nat), Sml (2 * 4 ^ d) (drawT xs d i).1
 | 0, i => leafT_sml xs _ _
 | 1, i => nodeT_sml xs _ _ (m := 2) (by omega) (drawT_sml xs 0) (drawT_sml xs 0) i
 | d + 2, i => by
   have := nodeT_sml xs (drawT xs (d + 1)) (drawT xs d) (m := 2 * 4 ^ (d + 1)) (by have := Nat.pow_pos (n := d + 1) (show 0 < 4 by decide); omega) (drawT_sml xs (d + 1)) (fun i => by
    have h := drawT_sml xs d i
    exact ⟨h.pos, Nat.le_trans h.len (by rw [Nat.pow_succ]; omega), h.txt⟩) i
   rw [Nat.pow_succ 4 (d + 1)]; rw [show 2 * (4 ^ (d + 1) * 4) = 4 * (2 * 4 ^ (d + 1)) by omega]; exact this
theorem flat_one (r : RC) : flat [r] = rcV r := by simp [flat]
theorem ownC_grew {W0 w w' : World} {B g n cap cp : Nat} {p : Option Addr} {cs : List Cel} {rs : List RC} (hn : n = cs.length) (hl : rs.length = cs.length) (hr0 : W0.ownsRow B 78 3 (.slice p n cp) n (flat rs))
 (hf : ∀ i, i < cs.length → Fits W0 B (rs.getD i RC.zero) (cs.getD i Cel.none)) (ha : ApartC p rs) (hb0 : Below W0.heap.size W0 w) (hB : B ≤ W0.heap.size)
 {kd nn : Int} {tp : Option Addr} {tn tc : Nat} {t : List Int} (ht : OwnT w W0.heap.size tp tn tc t)
 (hr : w'.ownsRow B 78 3 (.slice (some ⟨g, 0, none⟩) (n + 1) cap) (n + 1) (flat rs ++ rcV (kd, nn, tp, tn, tc))) (hg : w.grownBy w' (Value.ownBlock (.slice p n cp))) (hat : Value.ownBlock (.slice p n cp) = some g ∨ g = w.heap.size) :
 OwnC w' B (some ⟨g, 0, none⟩) (n + 1) cap (cs ++ [(kd, nn, t)]) := by
 have hown : ∀ k, Value.ownBlock (.slice p n cp) = some k → p = some ⟨k, 0, none⟩ ∧ k < W0.heap.size := fun k hk => by
  rcases hr0.2 with ⟨hv, _⟩ | ⟨g', cap', cur, hv, hb, hg', _⟩
  ·simp only [Value.slice.injEq] at hv; rw [hv.1] at hk; simp [Value.ownBlock] at hk
  ·simp only [Value.slice.injEq] at hv
   rw [hv.1] at hk ⊢
   simp [Value.ownBlock] at hk
   subst hk; exact ⟨rfl, (Array.getElem?_eq_some_iff.1 hg').1⟩
 have hold : ∀ i, i < cs.length → OwnT w B (rs.getD i RC.zero).2.2.1 (rs.getD i RC.zero).2.2.2.1 (rs.getD i RC.zero).2.2.2.2 (cs.getD i Cel.none).2.2 := fun i hi => (hf i hi).2.2.below hb0
 have hlow : ∀ i, i < cs.length → 0 < (rs.getD i RC.zero).2.2.2.1 → ∃ k, (rs.getD i RC.zero).2.2.1 = some ⟨k, 0, none⟩ ∧ k < W0.heap.size := fun i hi hp => by
  obtain ⟨k, e, _, hlt, _⟩ := (hf i hi).2.2.2 hp; exact ⟨k, e, hlt⟩
 have hhigh : 0 < tn → ∃ k, tp = some ⟨k, 0, none⟩ ∧ W0.heap.size ≤ k ∧ k < w.heap.size := fun hp => by
  obtain ⟨k, e, h1, h2, _⟩ := ht.2 hp; exact ⟨k, e, h1, h2⟩
 have hnewg : g < W0.heap.size ∨ g = w.heap.size := by
  rcases hat with h | h
  ·exact .inl (hown g h).2
  ·exact .inr h
 refine ⟨by simp; omega, rs ++ [(kd, nn, tp, tn, tc)], by simp; omega, by rw [flat_append, flat_one]; exact hr, fun i hi => ?_, fun i hi hp => ?_, fun i j hi hj hij hpi hpj => ?_⟩
 ·have hi' : i ≤ cs.length := by simp at hi; omega
  rw [rs_append_at _ _ _ (by omega), cs_append_at _ _ _ hi']
  by_cases e : i = cs.length
  ·rw [if_pos (by omega), if_pos e]
   refine ⟨rfl, rfl, (ht.mono hB).other hg.size (fun k hn0 e' => ?_)⟩; obtain ⟨k', e'', h1, h2⟩ := hhigh hn0
   have hkk : k = k' := by
    have := e'.symm.trans e''; exact congrArg Addr.block (Option.some.inj this)
   refine hg.block k (by omega) (fun hk => ?_); have := (hown k hk.symm).2
   omega
  ·rw [if_neg (by omega), if_neg e]
   refine ⟨(hf i (by omega)).1, (hf i (by omega)).2.1, (hold i (by omega)).other hg.size (fun k hn0 e' => ?_)⟩; obtain ⟨k', e'', h1⟩ := hlow i (by omega) hn0; have hkk : k = k' := congrArg Addr.block (Option.some.inj (e'.symm.trans e'')); refine hg.block k (by have := hb0.size; omega) (fun hk => ?_); exact ha.1 i (by omega) hn0 (by rw [e', (hown k hk.symm).1])
 ·have hi' : i ≤ rs.length := by simp at hi; omega
  rw [rs_append_at _ _ _ hi'] at hp ⊢
  by_cases e : i = rs.length
  ·rw [if_pos e] at hp ⊢
   obtain ⟨k', e'', h1, h2⟩ := hhigh hp; rw [show ((kd, nn, tp, tn, tc) : RC).2.2.1 = tp from rfl, e'']; exact ne_block (by omega) hp
  ·rw [if_neg e] at hp ⊢
   obtain ⟨k', e'', h1⟩ := hlow i (by omega) hp
   rcases hat with h | h
   ·rw [← (hown g h).1]
    exact ha.1 i (by omega) hp
   ·rw [e'']
    exact ne_block (by have := hb0.size; omega) hp
 ·have hi' : i ≤ rs.length := by simp at hi; omega
  have hj' : j ≤ rs.length := by simp at hj; omega
  rw [rs_append_at _ _ _ hi'] at hpi ⊢; rw [rs_append_at _ _ _ hj'] at hpj ⊢
  by_cases e : i = rs.length
  ·rw [if_pos e] at hpi ⊢
   rw [if_neg (by omega)] at hpj ⊢; obtain ⟨k', e'', h1, h2⟩ := hhigh hpi; obtain ⟨k2, e2, h3⟩ := hlow j (by omega) hpj; rw [show ((kd, nn, tp, tn, tc) : RC).2.2.1 = tp from rfl, e'', e2]; exact ne_block (by omega) hpi
  ·rw [if_neg e] at hpi ⊢
   by_cases e' : j = rs.length
   ·rw [if_pos e'] at hpj ⊢
    obtain ⟨k', e'', h1, h2⟩ := hhigh hpj; obtain ⟨k2, e2, h3⟩ := hlow i (by omega) hpi; rw [show ((kd, nn, tp, tn, tc) : RC).2.2.1 = tp from rfl, e'', e2]; exact ne_block (by omega) hpi
   ·rw [if_neg e'] at hpj ⊢
    exact ha.2 i j (by omega) (by omega) hij hpi hpj
theorem rcV_one (r : RC) : ∀ u ∈ rcV r, u.oneCell' = true := fun u hu => by
 simp [rcV] at hu
 rcases hu with rfl | rfl | rfl <;> rfl
theorem app_cell (W0 w : World) {ops : Array Oper} {rest : List Oper} {o : Oper} {a : Act} {Q : Exit → Act → World → Prop} (hgd : o.guard = none) (s x : Operand)
 (ho : o.op = .call { callee := .builtin .append, args := #[s, x], argTypes := #[46, 46] }) (B : Nat) (p : Option Addr) (n c : Nat) (cs : List Cel)
 (hs : a.eval s = .slice p n c) (hown : OwnC W0 B p n c cs) (hb0 : Below W0.heap.size W0 w) (hB : B ≤ W0.heap.size) (ad : Addr) (c' : Nat) (hx : a.eval x = .slice (some ad) 1 c') (kd nn : Int) (tp : Option Addr) (tn tc : Nat) (t : List Int)
 (ht : OwnT w W0.heap.size tp tn tc t) (hnews : ∀ j u, (rcV (kd, nn, tp, tn, tc))[j]? = some u → w.cell? (ad.add j) = some u) (hlen : n + 1 ≤ 1000000000)
 (h : ∀ g n' cap w', OwnC w' B (some ⟨g, 0, none⟩) n' cap (cs ++ [(kd, nn, t)]) → Below B w w' → Hid (n' = n + 1) → wpList Tryz.prog ops Q rest (a.put o.dst (.slice (some ⟨g, 0, none⟩) n' cap)) w') : wpList Tryz.prog ops Q (o :: rest) a w := by
 obtain ⟨i0, hi, hz0, hz1, hz2⟩ := info_parts infoCell; obtain ⟨hn, rs, hl, hr, hf, ha⟩ := hown; refine wpList_append_lies w hgd s x 46 ho B 78 i0 (.agg #[.int .i64 0, .int .i64 0, .slice none 0 0]) 3 40 Tryz.underlying46 hi hz0 hz1 hz2 rfl (by decide) (.slice p n c) n (flat rs) hs (row_below hr hb0) ad 1 c' (rcV (kd, nn, tp, tn, tc)) hx rfl hnews (rcV_one _) (by decide) (by unfold maxLen; omega) (by omega) (Nat.le_trans hB hb0.size) w.heap.size rfl ?_
 intro g cap w' hown' hgrow hat hlt
 refine h g _ cap w' (ownC_grew hn hl hr hf ha hb0 hB ht hown' hgrow hat) ((Below.refl _ _).grown hgrow (Nat.le_trans hB hb0.size) (fun k hk => ?_)) rfl; exact (hr.lt k hk).1
theorem step_app_cell (W0 w : World) {ops : Array Oper} {o : Oper} {a : Act} {K : Act → World → Prop} {Q : Exit → Act → World → Prop} {E : Prop} (hgd : o.guard = none) (s x : Operand)
 (ho : o.op = .call { callee := .builtin .append, args := #[s, x], argTypes := #[46, 46] }) (B : Nat) (p : Option Addr) (n c : Nat) (cs : List Cel)
 (hs : a.eval s = .slice p n c) (hown : OwnC W0 B p n c cs) (hb0 : Below W0.heap.size W0 w) (hB : B ≤ W0.heap.size) (ad : Addr) (c' : Nat) (hx : a.eval x = .slice (some ad) 1 c') (kd nn : Int) (tp : Option Addr) (tn tc : Nat) (t : List Int)
 (ht : OwnT w W0.heap.size tp tn tc t) (hnews : ∀ j u, (rcV (kd, nn, tp, tn, tc))[j]? = some u → w.cell? (ad.add j) = some u) (hlen : n + 1 ≤ 1000000000)
 (h : ∀ g n' cap w', OwnC w' B (some ⟨g, 0, none⟩) n' cap (cs ++ [(kd, nn, t)]) → Below B w w' → Hid (n' = n + 1) → K (a.put o.dst (.slice (some ⟨g, 0, none⟩) n' cap)) w') :
 if Region.wanted o (yielded ops a.tmps) = true then Oper.wp Tryz.prog o a w K Q else E := by
 obtain ⟨i0, hi, hz0, hz1, hz2⟩ := info_parts infoCell; obtain ⟨hn, rs, hl, hr, hf, ha⟩ := hown; refine step_append_lies w hgd s x 46 ho B 78 i0 (.agg #[.int .i64 0, .int .i64 0, .slice none 0 0]) 3 40 Tryz.underlying46 hi hz0 hz1 hz2 rfl (by decide) (.slice p n c) n (flat rs) hs (row_below hr hb0) ad 1 c' (rcV (kd, nn, tp, tn, tc)) hx rfl hnews (rcV_one _) (by decide) (by unfold maxLen; omega) (by omega) (Nat.le_trans hB hb0.size) w.heap.size rfl ?_
 intro g cap w' hown' hgrow hat hlt
 refine h g _ cap w' (ownC_grew hn hl hr hf ha hb0 hB ht hown' hgrow hat) ((Below.refl _ _).grown hgrow (Nat.le_trans hB hb0.size) (fun k hk => ?_)) rfl; exact (hr.lt k hk).1
end Go.Proofs.YtfgmenkoeflhaaaGreatDoor
