/- Texts of Scan13, Scan14, Tok1, RegR. Own work of the verifier. -/
import Derived.Test.YtfgmenkoeflhaaaGreatDoorUqbt
import Derived.RangeFuncNested
import Derived.RangeFuncBound
import Derived.RangeFuncLeaves
import Derived.Shelf.Abstract
import Derived.Shelf.RegionOpen
import Derived.OwnWalkIn
import Derived.TacticsInMore
import Derived.LoopNIn
import Derived.LoopIn
import Derived.Sort.EveryDepth
namespace Go.Proofs.YtfgmenkoeflhaaaGreatDoor
set_option linter.unusedVariables false
set_option maxRecDepth 100000
section
open Go Go.RowKit Go.Shelf
theorem runLen_ge_one {p : Int → Bool} {ys : List Int} (h : ys ≠ []) (h1 : p (ys.getD 0 0) = true) : 1 ≤ runLen p ys := by
 cases ys with
 | nil => exact absurd rfl h
 | cons y r =>
   have h2 : p y = true := by simpa using h1
   show 1 ≤ (if p y = true then runLen p r + 1 else 0)
   rw [if_pos h2]; omega
theorem line_pos {xs : List Int} {p : Nat} (h : byteI xs p = 37) : 1 ≤ lineI xs p := by
 have hp : p < xs.length := by
  rcases Nat.lt_or_ge p xs.length with h' | h'
  ·exact h'
  ·rw [byteI_ge h'] at h; omega
 rw [byteI_lt hp] at h; refine runLen_ge_one (fun e => ?_) ?_
 ·have := List.drop_eq_nil_iff.1 e; omega
 ·have : (xs.drop p).getD 0 0 = 37 := by simpa [List.getD, List.getElem?_drop] using h
  rw [this]; rfl
theorem line_le (xs : List Int) (p : Nat) (hp : p ≤ xs.length) : p + lineI xs p ≤ xs.length := by
 have := runLen_le (fun c => c != 10) (xs.drop p)
 unfold lineI
 simp at this
 omega
def layF (xs : List Int) : Nat → Nat → Except Nat Nat
 | 0, pos => .ok pos
 | f + 1, pos => match layI xs pos with
   | none => .error pos
   | some k => if 0 < k then layF xs f (pos + k) else .ok pos
def layA (xs : List Int) (pos : Nat) : Except Nat Nat := layF xs (xs.length + 1 - pos) pos
theorem layI_rng {xs : List Int} {p k : Nat} (hp : p ≤ xs.length) (h : layI xs p = some k) : p + k ≤ xs.length := by
 unfold layI at h
 have hin : byteI xs p ≠ -1 → p < xs.length := fun h9 => by
  rcases Nat.lt_or_ge p xs.length with h' | h'
  ·exact h'
  ·exact absurd (byteI_ge h') h9
 split at h
 ·rename_i hh
  cases h
  exact hin hh.2.1
 ·split at h
  ·cases h
   exact line_le xs p hp
  ·split at h
   ·split at h
    ·cases h
    ·rename_i j hj
     cases h
     have := blk_rng _ _ _ hj
     omega
   ·cases h; omega
theorem layF_more {xs : List Int} : ∀ (f p : Nat), p ≤ xs.length → xs.length + 1 ≤ p + f → ∀ g, layF xs (f + g) p = layF xs f p
 | 0, p, hp, hf, g => by omega
 | f + 1, p, hp, hf, g => by
   rw [show f + 1 + g = (f + g) + 1 by omega]
   show (match layI xs p with | none => _ | some k => if 0 < k then layF xs (f + g) (p + k) else _) = (match layI xs p with | none => _ | some k => if 0 < k then layF xs f (p + k) else _)
   cases hl : layI xs p with
   | none => rfl
   | some k =>
     simp only
     by_cases hk : 0 < k
     ·rw [if_pos hk, if_pos hk]
      exact layF_more f (p + k) (layI_rng hp hl) (by omega) g
     ·rw [if_neg hk, if_neg hk]
theorem layA_step {xs : List Int} {p : Nat} (hp : p ≤ xs.length) : layA xs p = match layI xs p with
  | none => .error p
  | some k => if 0 < k then layA xs (p + k) else .ok p := by
 unfold layA
 rw [show xs.length + 1 - p = (xs.length - p) + 1 by omega]
 show (match layI xs p with | none => _ | some k => if 0 < k then layF xs (xs.length - p) (p + k) else _) = _
 cases hl : layI xs p with
 | none => rfl
 | some k =>
   simp only
   by_cases hk : 0 < k
   ·rw [if_pos hk, if_pos hk]
    have hr := layI_rng hp hl; have := layF_more (xs := xs) (xs.length + 1 - (p + k)) (p + k) hr (by omega) (k - 1); rw [← this]
    congr 1
    omega
   ·rw [if_neg hk, if_neg hk]
def LayOut (w : World) (S : Nat) (r : Except Nat Nat) (e : Ending) (w' : World) : Prop :=
 match r with
 | .error q => Faults 2 q e ∧ w.grownBy w' (some S)
 | .ok q => e = .returned (.tuple #[]) ∧ Moved w w' S q
theorem layOut_of {w w' : World} {S : Nat} {e : Ending} {r r' : Except Nat Nat} (h : LayOut w S r e w') (er : r' = r) : LayOut w S r' e w' := er ▸ h
def placeOf (w : World) (S : Nat) : Nat := match w.cell? ⟨S, 1, none⟩ with
 | some (.int _ i) => i.toNat
 | _ => 0
theorem placeOf_at {w : World} {S p : Nat} (h : w.cell? ⟨S, 1, none⟩ = some (.int .i64 p)) : placeOf w S = p := by unfold placeOf; rw [h]; simp
theorem max_kept {w w' : World} {S b n c pos q : Nat} {xs : List Int} {m : Int} (E : Env w S b n c pos xs) (M : Moved w w' S q) (h : w.cell? ⟨2, 0, none⟩ = some (.int .i64 m)) : w'.cell? ⟨2, 0, none⟩ = some (.int .i64 m) := by
 have hS : 2 ≠ S := fun e => by have h2 := E.src; rw [← e, h] at h2; cases h2
 rw [World.cell?_of_block (w := w) (M.grown.block _ (World.block_lt_of_cell? _ _ h) (by simpa using hS))]; exact h
set_option maxHeartbeats 4000000 in
theorem skipLayout_any (S b n c pos : Nat) (xs : List Int) (m : Int) (w : World) (E : Env w S b n c pos xs) (hp : pos ≤ xs.length) (hM : w.cell? ⟨2, 0, none⟩ = some (.int .i64 m)) :
  Calls Tryz.prog 40 #[.pointer (some ⟨S, 0, none⟩)] w (LayOut w S (layA xs pos)) := by
 have HE : Hid (Env w S b n c pos xs) := E; have HMX : Hid (w.cell? ⟨2, 0, none⟩ = some (.int .i64 m)) := hM; have HP : Hid (pos ≤ xs.length) := hp; have hsm := E.small; have HLN : Hid (n = xs.length) := E.len; have HM0 : Hid (Moved w w S pos) := Moved.of_below (Below.refl _ _) E.inH E.at1; clear E hM hp
 go_enter Tryz.func40, Tryz.ntmps40
 go_wp2
 go_loopw [] (fun wr => ∃ p : Nat, p ≤ n ∧ Hid (Moved w wr S p) ∧ Hid (layA xs pos = layA xs p)) (fun wr => 20000 - placeOf wr S)
 case atStart => exact ⟨pos, by rw [HLN.out]; exact HP.out, HM0, rfl⟩
 case round =>
  obtain ⟨p, hpn, HM, HT⟩ := hrel; have HV : Hid (Env wr S b n c p xs) := HE.out.moved HM.out; have HMW := max_kept HE.out HM.out HMX.out; have HPL : Hid (placeOf wr S = p) := placeOf_at HM.out.at1
  have hp1 : p ≤ xs.length := by rw [← HLN.out]; exact hpn
  have hpm : p ≤ 10000 := by omega
  have hr := byteI_rng HV.out.bytes p; have hr2 := byteI_rng HV.out.bytes (p + 1); have H16 := isOf16 hr.1 hr.2; have HST := layA_step hp1; have h1 := HV.out.at1; have hf := HV.out.fz 1; have HSL : Hid (p < xs.length → _) := skipLine_any S b n c p xs wr HV.out
  have HSB : Hid (p + 2 ≤ xs.length → _) := fun h => skipBlock_any S b n c p xs m wr HV.out h HMW
  have hlay : layI xs p = if endsI (byteI xs p) = true ∧ byteI xs p ≠ -1 ∧ byteI xs p ≠ 37 then some 1
    else if byteI xs p = 37 then some (lineI xs p)
    else if byteI xs p = 47 ∧ byteI xs (p + 1) = 42 then (match blkI xs (p + 2) with | none => none | some j => some (j + 2 - p))
    else some 0 := rfl
  have hin : byteI xs p ≠ -1 → p < xs.length := fun h9 => by
   rcases Nat.lt_or_ge p xs.length with h' | h'
   ·exact h'
   ·exact absurd (byteI_ge h') h9
  have hin2 : byteI xs (p + 1) ≠ -1 → p + 2 ≤ xs.length := fun h9 => by
   rcases Nat.lt_or_ge (p + 1) xs.length with h' | h'
   ·exact h'
   ·exact absurd (byteI_ge h') h9
  have HLP : Hid (byteI xs p = 37 → 1 ≤ lineI xs p) := line_pos; have HLL : Hid (p + lineI xs p ≤ xs.length) := line_le xs p hp1
  obtain ⟨x, ex⟩ : ∃ x, x = byteI xs p := ⟨_, rfl⟩
  obtain ⟨y, ey⟩ : ∃ y, y = byteI xs (p + 1) := ⟨_, rfl⟩
  rw [← ex] at hlay hin hr H16 HLP; rw [← ey] at hlay hin2 hr2; have HX : Hid (byteI xs p = x) := ex.symm; have HY : Hid (byteI xs (p + 1) = y) := ey.symm; have HI16 : Hid (isOfB x 16 = _) := H16; have tok0 : True := trivial; have tok1 : True := trivial; clear ex ey H16
  by_cases t0 : x = 32 ∨ x = 9 ∨ x = 10 ∨ x = 13
  ·have hends : endsI x = true := by unfold endsI; simp only [decide_eq_true_iff]; omega
   rw [if_pos ⟨hends, by omega, by omega⟩] at hlay; rw [hlay] at HST
   have HG : Hid (layA xs pos = layA xs (p + 1)) := by show _ = _; rw [HT.out, HST]; rfl
   have hpn1 : p + 1 ≤ n := by rw [HLN.out]; exact hin (by omega)
   have HI16 : Hid (isOfB x 16 = true) := by show _ = _; rw [HI16.out]; simpa using t0
   have HMV : Hid (∀ q : Nat, Hid (Moved wr (wr.setCell ⟨S, 1, none⟩ (.int .i64 (q : Nat))) S q)) := fun q => Moved.set p q h1
   clear hends hlay HST HT hin hin2 HSL HSB HLP HLL t0 HY hp1; go_wp2_with (first | (go_at_call 67; have _t := tok0; refine (byteAt_any S b n c xs p _ (HV.out).bytes (HV.out).len (by have := (HV.out).small; omega) (by omega) (HV.out).src (HV.out).row).mono ?_; rintro e w' ⟨rfl, rfl⟩; rw [HX.out]; clear tok0) | (go_at_call 43; refine (isOf_any _ _ _ (by omega) (by omega) HV.out.tab).mono ?_; rintro e w' ⟨rfl, rfl⟩; rw [HI16.out])); go_roundw
   case rel => exact ⟨p + 1, hpn1, HM.out.trans (by have := (HMV.out (p + 1)).out; simpa using this), HG⟩
   case measure =>
    have := placeOf_at (HMV.out (p + 1)).out.at1
    have e9 : ((p + 1 : Nat) : Int) = (p : Int) + 1 := by simp
    rw [e9] at this; rw [this, HPL.out]; omega
  have HI16 : Hid (isOfB x 16 = false) := by show _ = _; rw [HI16.out]; simpa using t0
  have hne : ¬ (endsI x = true ∧ x ≠ -1 ∧ x ≠ 37) := fun ⟨h, h2, h3⟩ => by unfold endsI at h; simp only [decide_eq_true_iff] at h; omega
  rw [if_neg hne] at hlay; clear hne t0
  by_cases t1 : x = 37
  ·rw [if_pos t1] at hlay
   have hlp := HLP.out t1; have hll := HLL.out; have HL := HSL.out (hin (by omega))
   obtain ⟨k, ek⟩ : ∃ k, k = lineI xs p := ⟨_, rfl⟩
   rw [← ek] at hlay hlp hll HL; rw [hlay] at HST
   have HG : Hid (layA xs pos = layA xs (p + k)) := by show _ = _; rw [HT.out, HST]; simp only; rw [if_pos (by omega)]
   have HPK : Hid (p + k ≤ n) := by rw [HLN.out]; exact hll
   subst t1; clear hlay HST HT hin hin2 HSL HSB HLP HLL HY hp1 ek; go_wp2_with (first | (go_at_call 67; have _t := tok0; refine (byteAt_any S b n c xs p _ (HV.out).bytes (HV.out).len (by have := (HV.out).small; omega) (by omega) (HV.out).src (HV.out).row).mono ?_; rintro e w' ⟨rfl, rfl⟩; rw [HX.out]; clear tok0) | (go_at_call 43; refine (isOf_any _ _ _ (by omega) (by omega) HV.out.tab).mono ?_; rintro e w' ⟨rfl, rfl⟩; rw [HI16.out]) | (go_at_call 68; refine HL.mono ?_; rintro e w1 ⟨rfl, M1⟩)); go_roundw
   case rel => exact ⟨p + k, HPK.out, HM.out.trans M1, HG⟩
   case measure =>
    have hpk := HPK.out; rw [placeOf_at M1.at1, HPL.out]; omega
  rw [if_neg t1] at hlay
  have s1 : (x == 37) = false := by simpa using t1
  by_cases t2 : x = 47
  ·by_cases t3 : y = 42
   ·rw [if_pos ⟨t2, t3⟩] at hlay
    have h2 := hin2 (by omega); have HB := HSB.out h2
    cases hblk : blkI xs (p + 2) with
    | none =>
      rw [hblk] at hlay HB; rw [hlay] at HST
      have HG : Hid (layA xs pos = .error p) := by show _ = _; rw [HT.out, HST]
      subst t2; subst t3; clear hlay HST HT hin hin2 HSL HSB HLP HLL hp1 hblk t1 s1; go_wp2_with (first | (go_at_call 67; have _t := tok0; refine (byteAt_any S b n c xs p _ (HV.out).bytes (HV.out).len (by have := (HV.out).small; omega) (by omega) (HV.out).src (HV.out).row).mono ?_; rintro e w' ⟨rfl, rfl⟩; rw [HX.out]; clear tok0) | (go_at_call 67; have _t := tok1; refine (byteAt_any S b n c xs (p + 1) _ (HV.out).bytes (HV.out).len (by have := (HV.out).small; omega) (by omega) (HV.out).src (HV.out).row).mono ?_; rintro e w' ⟨rfl, rfl⟩; rw [HY.out]; clear tok1) | (go_at_call 43; refine (isOf_any _ _ _ (by omega) (by omega) HV.out.tab).mono ?_; rintro e w' ⟨rfl, rfl⟩; rw [HI16.out]) | (go_at_call 69; refine HB.mono ?_; rintro e w1 ⟨rfl, hg1⟩)); refine ⟨rfl, ?_⟩; exact layOut_of (r := .error p) ⟨rfl, HM.out.grown.trans hg1⟩ HG.out
    | some j =>
      have hrg := blk_rng _ _ _ hblk; rw [hblk] at hlay HB; simp only at hlay; rw [hlay] at HST
      have HG : Hid (layA xs pos = layA xs (j + 2)) := by show _ = _; rw [HT.out, HST]; simp only; rw [if_pos (by omega), show p + (j + 2 - p) = j + 2 by omega]
      have HPK : Hid (j + 2 ≤ n ∧ p < j + 2) := by rw [HLN.out]; exact ⟨by omega, by omega⟩
      subst t2; subst t3; clear hlay HST HT hin hin2 HSL HSB HLP HLL hp1 hblk t1 s1 hrg; go_wp2_with (first | (go_at_call 67; have _t := tok0; refine (byteAt_any S b n c xs p _ (HV.out).bytes (HV.out).len (by have := (HV.out).small; omega) (by omega) (HV.out).src (HV.out).row).mono ?_; rintro e w' ⟨rfl, rfl⟩; rw [HX.out]; clear tok0) | (go_at_call 67; have _t := tok1; refine (byteAt_any S b n c xs (p + 1) _ (HV.out).bytes (HV.out).len (by have := (HV.out).small; omega) (by omega) (HV.out).src (HV.out).row).mono ?_; rintro e w' ⟨rfl, rfl⟩; rw [HY.out]; clear tok1) | (go_at_call 43; refine (isOf_any _ _ _ (by omega) (by omega) HV.out.tab).mono ?_; rintro e w' ⟨rfl, rfl⟩; rw [HI16.out]) | (go_at_call 69; refine HB.mono ?_; rintro e w1 ⟨rfl, M1⟩)); go_roundw
      case rel => exact ⟨j + 2, HPK.out.1, HM.out.trans M1, HG⟩
      case measure =>
       have hpk := HPK.out; rw [placeOf_at M1.at1, HPL.out]; omega
   ·rw [if_neg (fun h => t3 h.2)] at hlay
    rw [hlay] at HST
    have HG : Hid (layA xs pos = .ok p) := by show _ = _; rw [HT.out, HST]; rfl
    have s3 : (y == 42) = false := by simpa using t3
    subst t2; clear hlay HST HT hin hin2 HSL HSB HLP HLL hp1 t1 s1 t3; go_wp2_with (first | (go_at_call 67; have _t := tok0; refine (byteAt_any S b n c xs p _ (HV.out).bytes (HV.out).len (by have := (HV.out).small; omega) (by omega) (HV.out).src (HV.out).row).mono ?_; rintro e w' ⟨rfl, rfl⟩; rw [HX.out]; clear tok0) | (go_at_call 67; have _t := tok1; refine (byteAt_any S b n c xs (p + 1) _ (HV.out).bytes (HV.out).len (by have := (HV.out).small; omega) (by omega) (HV.out).src (HV.out).row).mono ?_; rintro e w' ⟨rfl, rfl⟩; rw [HY.out]; clear tok1) | (go_at_call 43; refine (isOf_any _ _ _ (by omega) (by omega) HV.out.tab).mono ?_; rintro e w' ⟨rfl, rfl⟩; rw [HI16.out])); refine bodyPost_end (v := .tuple #[]) (by simp [results, Tryz.results40, go_sem]) rfl (layOut_of (r := .ok p) ⟨rfl, HM.out⟩ HG.out)
  ·rw [if_neg (fun h => t2 h.1)] at hlay
   rw [hlay] at HST
   have HG : Hid (layA xs pos = .ok p) := by show _ = _; rw [HT.out, HST]; rfl
   have s2 : (x == 47) = false := by simpa using t2
   clear hlay HST HT hin hin2 HSL HSB HLP HLL hp1 t1 t2; go_wp2_with (first | (go_at_call 67; have _t := tok0; refine (byteAt_any S b n c xs p _ (HV.out).bytes (HV.out).len (by have := (HV.out).small; omega) (by omega) (HV.out).src (HV.out).row).mono ?_; rintro e w' ⟨rfl, rfl⟩; rw [HX.out]; clear tok0) | (go_at_call 43; refine (isOf_any _ _ _ (by omega) (by omega) HV.out.tab).mono ?_; rintro e w' ⟨rfl, rfl⟩; rw [HI16.out])); refine bodyPost_end (v := .tuple #[]) (by simp [results, Tryz.results40, go_sem]) rfl (layOut_of (r := .ok p) ⟨rfl, HM.out⟩ HG.out)
end
section
open Go Go.RowKit
theorem lay_end (xs : List Int) (p : Nat) (h : xs.length ≤ p) : layI xs p = some 0 := by
 unfold layI
 rw [byteI_ge h]
 simp
theorem lay_lex {xs : List Int} (hb : Bytes xs) (a : Int) (acc : List Tok) : ∀ (f p : Nat), p ≤ xs.length → xs.length < p + f → match layA xs p with
  | .error q => lexI xs p a acc = .error (2, q) ∧ p ≤ q ∧ q ≤ xs.length
  | .ok q => lexI xs p a acc = lexI xs q a acc ∧ p ≤ q ∧ q ≤ xs.length ∧ layI xs q = some 0
 | 0, p, hp, hf => by omega
 | f + 1, p, hp, hf => by
   rw [layA_step hp]
   rcases Nat.lt_or_ge p xs.length with h | h
   ·cases hl : layI xs p with
    | none =>
      simp only; rw [lexI_step hb h, hl]; exact ⟨rfl, Nat.le_refl _, hp⟩
    | some k =>
      simp only
      by_cases hk : 0 < k
      ·rw [if_pos hk]
       have hr := layI_rng hp hl; have ih := lay_lex hb a acc f (p + k) hr (by omega)
       have e : lexI xs p a acc = lexI xs (p + k) a acc := by rw [lexI_step hb h, hl]; simp only; rw [if_pos hk]
       rw [e]
       cases hq : layA xs (p + k) with
       | error q => rw [hq] at ih; exact ⟨ih.1, by have := ih.2.1; omega, ih.2.2⟩
       | ok q => rw [hq] at ih; exact ⟨ih.1, by have := ih.2.1; omega, ih.2.2⟩
      ·rw [if_neg hk]
       exact ⟨rfl, Nat.le_refl _, hp, by rw [hl, show k = 0 by omega]⟩
   ·rw [lay_end xs p h]
    exact ⟨rfl, Nat.le_refl _, hp, lay_end xs p h⟩
theorem lex_at {xs : List Int} (hb : Bytes xs) (a : Int) (acc : List Tok) (p : Nat) (hp : p ≤ xs.length) : match layA xs p with
  | .error q => lexI xs p a acc = .error (2, q) ∧ p ≤ q ∧ q ≤ xs.length
  | .ok q => lexI xs p a acc = lexI xs q a acc ∧ p ≤ q ∧ q ≤ xs.length ∧ layI xs q = some 0 := lay_lex hb a acc (xs.length + 1) p hp (by omega)
end
section
open Go Go.RowKit Go.Shelf
attribute [local go_sem] Oper.semAt_some
structure RK (S TB : Nat) (W W' : World) : Prop where
 size : W.heap.size ≤ W'.heap.size
 block : ∀ k, k ≤ S → k ≠ TB → W'.heap[k]? = W.heap[k]?
structure Geo (S b TB : Nat) : Prop where
 src : b < TB
 tab : 1 < TB
 max : 2 < TB
 box : TB < S
structure SSt (W : World) (S b n c : Nat) (xs : List Int) (m : Int) (pos : Nat) (a : Int) : Prop where
 env : Env W S b n c pos xs
 max : W.cell? ⟨2, 0, none⟩ = some (.int .i64 m)
 last : ∃ (ka la ll : Int) (v5 v6 : Value), W.cell? ⟨S, 2, none⟩ = some (.int .i64 ka) ∧ W.cell? ⟨S, 3, none⟩ = some (.int .i64 la) ∧ W.cell? ⟨S, 4, none⟩ = some (.int .i64 ll) ∧ W.cell? ⟨S, 5, none⟩ = some v5 ∧ W.cell? ⟨S, 6, none⟩ = some v6 ∧
  (0 ≤ la ∧ la ≤ 100000) ∧ (0 ≤ ll ∧ ll ≤ 100000) ∧ a = if ka = 1 then la + ll else -1
theorem SSt.moved {W W' : World} {S b n c : Nat} {xs : List Int} {m : Int} {pos q : Nat} {a : Int} (h : SSt W S b n c xs m pos a) (M : Moved W W' S q) : SSt W' S b n c xs m q a := by
 obtain ⟨ka, la, ll, v5, v6, h2, h3, h4, h5, h6, hr⟩ := h.last; exact ⟨h.env.moved M, max_kept h.env M h.max, ka, la, ll, v5, v6, (M.other 2 (by decide)).trans h2, (M.other 3 (by decide)).trans h3, (M.other 4 (by decide)).trans h4, (M.other 5 (by decide)).trans h5, (M.other 6 (by decide)).trans h6, hr⟩
theorem SSt.below {W W' : World} {S b n c : Nat} {xs : List Int} {m : Int} {pos : Nat} {a : Int} (h : SSt W S b n c xs m pos a) (hb : Below W.heap.size W W') : SSt W' S b n c xs m pos a := h.moved (Moved.of_below hb h.env.inH h.env.at1)
theorem SSt.kept {W W' : World} {S b n c TB : Nat} {xs : List Int} {m : Int} {pos : Nat} {a : Int} (h : SSt W S b n c xs m pos a) (g : Geo S b TB) (k : RK S TB W W') : SSt W' S b n c xs m pos a := by
 have hS : ∀ j, W'.cell? ⟨S, j, none⟩ = W.cell? ⟨S, j, none⟩ := fun j => World.cell?_of_block (a := ⟨S, j, none⟩) (k.block S (Nat.le_refl _) (by have := g.box; omega))
 obtain ⟨ka, la, ll, v5, v6, h2, h3, h4, h5, h6, hr⟩ := h.last; refine ⟨⟨h.env.bytes, h.env.len, h.env.cap, h.env.small, (hS 0).trans h.env.src, (hS 1).trans h.env.at1, fun j => ?_, Nat.lt_of_lt_of_le h.env.inH k.size, fun i hi => ?_, fun i hi => ?_⟩, ?_, ka, la, ll, v5, v6, (hS 2).trans h2, (hS 3).trans h3, (hS 4).trans h4, (hS 5).trans h5, (hS 6).trans h6, hr⟩
 ·rw [← h.env.fz j]
  simp only [World.frozen?, k.block S (Nat.le_refl _) (by have := g.box; omega)]
 ·rw [World.cell?_of_block (w := W) (a := ⟨b, i, none⟩) (k.block b (by have := g.src; have := g.box; omega) (by have := g.src; omega))]
  exact h.env.row i hi
 ·rw [World.cell?_of_block (w := W) (a := ⟨1, i, none⟩) (k.block 1 (by have := g.tab; have := g.box; omega) (by have := g.tab; omega))]
  exact h.env.tab i hi
 ·rw [World.cell?_of_block (w := W) (a := ⟨2, 0, none⟩) (k.block 2 (by have := g.max; have := g.box; omega) (by have := g.max; omega))]
  exact h.max
theorem call_is {ka la ll a : Int} {pos : Nat} (ha : a = if ka = 1 then la + ll else -1) : callI ka la ll pos = decide (a = pos) := by
 unfold callI
 rw [ha]
 by_cases h : ka = 1
 ·simp [h]
 ·rw [if_neg h]
  simp only [h, false_and, decide_false]
  symm
  simp only [decide_eq_false_iff_not]
  omega
theorem grown_last (w : World) (g : Nat) (v0 v1 v2 v3 v4 : Value) : w.grownBy (w.setCells g 2 [v0, v1, v2, v3, v4]) (some g) :=
 ((((grown_setCell w ⟨g, 2, none⟩ v0).trans (grown_setCell _ ⟨g, 3, none⟩ v1)).trans (grown_setCell _ ⟨g, 4, none⟩ v2)).trans (grown_setCell _ ⟨g, 5, none⟩ v3)).trans (grown_setCell _ ⟨g, 6, none⟩ v4)
theorem SSt.set {W : World} {S b n c : Nat} {xs : List Int} {m : Int} {pos : Nat} {a : Int} (h : SSt W S b n c xs m pos a) (kd at_ len v : Int) (p : Option Addr) (k cp : Nat) (h1 : 0 ≤ at_ ∧ at_ ≤ 100000) (h2 : 0 ≤ len ∧ len ≤ 100000) :
  SSt (W.setCells S 2 [.int .i64 kd, .int .i64 at_, .int .i64 len, .slice p k cp, .int .i64 v]) S b n c xs m pos (if kd = 1 then at_ + len else -1) := by
 obtain ⟨ka, la, ll, v5, v6, c2, c3, c4, c5, c6, hr⟩ := h.last; have G := grown_last W S (.int .i64 kd) (.int .i64 at_) (.int .i64 len) (.slice p k cp) (.int .i64 v)
 have hsm : ∀ j, j < [Value.int .i64 kd, .int .i64 at_, .int .i64 len, .slice p k cp, .int .i64 v].length → (W.cell? ⟨S, 2 + j, none⟩).isSome = true := fun j hj => by
  have hj' : j < 5 := hj
  rcases (by omega : j = 0 ∨ j = 1 ∨ j = 2 ∨ j = 3 ∨ j = 4) with rfl | rfl | rfl | rfl | rfl
  ·rw [c2]; rfl
  ·rw [c3]; rfl
  ·rw [c4]; rfl
  ·rw [c5]; rfl
  ·rw [c6]; rfl
 have hin := World.cell?_setCells_in S [.int .i64 kd, .int .i64 at_, .int .i64 len, .slice p k cp, .int .i64 v] 2 W hsm
 have htS : S ≠ 1 := fun e => by have := h.env.tab 0 (by decide); have h2 := h.env.src; rw [e] at h2; rw [h2] at this; cases this
 have hmS : S ≠ 2 := fun e => by have := h.max; have h2 := h.env.src; rw [e] at h2; rw [h2] at this; cases this
 refine ⟨⟨h.env.bytes, h.env.len, h.env.cap, h.env.small, ?_, ?_, fun j => ?_, Nat.lt_of_lt_of_le h.env.inH G.size, fun i hi => ?_, fun i hi => ?_⟩, ?_, kd, at_, len, _, _, hin 0 (by simp), hin 1 (by simp), hin 2 (by simp), hin 3 (by simp), hin 4 (by simp), h1, h2, rfl⟩
 ·rw [World.cell?_setCells_out S _ 2 W ⟨S, 0, none⟩ (fun _ _ => .inl (by simp))]; exact h.env.src
 ·rw [World.cell?_setCells_out S _ 2 W ⟨S, 1, none⟩ (fun _ _ => .inl (by simp))]; exact h.env.at1
 ·rw [World.frozen?_setCells]; exact h.env.fz j
 ·have hbS : b ≠ S := fun e => by have := h.env.row 0 (by omega); rw [e, h.env.src] at this; cases this
  rw [World.cell?_setCells_out S _ 2 W ⟨b, i, none⟩ (fun e _ => absurd e hbS)]; exact h.env.row i hi
 ·rw [World.cell?_setCells_out S _ 2 W ⟨1, i, none⟩ (fun e _ => absurd e.symm htS)]; exact h.env.tab i hi
 ·rw [World.cell?_setCells_out S _ 2 W ⟨2, 0, none⟩ (fun e _ => absurd e.symm hmS)]; exact h.max
theorem OwnS.grownS {W W' : World} {B S k cp : Nat} {p : Option Addr} {ys : List Int} (h : OwnS W B p k cp ys) (hS : S < B) (G : W.grownBy W' (some S)) : OwnS W' B p k cp ys := by
 obtain ⟨rfl, hr⟩ := h; refine ⟨rfl, hr.1, ?_⟩
 rcases hr.2 with h' | ⟨g, cap, cur, hv, hB, hg, r⟩
 ·exact .inl h'
 ·exact .inr ⟨g, cap, cur, hv, hB, (G.block g (Array.getElem?_eq_some_iff.1 hg).1 (by simp; omega)).trans hg, r⟩
def TksOut (J : List Tok → World → Prop) (r : LexR) (e : Ending) (W' : World) : Prop :=
 match r with
 | .ok ts => (∃ v, e = .returned v) ∧ J ts W'
 | .error (cd, q) => Faults cd q e ∧ ∃ ts, J ts W'
theorem tksOut_of {J : List Tok → World → Prop} {r r' : LexR} {e : Ending} {W' : World} (h : TksOut J r e W') (er : r' = r) : TksOut J r' e W' := er ▸ h
set_option maxHeartbeats 600000 in
theorem tokens_in (S b n c TB l nn : Nat) (xs : List Int) (m : Int) (g : Geo S b TB) (J : List Tok → World → Prop) (hJ : ∀ ts W W', J ts W → W.grownBy W' (some S) → J ts W')
  (hY : ∀ ts W0 W (kd : Int) (pos len : Nat) p k cp ys v, J ts W0 → ts.length ≤ 10000 → W0.grownBy W (some S) → S < W0.heap.size → OwnS W W0.heap.size p k cp ys →
    YieldAt Fence.wide (nn - 1) Tryz.prog l #[tokV kd pos len p k cp v] W fun e W' => e = .returned (.bool true) ∧ J (ts ++ [((kd, (pos : Int), (len : Int), v), ys)]) W' ∧ RK S TB W W')
  (W : World) (hS : SSt W S b n c xs m 0 (-1)) (h0 : J [] W) :
  CallsIn Fence.wide nn Tryz.prog 16 #[.pointer (some ⟨S, 0, none⟩), .func (.yield l) #[] #[]] W (TksOut J (lexI xs 0 (-1) [])) := by
 have HL := skipLayout_any S b n c 0 xs m W hS.env (Nat.zero_le _) hS.max; have hat := lex_at hS.env.bytes (-1) [] 0 (Nat.zero_le _)
 obtain ⟨R, eR⟩ : ∃ R, R = lexI xs 0 (-1) [] := ⟨_, rfl⟩
 rw [← eR] at hat ⊢; clear eR
 cases hA : layA xs 0 with
 | error q =>
   rw [hA] at HL hat; have HR : Hid (R = .error (2, q)) := hat.1; clear hat; refine callsIn_of_wp Tryz.func16 rfl trivial ?_ rfl; simp only [Tryz.ntmps16, List.size_toArray, List.length_cons, List.length_nil, Nat.reduceAdd, Nat.reduceSub, Array.replicate_succ, Array.replicate_zero, List.push_toArray, List.append_toArray, List.nil_append, List.cons_append]
   gi_wp2_with fail
   refine ⟨trivial, fun h => (by cases h), (callsIn_wide.2 HL).mono ?_⟩; rintro e w1 ⟨hfa, hgr⟩
   cases hfa
   refine ⟨rfl, tksOut_of ?_ HR.out⟩; exact ⟨rfl, [], hJ _ _ _ h0 hgr⟩
 | ok q =>
   rw [hA] at HL hat; have HR : Hid (R = lexI xs q (-1) [] ∧ 0 ≤ q ∧ q ≤ xs.length ∧ layI xs q = some 0) := hat; have HS0 : Hid (SSt W S b n c xs m 0 (-1)) := hS; have HJ0 : Hid (J [] W) := h0; have HJJ : Hid (∀ ts W W', J ts W → W.grownBy W' (some S) → J ts W') := hJ; have HYY : Hid _ := hY; have HG : Hid (Geo S b TB) := g; have hsm : n ≤ 10000 := hS.env.small; have HN : Hid (n = xs.length) := hS.env.len; have HBY : Hid (Bytes xs) := hS.env.bytes; clear hS h0 hJ hY g hat hA; refine callsIn_of_wp Tryz.func16 rfl trivial ?_ rfl; simp only [Tryz.ntmps16, List.size_toArray, List.length_cons, List.length_nil, Nat.reduceAdd, Nat.reduceSub, Array.replicate_succ, Array.replicate_zero, List.push_toArray, List.append_toArray, List.nil_append, List.cons_append]
   gi_wp2_with fail
   refine ⟨trivial, fun h => (by cases h), (callsIn_wide.2 HL).mono ?_⟩; rintro e w1 ⟨rfl, M1⟩; have HS1 : Hid (SSt w1 S b n c xs m q (-1)) := HS0.out.moved M1; have HJ1 : Hid (J [] w1) := HJJ.out _ _ _ HJ0.out M1.grown; clear M1 HL HS0 HJ0
   gi_wp2_with fail
   gi_loopw [] (fun wr => ∃ (pos : Nat) (a : Int) (ts : List Tok), pos ≤ 10000 ∧ Hid (pos ≤ xs.length ∧ ts.length ≤ pos ∧ layI xs pos = some 0 ∧ R = lexI xs pos a ts ∧ SSt wr S b n c xs m pos a ∧ J ts wr)) (fun wr => xs.length - placeOf wr S)
   case atStart => exact ⟨q, -1, [], by have := HR.out.2.2.1; have := HN.out; omega, ⟨HR.out.2.2.1, Nat.zero_le _, HR.out.2.2.2, HR.out.1, HS1.out, HJ1.out⟩⟩
   case round =>
    obtain ⟨pos, a, ts, hp0, HX⟩ := hrel; have hsrc := HX.out.2.2.2.2.1.env.src; have hat1 := HX.out.2.2.2.2.1.env.at1
    by_cases hlt : pos < n
    ·have hpx : pos < xs.length := by rw [← HN.out]; exact hlt
     obtain ⟨ka, la, ll, v5, v6, h2, h3, h4, h5, h6, hla, hll, ha⟩ := HX.out.2.2.2.2.1.last; have HST : Hid (SSt wr.drew S b n c xs m pos a) := HX.out.2.2.2.2.1.below (Below.refl _ _).drew; have HNX := nextS_any S b n c pos ka la ll xs wr.drew HST.out.env hpx h2 h3 h4 hla hll; rw [call_is ha] at HNX; have hstep := lexI_step HBY.out hpx a ts; rw [HX.out.2.2.1] at hstep; simp only [Nat.lt_irrefl, if_false] at hstep; have HJW : Hid (J ts wr.drew) := HJJ.out _ _ _ HX.out.2.2.2.2.2 (grown_of_below (Below.refl _ _).drew _); clear h2 h3 h4 h5 h6 hla hll ha
     cases hR : nextR xs (decide (a = pos)) pos with
     | error code =>
       rw [hR] at HNX hstep; have HRR : Hid (R = .error (code, pos)) := HX.out.2.2.2.1.trans hstep; clear hstep hR
       gi_wp2_with fail
       refine wpIn_wide.2 ?_
       go_region
       gi_wp2_with fail
       refine ⟨trivial, fun h => (by cases h), (callsIn_wide.2 HNX).mono ?_⟩; rintro e w2 ⟨hfa, hgr⟩
       cases hfa
       refine ⟨rfl, tksOut_of ?_ HRR.out⟩; exact ⟨rfl, ts, HJJ.out _ _ _ HJW.out hgr⟩
     | ok r =>
       obtain ⟨kd, len, ys, vv⟩ := r; rw [hR] at HNX hstep
       have HLE : Hid (1 ≤ len ∧ pos + len ≤ xs.length) := ⟨next_len HBY.out hpx hR, next_fit HBY.out hpx hR⟩
       have HRR : Hid (R = lexI xs (pos + len) (if kd = 1 then ((pos + len : Nat) : Int) else -1) (ts ++ [((kd, (pos : Int), (len : Int), vv), ys)])) := HX.out.2.2.2.1.trans hstep; clear hstep hR
       gi_wp2_with fail
       refine wpIn_wide.2 ?_
       go_region
       gi_wp2_with fail
       refine ⟨trivial, fun h => (by cases h), (callsIn_wide.2 HNX).mono ?_⟩; rintro e w2 ⟨p2, m2, c2, rfl, ho2, M2⟩; have HS2 : Hid (SSt w2 S b n c xs m (pos + len) a) := HST.out.moved M2; have HO2 : Hid (OwnS w2 wr.drew.heap.size p2 m2 c2 ys) := ho2; have HG2 : Hid (wr.drew.grownBy w2 (some S)) := M2.grown; obtain ⟨ka, la, ll, v5, v6, d2, d3, d4, d5, d6, _, _, _⟩ := HS2.out.last; have z2 := HS2.out.env.fz 2; have z3 := HS2.out.env.fz 3; have z4 := HS2.out.env.fz 4; have z5 := HS2.out.env.fz 5; have z6 := HS2.out.env.fz 6; have hSw : S < wr.heap.size := HST.out.env.inH; have HS3 : Hid _ := HS2.out.set kd pos len vv p2 m2 c2 (by omega) (by have := HLE.out; have := HN.out; omega); have HY2 := HYY.out ts wr.drew (w2.setCells S 2 [.int .i64 kd, .int .i64 pos, .int .i64 len, .slice p2 m2 c2, .int .i64 vv]) kd pos len p2 m2 c2 ys vv HJW.out (by have := HX.out.2.1; omega) (HG2.out.trans (grown_last _ _ _ _ _ _ _)) hSw (HO2.out.grownS hSw (grown_last _ _ _ _ _ _ _))
       obtain ⟨fn, tmps, assign, body, hy, hRd⟩ := HY2; have HRd : Hid _ := hRd; simp only [World.setCells, Nat.reduceAdd] at hy; clear ho2 M2 HNX hsrc hat1 hRd hSw
       gi_wp2_with fail
       refine ⟨fun h => (by cases h), RoundIn.mono HRd.out ?_⟩; rintro e w4 ⟨rfl, hj4, hk4⟩; have HJ4 : Hid (J (ts ++ [((kd, (pos : Int), (len : Int), vv), ys)]) w4) := hj4; have HS4 : Hid _ := HS3.out.kept HG.out hk4; have HL4 := skipLayout_any S b n c (pos + len) xs m w4 HS4.out.env HLE.out.2 HS4.out.max; have hat4 := lex_at HBY.out (if kd = 1 then ((pos + len : Nat) : Int) else -1) (ts ++ [((kd, (pos : Int), (len : Int), vv), ys)]) (pos + len) HLE.out.2; rw [← HRR.out] at hat4; clear hj4 hk4 hy d2 d3 d4 d5 d6 z2 z3 z4 z5 z6 HRd
       cases hA4 : layA xs (pos + len) with
       | error q4 =>
         rw [hA4] at HL4 hat4; have HR4 : Hid (R = .error (2, q4)) := hat4.1; clear hat4 hA4
         gi_wp2_with fail
         refine ⟨trivial, fun h => (by cases h), (callsIn_wide.2 HL4).mono ?_⟩; rintro e w5 ⟨hfa, hgr⟩
         cases hfa
         refine ⟨rfl, tksOut_of ?_ HR4.out⟩; exact ⟨rfl, _, HJJ.out _ _ _ HJ4.out hgr⟩
       | ok q4 =>
         rw [hA4] at HL4 hat4; have HR4 : Hid (R = lexI xs q4 (if kd = 1 then ((pos + len : Nat) : Int) else -1) (ts ++ [((kd, (pos : Int), (len : Int), vv), ys)]) ∧ pos + len ≤ q4 ∧ q4 ≤ xs.length ∧ layI xs q4 = some 0) := hat4; clear hat4 hA4
         gi_wp2_with fail
         refine ⟨trivial, fun h => (by cases h), (callsIn_wide.2 HL4).mono ?_⟩; rintro e w5 ⟨rfl, M5⟩; have HS5 : Hid _ := HS4.out.moved M5; have HJ5 : Hid _ := HJJ.out _ _ _ HJ4.out M5.grown; have HP5 : Hid (placeOf w5 S = q4) := placeOf_at M5.at1; clear M5 HL4
         gi_wp2_with fail
         go_roundw
         case rel =>
          refine ⟨q4, if kd = 1 then (pos : Int) + (len : Int) else -1, ts ++ [((kd, (pos : Int), (len : Int), vv), ys)], by have := HR4.out.2.2.1; have := HN.out; omega, ⟨HR4.out.2.2.1, ?_, HR4.out.2.2.2, ?_, HS5.out, HJ5.out⟩⟩
          ·have h1 := HX.out.2.1
           have h2 := HLE.out.1; have h3 := HR4.out.2.1; simp only [List.length_append, List.length_singleton]; omega
          ·have := HR4.out.1
           rwa [Int.natCast_add] at this
         case measure =>
          have h1 := HP5.out; have h2 := placeOf_at (S := S) HX.out.2.2.2.2.1.env.at1; have h3 := HR4.out.2.1; have h4 := HLE.out.1
          show xs.length - placeOf w5 S < xs.length - placeOf wr S
          rw [h1, h2]
          omega
    ·have HRR : Hid (R = .ok ts) := by show _ = _; rw [HX.out.2.2.2.1]; exact lexI_end (by rw [← HN.out]; omega) a ts
     have HJX : Hid (J ts wr.drew) := HJJ.out _ _ _ HX.out.2.2.2.2.2 (grown_of_below (Below.refl _ _).drew _)
     gi_wp2_with fail
     refine wpIn_wide.2 ?_
     go_region
     gi_wp2_with fail
     go_end0
     refine tksOut_of ?_ HRR.out; exact ⟨⟨_, rfl⟩, HJX.out⟩
end
section
open Go Go.RowKit
section
variable {P : Program} {ops : Array Oper} {Q : Exit → Act → World → Prop} {n k : Nat}
theorem upon_more {o : Oper} {a : Act} {K K' : Act → World → Prop} {r : Result Next} (hK : ∀ a w, K a w → K' a w) (h : o.upon P a K Q r) : o.upon P a K' Q r := by
 cases r with
 | ok x w' =>
   cases x <;> simp only [Oper.upon] at h ⊢ <;>
    first
     | exact hK _ _ h
     | exact Calls.mono h (fun e w'' h' => by cases e <;> first | exact hK _ _ h' | exact h')
     | exact Rows.mono h (fun v w'' h' => hK _ _ h')
     | exact h
 | halt x w' => cases x <;> simp only [Oper.upon] at h ⊢ <;> exact h
theorem wpOpsIn_of (hd : noDefer ops = true) (hQ : ¬ LetsOut Q) : ∀ (l : List Nat) (a : Act) (w : World), wpOps P ops Q l a w → wpOpsIn (Fence.wide.inRound k) n P ops Q l a w
 | [], a, w, h => h
 | i :: rest, a, w, h => by
   unfold wpOps at h
   unfold wpOpsIn
   cases hi : ops[i]? with
   | none =>
     simp only [hi] at h ⊢; exact wpOpsIn_of hd hQ rest a w h
   | some o =>
     simp only [hi] at h ⊢
     split
     ·rename_i hw
      simp only [hw, if_true] at h
      rcases h with h | h
      ·refine ⟨fun _ _ => trivial, ?_⟩
       have e : o.semAt (Fence.wide.inRound k).round a.eval = execOp a.eval o := Oper.semAt_some k _ _ (noDefer_spec hd hi); rw [e]; exact upon_wide (upon_more (fun a' w' h' => wpOpsIn_of hd hQ rest a' w' h') h)
      ·exact absurd h.2 hQ
     ·rename_i hw
      refine ⟨fun _ _ => trivial, wpOpsIn_of hd hQ rest _ _ ?_⟩
      simpa [hw] using h
theorem wpIn_region_round {id : Nat} {a : Act} {w : World} (hd : noDefer ops = true) (h : wpList P ops (fun e a w => e = .normal ∧ Q .normal a w) ops.toList a w) : (Code.region id ops false).wpIn (Fence.wide.inRound k) n P Q a w := by
 have h2 : wpOps P ops (fun e a w => e = .normal ∧ Q .normal a w) (List.range ops.size) a w := by rw [List.range_eq_range', ← Array.length_toList, wpOps_eq_wpList ops.toList 0 (by simp)]; exact h
 have h3 : wpOpsIn (Fence.wide.inRound k) n P ops (fun e a w => e = .normal ∧ Q .normal a w) (List.range ops.size) a w := wpOpsIn_of hd (fun h => by simp [LetsOut] at h) _ _ _ h2; exact wpIn_mono (wpIn_region h3) (fun e a w h => h.1 ▸ h.2)
end
theorem OwnT.grownS {W W' : World} {B S tn tc : Nat} {tp : Option Addr} {t : List Int} (h : OwnT W B tp tn tc t) (hS : S < B) (G : W.grownBy W' (some S)) : OwnT W' B tp tn tc t := by
 refine ⟨h.1, fun hn => ?_⟩; obtain ⟨g, e, hB, hx, hc⟩ := h.2 hn; refine ⟨g, e, hB, Nat.lt_of_lt_of_le hx G.size, fun i hi => ?_⟩; have hblk : W'.heap[g]? = W.heap[g]? := G.block g (World.block_lt_of_cell? _ _ (hc i hi).1) (by simp; omega); exact ⟨(World.cell?_of_block (a := ⟨g, i, none⟩) hblk).trans (hc i hi).1, by rw [← (hc i hi).2]; simp only [World.frozen?, hblk]⟩
theorem OwnK.grownS {W W' : World} {B S k cp : Nat} {p : Option Addr} {ts : List Tok} (h : OwnK W B p k cp ts) (hS : S < B) (G : W.grownBy W' (some S)) : OwnK W' B p k cp ts := by
 obtain ⟨rfl, rs, hl, hr, hf, ha⟩ := h; refine ⟨rfl, rs, hl, ⟨hr.1, ?_⟩, fun i hi => ⟨(hf i hi).1, (hf i hi).2.grownS hS G⟩, ha⟩
 rcases hr.2 with h' | ⟨g, cap, cur, hv, hB, hg, r⟩
 ·exact .inl h'
 ·exact .inr ⟨g, cap, cur, hv, hB, (G.block g (Array.getElem?_eq_some_iff.1 hg).1 (by simp; omega)).trans hg, r⟩
end
end Go.Proofs.YtfgmenkoeflhaaaGreatDoor
