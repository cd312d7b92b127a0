/- skipLayout. Own work of the verifier. -/
import Derived.Test.YtfhelmhcmfpedaaDoorScan12
namespace Go.Proofs.YtfhelmhcmfpedaaDoor
open Go Go.RowKit Go.Shelf
set_option linter.unusedVariables false

theorem runLen_ge_one {p : Int → Bool} {ys : List Int} (h : ys ≠ []) (h1 : p (ys.getD 0 0) = true) : 1 ≤ runLen p ys := by
  cases ys with
  | nil => exact absurd rfl h
  | cons y r =>
    have h2 : p y = true := by simpa using h1
    show 1 ≤ (if p y = true then runLen p r + 1 else 0)
    rw [if_pos h2]; omega
theorem line_pos {xs : List Int} {p : Nat} (h : byteI xs p = 37) : 1 ≤ lineI xs p := by
  have hp : p < xs.length := by
    rcases Nat.lt_or_ge p xs.length with h' | h'
    · exact h'
    · rw [byteI_ge h'] at h; omega
  rw [byteI_lt hp] at h
  refine runLen_ge_one (fun e => ?_) ?_
  · have := List.drop_eq_nil_iff.1 e; omega
  · have : (xs.drop p).getD 0 0 = 37 := by simpa [List.getD, List.getElem?_drop] using h
    rw [this]; rfl
theorem line_le (xs : List Int) (p : Nat) (hp : p ≤ xs.length) : p + lineI xs p ≤ xs.length := by
  have := runLen_le (fun c => c != 10) (xs.drop p)
  unfold lineI
  simp at this
  omega
/-- Where the next token stands; or where a comment begins that has no end. -/
def layF (xs : List Int) : Nat → Nat → Except Nat Nat
  | 0, pos => .ok pos
  | f + 1, pos => match layI xs pos with
    | none => .error pos
    | some k => if 0 < k then layF xs f (pos + k) else .ok pos
def layA (xs : List Int) (pos : Nat) : Except Nat Nat := layF xs (xs.length + 1 - pos) pos
theorem layI_rng {xs : List Int} {p k : Nat} (hp : p ≤ xs.length) (h : layI xs p = some k) : p + k ≤ xs.length := by
  unfold layI at h
  have hin : byteI xs p ≠ -1 → p < xs.length := fun h9 => by
    rcases Nat.lt_or_ge p xs.length with h' | h'
    · exact h'
    · exact absurd (byteI_ge h') h9
  split at h
  · rename_i hh
    cases h
    exact hin hh.2.1
  · split at h
    · cases h
      exact line_le xs p hp
    · split at h
      · split at h
        · cases h
        · rename_i j hj
          cases h
          have := blk_rng _ _ _ hj
          omega
      · cases h; omega
theorem layF_more {xs : List Int} : ∀ (f p : Nat), p ≤ xs.length → xs.length + 1 ≤ p + f → ∀ g, layF xs (f + g) p = layF xs f p
  | 0, p, hp, hf, g => by omega
  | f + 1, p, hp, hf, g => by
    rw [show f + 1 + g = (f + g) + 1 by omega]
    show (match layI xs p with | none => _ | some k => if 0 < k then layF xs (f + g) (p + k) else _) = (match layI xs p with | none => _ | some k => if 0 < k then layF xs f (p + k) else _)
    cases hl : layI xs p with
    | none => rfl
    | some k =>
      simp only
      by_cases hk : 0 < k
      · rw [if_pos hk, if_pos hk]
        exact layF_more f (p + k) (layI_rng hp hl) (by omega) g
      · rw [if_neg hk, if_neg hk]
theorem layA_step {xs : List Int} {p : Nat} (hp : p ≤ xs.length) : layA xs p = match layI xs p with
    | none => .error p
    | some k => if 0 < k then layA xs (p + k) else .ok p := by
  unfold layA
  rw [show xs.length + 1 - p = (xs.length - p) + 1 by omega]
  show (match layI xs p with | none => _ | some k => if 0 < k then layF xs (xs.length - p) (p + k) else _) = _
  cases hl : layI xs p with
  | none => rfl
  | some k =>
    simp only
    by_cases hk : 0 < k
    · rw [if_pos hk, if_pos hk]
      have hr := layI_rng hp hl
      have := layF_more (xs := xs) (xs.length + 1 - (p + k)) (p + k) hr (by omega) (k - 1)
      rw [← this]
      congr 1
      omega
    · rw [if_neg hk, if_neg hk]

def LayOut (w : World) (S : Nat) (r : Except Nat Nat) (e : Ending) (w' : World) : Prop :=
  match r with
  | .error q => Faults 2 q e ∧ w.grownBy w' (some S)
  | .ok q => e = .returned (.tuple #[]) ∧ Moved w w' S q
theorem layOut_of {w w' : World} {S : Nat} {e : Ending} {r r' : Except Nat Nat} (h : LayOut w S r e w') (er : r' = r) : LayOut w S r' e w' := er ▸ h
def placeOf (w : World) (S : Nat) : Nat := match w.cell? ⟨S, 1, none⟩ with
  | some (.int _ i) => i.toNat
  | _ => 0
theorem placeOf_at {w : World} {S p : Nat} (h : w.cell? ⟨S, 1, none⟩ = some (.int .i64 p)) : placeOf w S = p := by unfold placeOf; rw [h]; simp
theorem max_kept {w w' : World} {S b n c pos q : Nat} {xs : List Int} {m : Int} (E : Env w S b n c pos xs) (M : Moved w w' S q) (h : w.cell? ⟨2, 0, none⟩ = some (.int .i64 m)) : w'.cell? ⟨2, 0, none⟩ = some (.int .i64 m) := by
  have hS : 2 ≠ S := fun e => by have h2 := E.src; rw [← e, h] at h2; cases h2
  rw [World.cell?_of_block (w := w) (M.grown.block _ (World.block_lt_of_cell? _ _ h) (by simpa using hS))]
  exact h

set_option maxRecDepth 100000 in
set_option maxHeartbeats 4000000 in
theorem skipLayout_any (S b n c pos : Nat) (xs : List Int) (m : Int) (w : World) (E : Env w S b n c pos xs) (hp : pos ≤ xs.length) (hM : w.cell? ⟨2, 0, none⟩ = some (.int .i64 m)) :
    Calls Tryd.prog 42 #[.pointer (some ⟨S, 0, none⟩)] w (LayOut w S (layA xs pos)) := by
  have HE : Hid (Env w S b n c pos xs) := E
  have HMX : Hid (w.cell? ⟨2, 0, none⟩ = some (.int .i64 m)) := hM
  have HP : Hid (pos ≤ xs.length) := hp
  have hsm := E.small
  have HLN : Hid (n = xs.length) := E.len
  have HM0 : Hid (Moved w w S pos) := Moved.of_below (Below.refl _ _) E.inH E.at1
  clear E hM hp
  go_enter Tryd.func42, Tryd.ntmps42
  go_wp2
  go_loopw [] (fun wr => ∃ p : Nat, p ≤ n ∧ Hid (Moved w wr S p) ∧ Hid (layA xs pos = layA xs p)) (fun wr => 20000 - placeOf wr S)
  case atStart => exact ⟨pos, by rw [HLN.out]; exact HP.out, HM0, rfl⟩
  case round =>
    obtain ⟨p, hpn, HM, HT⟩ := hrel
    have HV : Hid (Env wr S b n c p xs) := HE.out.moved HM.out
    have HMW := max_kept HE.out HM.out HMX.out
    have HPL : Hid (placeOf wr S = p) := placeOf_at HM.out.at1
    have hp1 : p ≤ xs.length := by rw [← HLN.out]; exact hpn
    have hpm : p ≤ 10000 := by omega
    have hr := byteI_rng HV.out.bytes p
    have hr2 := byteI_rng HV.out.bytes (p + 1)
    have H16 := isOf16 hr.1 hr.2
    have HST := layA_step hp1
    have h1 := HV.out.at1
    have hf := HV.out.fz 1
    have HSL : Hid (p < xs.length → _) := skipLine_any S b n c p xs wr HV.out
    have HSB : Hid (p + 2 ≤ xs.length → _) := fun h => skipBlock_any S b n c p xs m wr HV.out h HMW
    have hlay : layI xs p = if endsI (byteI xs p) = true ∧ byteI xs p ≠ -1 ∧ byteI xs p ≠ 37 then some 1
        else if byteI xs p = 37 then some (lineI xs p)
        else if byteI xs p = 47 ∧ byteI xs (p + 1) = 42 then (match blkI xs (p + 2) with | none => none | some j => some (j + 2 - p))
        else some 0 := rfl
    have hin : byteI xs p ≠ -1 → p < xs.length := fun h9 => by
      rcases Nat.lt_or_ge p xs.length with h' | h'
      · exact h'
      · exact absurd (byteI_ge h') h9
    have hin2 : byteI xs (p + 1) ≠ -1 → p + 2 ≤ xs.length := fun h9 => by
      rcases Nat.lt_or_ge (p + 1) xs.length with h' | h'
      · exact h'
      · exact absurd (byteI_ge h') h9
    have HLP : Hid (byteI xs p = 37 → 1 ≤ lineI xs p) := line_pos
    have HLL : Hid (p + lineI xs p ≤ xs.length) := line_le xs p hp1
    obtain ⟨x, ex⟩ : ∃ x, x = byteI xs p := ⟨_, rfl⟩
    obtain ⟨y, ey⟩ : ∃ y, y = byteI xs (p + 1) := ⟨_, rfl⟩
    rw [← ex] at hlay hin hr H16 HLP
    rw [← ey] at hlay hin2 hr2
    have HX : Hid (byteI xs p = x) := ex.symm
    have HY : Hid (byteI xs (p + 1) = y) := ey.symm
    have HI16 : Hid (isOfB x 16 = _) := H16
    have tok0 : True := trivial
    have tok1 : True := trivial
    clear ex ey H16
    by_cases t0 : x = 32 ∨ x = 9 ∨ x = 10 ∨ x = 13
    · have hends : endsI x = true := by unfold endsI; simp only [decide_eq_true_iff]; omega
      rw [if_pos ⟨hends, by omega, by omega⟩] at hlay
      rw [hlay] at HST
      have HG : Hid (layA xs pos = layA xs (p + 1)) := by show _ = _; rw [HT.out, HST]; rfl
      have hpn1 : p + 1 ≤ n := by rw [HLN.out]; exact hin (by omega)
      have HI16 : Hid (isOfB x 16 = true) := by show _ = _; rw [HI16.out]; simpa using t0
      have HMV : Hid (∀ q : Nat, Hid (Moved wr (wr.setCell ⟨S, 1, none⟩ (.int .i64 (q : Nat))) S q)) := fun q => Moved.set p q h1
      clear hends hlay HST HT hin hin2 HSL HSB HLP HLL t0 HY hp1
      go_wp2_with (first | (go_at_call 52; have _t := tok0; refine (byteAt_any S b n c xs p _ (HV.out).bytes (HV.out).len (by have := (HV.out).small; omega) (by omega) (HV.out).src (HV.out).row).mono ?_; rintro e w' ⟨rfl, rfl⟩; rw [HX.out]; clear tok0) | (go_at_call 21; refine (isOf_any _ _ _ (by omega) (by omega) HV.out.tab).mono ?_; rintro e w' ⟨rfl, rfl⟩; rw [HI16.out]))
      go_roundw
      case rel => exact ⟨p + 1, hpn1, HM.out.trans (by have := (HMV.out (p + 1)).out; simpa using this), HG⟩
      case measure =>
        have := placeOf_at (HMV.out (p + 1)).out.at1
        have e9 : ((p + 1 : Nat) : Int) = (p : Int) + 1 := by simp
        rw [e9] at this
        rw [this, HPL.out]; omega
    have HI16 : Hid (isOfB x 16 = false) := by show _ = _; rw [HI16.out]; simpa using t0
    have hne : ¬ (endsI x = true ∧ x ≠ -1 ∧ x ≠ 37) := fun ⟨h, h2, h3⟩ => by unfold endsI at h; simp only [decide_eq_true_iff] at h; omega
    rw [if_neg hne] at hlay
    clear hne t0
    by_cases t1 : x = 37
    · rw [if_pos t1] at hlay
      have hlp := HLP.out t1
      have hll := HLL.out
      have HL := HSL.out (hin (by omega))
      obtain ⟨k, ek⟩ : ∃ k, k = lineI xs p := ⟨_, rfl⟩
      rw [← ek] at hlay hlp hll HL
      rw [hlay] at HST
      have HG : Hid (layA xs pos = layA xs (p + k)) := by show _ = _; rw [HT.out, HST]; simp only; rw [if_pos (by omega)]
      have HPK : Hid (p + k ≤ n) := by rw [HLN.out]; exact hll
      subst t1
      clear hlay HST HT hin hin2 HSL HSB HLP HLL HY hp1 ek
      go_wp2_with (first | (go_at_call 52; have _t := tok0; refine (byteAt_any S b n c xs p _ (HV.out).bytes (HV.out).len (by have := (HV.out).small; omega) (by omega) (HV.out).src (HV.out).row).mono ?_; rintro e w' ⟨rfl, rfl⟩; rw [HX.out]; clear tok0) | (go_at_call 21; refine (isOf_any _ _ _ (by omega) (by omega) HV.out.tab).mono ?_; rintro e w' ⟨rfl, rfl⟩; rw [HI16.out]) | (go_at_call 53; refine HL.mono ?_; rintro e w1 ⟨rfl, M1⟩))
      go_roundw
      case rel => exact ⟨p + k, HPK.out, HM.out.trans M1, HG⟩
      case measure =>
        have hpk := HPK.out
        rw [placeOf_at M1.at1, HPL.out]; omega
    rw [if_neg t1] at hlay
    have s1 : (x == 37) = false := by simpa using t1
    by_cases t2 : x = 47
    · by_cases t3 : y = 42
      · rw [if_pos ⟨t2, t3⟩] at hlay
        have h2 := hin2 (by omega)
        have HB := HSB.out h2
        cases hblk : blkI xs (p + 2) with
        | none =>
          rw [hblk] at hlay HB
          rw [hlay] at HST
          have HG : Hid (layA xs pos = .error p) := by show _ = _; rw [HT.out, HST]
          subst t2
          subst t3
          clear hlay HST HT hin hin2 HSL HSB HLP HLL hp1 hblk t1 s1
          go_wp2_with (first | (go_at_call 52; have _t := tok0; refine (byteAt_any S b n c xs p _ (HV.out).bytes (HV.out).len (by have := (HV.out).small; omega) (by omega) (HV.out).src (HV.out).row).mono ?_; rintro e w' ⟨rfl, rfl⟩; rw [HX.out]; clear tok0) | (go_at_call 52; have _t := tok1; refine (byteAt_any S b n c xs (p + 1) _ (HV.out).bytes (HV.out).len (by have := (HV.out).small; omega) (by omega) (HV.out).src (HV.out).row).mono ?_; rintro e w' ⟨rfl, rfl⟩; rw [HY.out]; clear tok1) | (go_at_call 21; refine (isOf_any _ _ _ (by omega) (by omega) HV.out.tab).mono ?_; rintro e w' ⟨rfl, rfl⟩; rw [HI16.out]) | (go_at_call 54; refine HB.mono ?_; rintro e w1 ⟨rfl, hg1⟩))
          refine ⟨rfl, ?_⟩
          exact layOut_of (r := .error p) ⟨rfl, HM.out.grown.trans hg1⟩ HG.out
        | some j =>
          have hrg := blk_rng _ _ _ hblk
          rw [hblk] at hlay HB
          simp only at hlay
          rw [hlay] at HST
          have HG : Hid (layA xs pos = layA xs (j + 2)) := by show _ = _; rw [HT.out, HST]; simp only; rw [if_pos (by omega), show p + (j + 2 - p) = j + 2 by omega]
          have HPK : Hid (j + 2 ≤ n ∧ p < j + 2) := by rw [HLN.out]; exact ⟨by omega, by omega⟩
          subst t2
          subst t3
          clear hlay HST HT hin hin2 HSL HSB HLP HLL hp1 hblk t1 s1 hrg
          go_wp2_with (first | (go_at_call 52; have _t := tok0; refine (byteAt_any S b n c xs p _ (HV.out).bytes (HV.out).len (by have := (HV.out).small; omega) (by omega) (HV.out).src (HV.out).row).mono ?_; rintro e w' ⟨rfl, rfl⟩; rw [HX.out]; clear tok0) | (go_at_call 52; have _t := tok1; refine (byteAt_any S b n c xs (p + 1) _ (HV.out).bytes (HV.out).len (by have := (HV.out).small; omega) (by omega) (HV.out).src (HV.out).row).mono ?_; rintro e w' ⟨rfl, rfl⟩; rw [HY.out]; clear tok1) | (go_at_call 21; refine (isOf_any _ _ _ (by omega) (by omega) HV.out.tab).mono ?_; rintro e w' ⟨rfl, rfl⟩; rw [HI16.out]) | (go_at_call 54; refine HB.mono ?_; rintro e w1 ⟨rfl, M1⟩))
          go_roundw
          case rel => exact ⟨j + 2, HPK.out.1, HM.out.trans M1, HG⟩
          case measure =>
            have hpk := HPK.out
            rw [placeOf_at M1.at1, HPL.out]; omega
      · rw [if_neg (fun h => t3 h.2)] at hlay
        rw [hlay] at HST
        have HG : Hid (layA xs pos = .ok p) := by show _ = _; rw [HT.out, HST]; rfl
        have s3 : (y == 42) = false := by simpa using t3
        subst t2
        clear hlay HST HT hin hin2 HSL HSB HLP HLL hp1 t1 s1 t3
        go_wp2_with (first | (go_at_call 52; have _t := tok0; refine (byteAt_any S b n c xs p _ (HV.out).bytes (HV.out).len (by have := (HV.out).small; omega) (by omega) (HV.out).src (HV.out).row).mono ?_; rintro e w' ⟨rfl, rfl⟩; rw [HX.out]; clear tok0) | (go_at_call 52; have _t := tok1; refine (byteAt_any S b n c xs (p + 1) _ (HV.out).bytes (HV.out).len (by have := (HV.out).small; omega) (by omega) (HV.out).src (HV.out).row).mono ?_; rintro e w' ⟨rfl, rfl⟩; rw [HY.out]; clear tok1) | (go_at_call 21; refine (isOf_any _ _ _ (by omega) (by omega) HV.out.tab).mono ?_; rintro e w' ⟨rfl, rfl⟩; rw [HI16.out]))
        refine bodyPost_end (v := .tuple #[]) (by simp [results, Tryd.results42, go_sem]) rfl (layOut_of (r := .ok p) ⟨rfl, HM.out⟩ HG.out)
    · rw [if_neg (fun h => t2 h.1)] at hlay
      rw [hlay] at HST
      have HG : Hid (layA xs pos = .ok p) := by show _ = _; rw [HT.out, HST]; rfl
      have s2 : (x == 47) = false := by simpa using t2
      clear hlay HST HT hin hin2 HSL HSB HLP HLL hp1 t1 t2
      go_wp2_with (first | (go_at_call 52; have _t := tok0; refine (byteAt_any S b n c xs p _ (HV.out).bytes (HV.out).len (by have := (HV.out).small; omega) (by omega) (HV.out).src (HV.out).row).mono ?_; rintro e w' ⟨rfl, rfl⟩; rw [HX.out]; clear tok0) | (go_at_call 21; refine (isOf_any _ _ _ (by omega) (by omega) HV.out.tab).mono ?_; rintro e w' ⟨rfl, rfl⟩; rw [HI16.out]))
      refine bodyPost_end (v := .tuple #[]) (by simp [results, Tryd.results42, go_sem]) rfl (layOut_of (r := .ok p) ⟨rfl, HM.out⟩ HG.out)

end Go.Proofs.YtfhelmhcmfpedaaDoor
