/- The arithmetic of evaluating. Own work of the verifier. -/
import Derived.Test.YtpcmfdbcjegbcaaGreatDoorPre
namespace Go.Proofs.YtpcmfdbcjegbcaaGreatDoor
open Go Go.RowKit
set_option linter.unusedVariables false

/-- Within the bounds. -/
def InB (v : Int) : Prop := -1000000000000000 ≤ v ∧ v ≤ 1000000000000000
instance (v : Int) : Decidable (InB v) := inferInstanceAs (Decidable (_ ∧ _))
/-- v' stands for v: it is v, or both are beyond the bounds. -/
def Sat (v' v : Int) : Prop := (InB v ∧ v' = v) ∨ (¬ InB v ∧ ¬ InB v' ∧ -4000000000000000 ≤ v' ∧ v' ≤ 4000000000000000)
theorem bits_wrap (r : BitVec 64) : IntKind.i64.wrap (r.toNat : Int) = r.toInt := by
  rw [IntKind.wrap_i64, BitVec.toInt_eq_toNat_cond]
  have h := r.isLt
  simp only [Nat.reducePow] at h ⊢
  split <;> omega
theorem near_of {a : BitVec 64} (h : a.sshiftRight 50 = 0#64 ∨ a.sshiftRight 50 = BitVec.allOnes 64) : -1125899906842624 ≤ a.toInt ∧ a.toInt < 1125899906842624 := by
  have ht := BitVec.toInt_sshiftRight (x := a) (n := 50)
  rw [Int.shiftRight_eq_div_pow] at ht
  rcases h with h | h
  · rw [h] at ht
    have e : (0#64 : BitVec 64).toInt = 0 := by decide
    rw [e] at ht
    have : ((2 ^ 50 : Nat) : Int) = 1125899906842624 := by decide
    rw [this] at ht
    omega
  · rw [h] at ht
    have e : (BitVec.allOnes 64).toInt = -1 := by decide
    rw [e] at ht
    have : ((2 ^ 50 : Nat) : Int) = 1125899906842624 := by decide
    rw [this] at ht
    omega
theorem near_to {x : Int} (h : InB x) : (BitVec.ofInt 64 x).sshiftRight 50 = 0#64 ∨ (BitVec.ofInt 64 x).sshiftRight 50 = BitVec.allOnes 64 := by
  have ht := BitVec.toInt_sshiftRight (x := BitVec.ofInt 64 x) (n := 50)
  have hx : (BitVec.ofInt 64 x).toInt = x := by
    rw [BitVec.toInt_ofInt]
    unfold InB at h
    unfold Int.bmod
    simp only [Nat.reducePow]
    split <;> omega
  rw [hx, Int.shiftRight_eq_div_pow] at ht
  have hp : ((2 ^ 50 : Nat) : Int) = 1125899906842624 := by decide
  rw [hp] at ht
  unfold InB at h
  by_cases h0 : 0 ≤ x
  · left
    apply BitVec.eq_of_toInt_eq
    rw [ht, show (0#64 : BitVec 64).toInt = 0 by decide]
    omega
  · right
    apply BitVec.eq_of_toInt_eq
    rw [ht, show (BitVec.allOnes 64).toInt = -1 by decide]
    omega
def near (v : Int) : Prop := -1125899906842624 ≤ v ∧ v < 1125899906842624
theorem bits_and_near {x y : Int} (hx : InB x) (hy : InB y) : near (bits .and .i64 x y) := by
  show near (IntKind.i64.wrap ((BitVec.ofInt 64 x &&& BitVec.ofInt 64 y).toNat : Int))
  rw [bits_wrap]
  apply near_of
  rw [BitVec.sshiftRight_and_distrib]
  rcases near_to hx with h | h <;> rcases near_to hy with h' | h' <;> rw [h, h'] <;> decide
theorem bits_or_near {x y : Int} (hx : InB x) (hy : InB y) : near (bits .or .i64 x y) := by
  show near (IntKind.i64.wrap ((BitVec.ofInt 64 x ||| BitVec.ofInt 64 y).toNat : Int))
  rw [bits_wrap]
  apply near_of
  rw [BitVec.sshiftRight_or_distrib]
  rcases near_to hx with h | h <;> rcases near_to hy with h' | h' <;> rw [h, h'] <;> decide
theorem bits_xor_near {x y : Int} (hx : InB x) (hy : InB y) : near (bits .xor .i64 x y) := by
  show near (IntKind.i64.wrap ((BitVec.ofInt 64 x ^^^ BitVec.ofInt 64 y).toNat : Int))
  rw [bits_wrap]
  apply near_of
  rw [BitVec.sshiftRight_xor_distrib]
  rcases near_to hx with h | h <;> rcases near_to hy with h' | h' <;> rw [h, h'] <;> decide
theorem bits_not {x : Int} (hx : InB x) : bits .xor .i64 (-1) x = -x - 1 := by
  show IntKind.i64.wrap ((BitVec.ofInt 64 (-1) ^^^ BitVec.ofInt 64 x).toNat : Int) = _
  rw [bits_wrap, show BitVec.ofInt 64 (-1) = BitVec.allOnes 64 by decide, BitVec.allOnes_xor, BitVec.toInt_not, BitVec.toNat_ofInt]
  unfold InB at hx
  unfold Int.bmod
  simp only [Nat.reducePow]
  split <;> omega
theorem inB_abs (v : Int) : InB v ↔ v.natAbs ≤ 1000000000000000 := by unfold InB; omega
theorem inB_mul (a b : Int) : InB (a * b) ↔ a.natAbs * b.natAbs ≤ 1000000000000000 := by rw [inB_abs, Int.natAbs_mul]
/-- How product looks ahead. -/
theorem prod_ahead {a b : Int} (h0 : a ≠ 0) : ((1000000000000000 : Int) / (a.natAbs : Int) < (b.natAbs : Int)) ↔ ¬ InB (a * b) := by
  have hp : 0 < a.natAbs := by omega
  rw [inB_mul, show (1000000000000000 : Int) / (a.natAbs : Int) = ((1000000000000000 / a.natAbs : Nat) : Int) by rfl]
  have := Nat.le_div_iff_mul_le (x := b.natAbs) (y := 1000000000000000) hp
  rw [Nat.mul_comm] at this
  omega
/-- How l6times looks back. -/
theorem times_back {a b p : Int} (hb : b ≠ 0) (hp : p = IntKind.i64.wrap (a * b)) : (p.tdiv b ≠ a ∨ ¬ InB p) ↔ ¬ InB (a * b) := by
  constructor
  · intro h hin
    have e : p = a * b := by
      rw [hp, IntKind.wrap_i64]
      unfold InB at hin
      omega
    rcases h with h | h
    · rw [e, Int.mul_tdiv_cancel _ hb] at h
      exact h rfl
    · rw [e] at h
      exact h hin
  · intro h
    by_cases hq : p.tdiv b = a
    · right
      intro hin
      apply h
      rw [inB_mul, ← hq, Int.natAbs_tdiv]
      rw [inB_abs] at hin
      exact Nat.le_trans (Nat.div_mul_le_self _ _) hin
    · exact .inl hq
theorem pow_abs (x : Int) (n : Nat) : (x ^ n).natAbs = x.natAbs ^ n := Int.natAbs_pow x n
theorem pow_grows {x : Int} (hx : 2 ≤ x.natAbs) {i j : Nat} (h : i ≤ j) (hi : ¬ InB (x ^ i)) : ¬ InB (x ^ j) := by
  rw [inB_abs, pow_abs] at hi ⊢
  have := Nat.pow_le_pow_right (n := x.natAbs) (by omega) h
  omega
theorem pow_one_abs {x : Int} (hx : x.natAbs = 1) (y : Nat) : x ^ y = if y % 2 = 0 then 1 else x := by
  have h : x = 1 ∨ x = -1 := by omega
  rcases h with rfl | rfl
  · rw [Int.one_pow]; split <;> rfl
  · induction y with
    | zero => rfl
    | succ n ih =>
      rw [Int.pow_succ, ih]
      by_cases h : n % 2 = 0
      · rw [if_pos h, if_neg (by omega)]; rfl
      · rw [if_neg h, if_pos (by omega)]; rfl
theorem two_pow_big {n : Nat} (h : 50 ≤ n) : (1000000000000000 : Int) < 2 ^ n := by
  have h1 : (2 : Nat) ^ 50 ≤ 2 ^ n := Nat.pow_le_pow_right (by decide) h
  have h2 : ((2 ^ n : Nat) : Int) = (2 : Int) ^ n := by simp
  rw [← h2]
  have h3 : (2 : Nat) ^ 50 = 1125899906842624 := by decide
  omega
theorem mul_far {x b : Int} (hx : x ≠ 0) (hb : 1000000000000000 < b) : ¬ InB (x * b) := by
  rw [inB_mul]
  have h1 : 1 ≤ x.natAbs := by omega
  have h2 : 1000000000000000 < b.natAbs := by omega
  have := Nat.mul_le_mul h1 (Nat.le_refl b.natAbs)
  omega
/-- A shift to the left by no more than fifty. -/
theorem shl_same {x : Int} {y : Nat} : (InB (x * 2 ^ min y 50) ↔ InB (x * 2 ^ y)) ∧ (InB (x * 2 ^ y) → x * 2 ^ min y 50 = x * 2 ^ y) := by
  by_cases h : y ≤ 50
  · rw [Nat.min_eq_left h]; exact ⟨Iff.rfl, fun _ => rfl⟩
  · rw [Nat.min_eq_right (by omega)]
    by_cases hx : x = 0
    · subst hx; simp
    · have h1 := mul_far hx (two_pow_big (Nat.le_refl 50))
      have h2 := mul_far hx (two_pow_big (n := y) (by omega))
      exact ⟨⟨fun h => absurd h h1, fun h => absurd h h2⟩, fun h => absurd h h2⟩

end Go.Proofs.YtpcmfdbcjegbcaaGreatDoor
