/- Texts of IsC, Valid1, Valid2, Tree1. Own work of the verifier. -/
import Derived.Test.YtfgmenkoeflhaaaGreatDoorUqah
namespace Go.Proofs.YtfgmenkoeflhaaaGreatDoor
open Go Go.RowKit
set_option linter.unusedVariables false
def cellB (k n : Int) (m : Nat) : Bool := decide ((k = 0 ∧ 0 ≤ n ∧ n ≤ 1000000 ∧ m = 0) ∨ (k = 1 ∧ -1000000000000000 ≤ n ∧ n ≤ 1000000000000000 ∧ m = 0) ∨ (k = 2 ∧ m ≤ 100 ∧ n = 0) ∨ (k = 3 ∧ m ≤ 100 ∧ 1 ≤ n ∧ n ≤ 20))
theorem l2cell_any (k n : Int) (p : Option Addr) (m c : Nat) (w : World) :
 Calls Tryz.prog 54 #[.agg #[.int .i64 k, .int .i64 n, .slice p m c]] w fun e w' => e = .returned (.bool (cellB k n m)) ∧ Below w.heap.size w w' := by
 have fin : ∀ {a : Bool} {o : Obj}, a = cellB k n m → (Ending.returned (.bool a) = .returned (.bool (cellB k n m)) ∧ Below w.heap.size w (w.alloc o)) := fun h => ⟨ret_bool h, (Below.refl _ _).alloc (Nat.le_refl _) _⟩
 have FIN : Hid _ := @fin; clear fin
 by_cases k0 : k = 0
 ·subst k0
  by_cases a : 0 ≤ n
  ·by_cases b : n ≤ 1000000
   ·go_enter Tryz.func54, Tryz.ntmps54
    go_wp2
    go_ret; exact FIN.out (by rw [Bool.eq_iff_iff]; simp [cellB]; omega)
   ·go_enter Tryz.func54, Tryz.ntmps54
    go_wp2
    go_ret; exact FIN.out (by rw [Bool.eq_iff_iff]; simp [cellB]; omega)
  ·go_enter Tryz.func54, Tryz.ntmps54
   go_wp2
   go_ret; exact FIN.out (by rw [Bool.eq_iff_iff]; simp [cellB]; omega)
 ·by_cases k1 : k = 1
  ·subst k1
   by_cases a : -1000000000000000 ≤ n
   ·by_cases b : n ≤ 1000000000000000
    ·go_enter Tryz.func54, Tryz.ntmps54
     go_wp2
     go_ret; exact FIN.out (by rw [Bool.eq_iff_iff]; simp [cellB]; omega)
    ·go_enter Tryz.func54, Tryz.ntmps54
     go_wp2
     go_ret; exact FIN.out (by rw [Bool.eq_iff_iff]; simp [cellB]; omega)
   ·go_enter Tryz.func54, Tryz.ntmps54
    go_wp2
    go_ret; exact FIN.out (by rw [Bool.eq_iff_iff]; simp [cellB]; omega)
  ·have t0 : (k == 0) = false := by simpa using k0
   have t1 : (k == 1) = false := by simpa using k1
   by_cases hm : 100 < m
   ·have hm' : (100 : Int) < m := by omega
    have HK : Hid (k ≠ 0 ∧ k ≠ 1) := ⟨k0, k1⟩
    clear k0 k1
    go_enter Tryz.func54, Tryz.ntmps54
    go_wp2
    go_ret; exact FIN.out (by have := HK.out; rw [Bool.eq_iff_iff]; simp [cellB]; omega)
   ·have hm' : ¬ (100 : Int) < m := by omega
    by_cases k2 : k = 2
    ·subst k2
     clear t0 t1 k0 k1
     go_enter Tryz.func54, Tryz.ntmps54
     go_wp2
     go_ret; exact FIN.out (by rw [Bool.eq_iff_iff]; simp [cellB]; omega)
    ·by_cases k3 : k = 3
     ·subst k3
      clear t0 t1 k0 k1 k2
      by_cases a : 1 ≤ n
      ·go_enter Tryz.func54, Tryz.ntmps54
       go_wp2
       go_ret; exact FIN.out (by rw [Bool.eq_iff_iff]; simp [cellB]; omega)
      ·go_enter Tryz.func54, Tryz.ntmps54
       go_wp2
       go_ret; exact FIN.out (by rw [Bool.eq_iff_iff]; simp [cellB]; omega)
     ·have t2 : (k == 2) = false := by simpa using k2
      have t3 : (k == 3) = false := by simpa using k3
      have HK : Hid (k ≠ 0 ∧ k ≠ 1 ∧ k ≠ 2 ∧ k ≠ 3) := ⟨k0, k1, k2, k3⟩
      clear k0 k1 k2 k3
      go_enter Tryz.func54, Tryz.ntmps54
      go_wp2
      go_ret; exact FIN.out (by have := HK.out; rw [Bool.eq_iff_iff]; simp [cellB]; omega)
def grows (k n : Int) : Int := if k = 3 then n else 0
def validFrom : Int → List Cel → Bool
 | m, [] => m == 0
 | m, c :: r => if m = 0 ∨ cellB c.1 c.2.1 c.2.2.length = false then false else validFrom (m - 1 + grows c.1 c.2.1) r
def validB (cs : List Cel) : Bool := decide (cs.length ≤ 2000) && validFrom 1 cs
theorem validFrom_at (m : Int) (cs : List Cel) (k : Nat) (h : k < cs.length) : validFrom m (cs.drop k) =
 if m = 0 ∨ cellB (cs.getD k Cel.none).1 (cs.getD k Cel.none).2.1 (cs.getD k Cel.none).2.2.length = false then false else validFrom (m - 1 + grows (cs.getD k Cel.none).1 (cs.getD k Cel.none).2.1) (cs.drop (k + 1)) := by
 rw [drop_at cs k h, validFrom]
theorem cellB_comp {n : Int} {m : Nat} (h : cellB 3 n m = true) : 1 ≤ n ∧ n ≤ 20 := by simp [cellB] at h; omega
theorem specValid_any (p : Option Addr) (c : Nat) (cs : List Cel) (w : World) (hn : cs.length ≤ 1000000000) (hc : CIn w p cs) :
 Calls Tryz.prog 26 #[.slice p cs.length c] w fun e w' => e = .returned (.bool (validB cs)) ∧ Below w.heap.size w w' := by
 have HC : Hid (CIn w p cs) := hc; clear hc
 by_cases hl : cs.length ≤ 2000
 ·have hl' : ¬ (2000 : Int) < cs.length := by omega
  have hv : validB cs = validFrom 1 cs := by simp [validB, hl]
  rw [hv]; clear hv
  go_enter Tryz.func26, Tryz.ntmps26
  go_wp2
  clear hl'
  go_loopw [3, 4] (fun s i wr => ∃ (k : Nat) (m : Int), k ≤ cs.length ∧ 0 ≤ m ∧ m ≤ 1 + 20 * k ∧ s = .int .i64 m ∧ i = .int .i64 k ∧ Hid (validFrom 1 cs = validFrom m (cs.drop k)) ∧ Hid (Below w.heap.size w wr)) (fun _ i _ => cs.length - (intOf i).toNat)
  case atStart => exact ⟨0, 1, Nat.zero_le _, by decide, by decide, rfl, rfl, rfl, Below.refl _ _⟩
  case round =>
   obtain ⟨k, m, hk, hm0, hm1, rfl, rfl, HV, HB⟩ := hrel
   by_cases hlt : k < cs.length
   ·obtain ⟨b, o, rfl, hcs⟩ := HC.out (by omega)
    obtain ⟨q, qc, h0, h1, h2, _⟩ := (hcs k hlt).below HB.out; have HA : Hid _ := validFrom_at m cs k hlt
    obtain ⟨c0, e0⟩ : ∃ x, x = (cs.getD k Cel.none).1 := ⟨_, rfl⟩
    obtain ⟨c1, e1⟩ : ∃ x, x = (cs.getD k Cel.none).2.1 := ⟨_, rfl⟩
    obtain ⟨t, et⟩ : ∃ x, x = (cs.getD k Cel.none).2.2.length := ⟨_, rfl⟩
    rw [← e0] at h0 HA; rw [← e1] at h1 HA; rw [← et] at h2 HA; clear e0 e1 et hcs HC
    by_cases hz : m = 0
    ·subst hz
     go_wp2
     go_ret; exact ⟨ret_bool (by rw [HV.out, HA.out, if_pos (by simp)]), HB.out⟩
    ·have hz' : (m == 0) = false := by simpa using hz
     have HZ : Hid (m ≠ 0) := hz
     have HS := fun W => l2cell_any c0 c1 q t qc W
     cases hb : cellB c0 c1 t
     ·rw [hb] at HS
      have HBB : Hid _ := hb; clear hb hz; go_wp2_with (go_at_call 54; refine (HS _).mono ?_; rintro e w2 ⟨rfl, hb2⟩); go_ret; exact ⟨ret_bool (by rw [HV.out, HA.out, if_pos (.inr HBB.out)]), Below.on HB.out hb2⟩
     ·rw [hb] at HS
      have HBB : Hid _ := hb; clear hb hz
      by_cases h3 : c0 = 3
      ·subst h3
       have hc1 := cellB_comp HBB.out; go_wp2_with fail; refine (HS _).mono ?_; rintro e w2 ⟨rfl, hb2⟩; have h0' := (hb2.cell (World.block_lt_of_cell? _ _ h0)).trans h0; have h1' := (hb2.cell (World.block_lt_of_cell? _ _ h1)).trans h1; have HB2 : Hid (Below w.heap.size w w2) := Below.on HB.out hb2; clear hb2 h0 h1 h2 HS
       go_wp2
       go_roundw
       case rel => exact ⟨k + 1, m - 1 + c1, by omega, by have := HZ.out; omega, by omega, by go_num, by go_num, by show _ = _; rw [HV.out, HA.out, if_neg (by rintro (h | h); exact HZ.out h; rw [HBB.out] at h; cases h)]; rfl, HB2.out⟩
       case measure => simp [intOf]; omega
      ·have h3' : (c0 == 3) = false := by simpa using h3
       have H3 : Hid (c0 ≠ 3) := h3; clear h3; go_wp2_with fail; refine (HS _).mono ?_; rintro e w2 ⟨rfl, hb2⟩; have h0' := (hb2.cell (World.block_lt_of_cell? _ _ h0)).trans h0; have HB2 : Hid (Below w.heap.size w w2) := Below.on HB.out hb2; clear hb2 h0 h1 h2 HS
       go_wp2
       go_roundw
       case rel => exact ⟨k + 1, m - 1, by omega, by have := HZ.out; omega, by omega, by go_num, by go_num, by show _ = _; rw [HV.out, HA.out, if_neg (by rintro (h | h); exact HZ.out h; rw [HBB.out] at h; cases h), grows, if_neg H3.out, Int.add_zero], HB2.out⟩
       case measure => simp [intOf]; omega
   ·obtain rfl : k = cs.length := by omega
    have HV' : Hid (validFrom 1 cs = (m == 0)) := by
     have := HV.out; rw [List.drop_length] at this; exact this
    clear HV HC
    go_wp2
    go_ret; exact ⟨ret_bool HV'.out.symm, HB.out⟩
 ·have hl' : (2000 : Int) < cs.length := by omega
  have hv : validB cs = false := by simp [validB]; omega
  rw [hv]; clear hv
  go_enter Tryz.func26, Tryz.ntmps26
  go_wp2
  go_ret; exact ⟨rfl, Below.refl _ _⟩
inductive Fo where
 | nil : Fo
 | node : Cel → Fo → Fo → Fo
def Fo.cells : Fo → List Cel
 | .nil => []
 | .node c k r => c :: (k.cells ++ r.cells)
def Fo.count : Fo → Nat
 | .nil => 0
 | .node _ _ r => r.count + 1
def Fo.cat : Fo → Fo → Fo
 | .nil, s => s
 | .node c k r, s => .node c k (r.cat s)
def Fo.ok : Fo → Prop
 | .nil => True
 | .node c k r => cellB c.1 c.2.1 c.2.2.length = true ∧ Byte c.2.2 ∧ (c.1 = 3 → c.2.1 = k.count) ∧ (c.1 ≠ 3 → k = .nil) ∧ k.ok ∧ r.ok
theorem Fo.cells_cat : ∀ a b : Fo, (a.cat b).cells = a.cells ++ b.cells
 | .nil, b => rfl
 | .node c k r, b => by simp [Fo.cat, Fo.cells, Fo.cells_cat r b]
theorem Fo.count_cat : ∀ a b : Fo, (a.cat b).count = a.count + b.count
 | .nil, b => by simp [Fo.cat, Fo.count]
 | .node c k r, b => by simp only [Fo.cat, Fo.count, Fo.count_cat r b]; omega
theorem Fo.ok_cat : ∀ a b : Fo, (a.cat b).ok ↔ a.ok ∧ b.ok
 | .nil, b => by simp [Fo.cat, Fo.ok]
 | .node c k r, b => by
   have := Fo.ok_cat r b; simp only [Fo.cat, Fo.ok]
   constructor
   ·rintro ⟨h1, h2, h3, h4, h5, h6⟩
    exact ⟨⟨h1, h2, h3, h4, h5, (this.1 h6).1⟩, (this.1 h6).2⟩
   ·rintro ⟨⟨h1, h2, h3, h4, h5, h6⟩, h7⟩
    exact ⟨h1, h2, h3, h4, h5, this.2 ⟨h6, h7⟩⟩
theorem Fo.count_le : ∀ a : Fo, a.count ≤ a.cells.length
 | .nil => Nat.le_refl _
 | .node c k r => by have := Fo.count_le r; simp [Fo.count, Fo.cells]; omega
theorem Fo.parted : ∀ (n : Nat) (a : Fo), n ≤ a.count → ∃ x y : Fo, a = x.cat y ∧ x.count = n
 | 0, a, _ => ⟨.nil, a, rfl, rfl⟩
 | n + 1, .nil, h => by simp [Fo.count] at h
 | n + 1, .node c k r, h => by
   obtain ⟨x, y, e, hx⟩ := Fo.parted n r (by simpa [Fo.count] using h); exact ⟨.node c k x, y, by rw [Fo.cat, e], by rw [Fo.count, hx]⟩
theorem forest_of : ∀ (cs : List Cel) (m : Nat), (∀ i, i < cs.length → Byte (cs.getD i Cel.none).2.2) → validFrom m cs = true → ∃ F : Fo, F.count = m ∧ F.cells = cs ∧ F.ok
 | [], m, _, h => by
   have : m = 0 := by simpa [validFrom] using h
   exact ⟨.nil, by simp [Fo.count, this], rfl, trivial⟩
 | c :: r, m, hb, h => by
   rw [validFrom] at h
   split at h
   ·cases h
   rename_i hc
   rw [not_or] at hc; obtain ⟨hm, hc⟩ := hc
   have hc' : cellB c.1 c.2.1 c.2.2.length = true := by simpa using hc
   have hbr : ∀ i, i < r.length → Byte (r.getD i Cel.none).2.2 := fun i hi => by simpa using hb (i + 1) (by simpa using hi)
   have hb0 : Byte c.2.2 := by simpa using hb 0 (by simp)
   by_cases h3 : c.1 = 3
   ·have hc1 := cellB_comp (h3 ▸ hc')
    obtain ⟨n, hn⟩ : ∃ n : Nat, c.2.1 = n := ⟨c.2.1.toNat, by omega⟩
    obtain ⟨F, hF1, hF2, hF3⟩ := forest_of r (m - 1 + n) hbr (by
     have e : ((m - 1 + n : Nat) : Int) = m - 1 + grows c.1 c.2.1 := by rw [grows, if_pos h3, hn]; omega
     rw [e]; exact h)
    obtain ⟨x, y, rfl, hx⟩ := Fo.parted n F (by omega); rw [Fo.count_cat] at hF1; have hok := (Fo.ok_cat x y).1 hF3; exact ⟨.node c x y, by rw [Fo.count]; omega, by rw [Fo.cells, ← Fo.cells_cat, hF2], hc', hb0, fun _ => by rw [hx, hn], fun h => absurd h3 h, hok.1, hok.2⟩
   ·obtain ⟨F, hF1, hF2, hF3⟩ := forest_of r (m - 1) hbr (by
     have e : ((m - 1 : Nat) : Int) = m - 1 + grows c.1 c.2.1 := by rw [grows, if_neg h3]; omega
     rw [e]; exact h)
    exact ⟨.node c .nil F, by rw [Fo.count]; omega, by rw [Fo.cells, hF2]; rfl, hc', hb0, fun h => absurd h h3, fun _ => rfl, trivial, hF3⟩
end Go.Proofs.YtfgmenkoeflhaaaGreatDoor
