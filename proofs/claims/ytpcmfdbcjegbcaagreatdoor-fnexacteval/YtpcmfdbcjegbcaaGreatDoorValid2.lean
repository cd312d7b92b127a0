/- ValidTerm, both sides. Own work of the verifier. -/
import Derived.Test.YtpcmfdbcjegbcaaGreatDoorStr0
import Derived.Test.YtpcmfdbcjegbcaaGreatDoorValid1
namespace Go.Proofs.YtpcmfdbcjegbcaaGreatDoor
open Go Go.RowKit
set_option linter.unusedVariables false

def grows (k n : Int) : Int := if k = 3 then n else 0
def validFrom : Int → List Cel → Bool
  | m, [] => m == 0
  | m, c :: r => if m = 0 ∨ cellB c.1 c.2.1 c.2.2.length = false then false else validFrom (m - 1 + grows c.1 c.2.1) r
def validB (cs : List Cel) : Bool := decide (cs.length ≤ 2000) && validFrom 1 cs

theorem validFrom_at (m : Int) (cs : List Cel) (k : Nat) (h : k < cs.length) : validFrom m (cs.drop k) =
    if m = 0 ∨ cellB (cs.getD k Cel.none).1 (cs.getD k Cel.none).2.1 (cs.getD k Cel.none).2.2.length = false then false else validFrom (m - 1 + grows (cs.getD k Cel.none).1 (cs.getD k Cel.none).2.1) (cs.drop (k + 1)) := by
  rw [drop_at cs k h, validFrom]
theorem cellB_comp {n : Int} {m : Nat} (h : cellB 3 n m = true) : 1 ≤ n ∧ n ≤ 20 := by simp [cellB] at h; omega

theorem specValid_any (p : Option Addr) (c : Nat) (cs : List Cel) (w : World) (hn : cs.length ≤ 1000000000) (hc : CIn w p cs) :
    Calls Tryz.prog 12 #[.slice p cs.length c] w fun e w' => e = .returned (.bool (validB cs)) ∧ Below w.heap.size w w' := by
  have HC : Hid (CIn w p cs) := hc
  clear hc
  by_cases hl : cs.length ≤ 2000
  · have hl' : ¬ (2000 : Int) < cs.length := by omega
    have hv : validB cs = validFrom 1 cs := by simp [validB, hl]
    rw [hv]
    clear hv
    go_enter Tryz.func12, Tryz.ntmps12
    go_wp2
    clear hl'
    go_loopw [3, 4] (fun s i wr => ∃ (k : Nat) (m : Int), k ≤ cs.length ∧ 0 ≤ m ∧ m ≤ 1 + 20 * k ∧ s = .int .i64 m ∧ i = .int .i64 k ∧ Hid (validFrom 1 cs = validFrom m (cs.drop k)) ∧ Hid (Below w.heap.size w wr)) (fun _ i _ => cs.length - (intOf i).toNat)
    case atStart => exact ⟨0, 1, Nat.zero_le _, by decide, by decide, rfl, rfl, rfl, Below.refl _ _⟩
    case round =>
      obtain ⟨k, m, hk, hm0, hm1, rfl, rfl, HV, HB⟩ := hrel
      by_cases hlt : k < cs.length
      · obtain ⟨b, o, rfl, hcs⟩ := HC.out (by omega)
        obtain ⟨q, qc, h0, h1, h2, _⟩ := (hcs k hlt).below HB.out
        have HA : Hid _ := validFrom_at m cs k hlt
        obtain ⟨c0, e0⟩ : ∃ x, x = (cs.getD k Cel.none).1 := ⟨_, rfl⟩
        obtain ⟨c1, e1⟩ : ∃ x, x = (cs.getD k Cel.none).2.1 := ⟨_, rfl⟩
        obtain ⟨t, et⟩ : ∃ x, x = (cs.getD k Cel.none).2.2.length := ⟨_, rfl⟩
        rw [← e0] at h0 HA
        rw [← e1] at h1 HA
        rw [← et] at h2 HA
        clear e0 e1 et hcs HC
        by_cases hz : m = 0
        · subst hz
          go_wp2
          go_ret
          exact ⟨ret_bool (by rw [HV.out, HA.out, if_pos (by simp)]), HB.out⟩
        · have hz' : (m == 0) = false := by simpa using hz
          have HZ : Hid (m ≠ 0) := hz
          have HS := fun W => l2cell_any c0 c1 q t qc W
          cases hb : cellB c0 c1 t
          · rw [hb] at HS
            have HBB : Hid _ := hb
            clear hb hz
            go_wp2_with (go_at_call 25; refine (HS _).mono ?_; rintro e w2 ⟨rfl, hb2⟩)
            go_ret
            exact ⟨ret_bool (by rw [HV.out, HA.out, if_pos (.inr HBB.out)]), Below.on HB.out hb2⟩
          · rw [hb] at HS
            have HBB : Hid _ := hb
            clear hb hz
            by_cases h3 : c0 = 3
            · subst h3
              have hc1 := cellB_comp HBB.out
              go_wp2_with fail
              refine (HS _).mono ?_
              rintro e w2 ⟨rfl, hb2⟩
              have h0' := (hb2.cell (World.block_lt_of_cell? _ _ h0)).trans h0
              have h1' := (hb2.cell (World.block_lt_of_cell? _ _ h1)).trans h1
              have HB2 : Hid (Below w.heap.size w w2) := Below.on HB.out hb2
              clear hb2 h0 h1 h2 HS
              go_wp2
              go_roundw
              case rel => exact ⟨k + 1, m - 1 + c1, by omega, by have := HZ.out; omega, by omega, by go_num, by go_num, by show _ = _; rw [HV.out, HA.out, if_neg (by rintro (h | h); exact HZ.out h; rw [HBB.out] at h; cases h)]; rfl, HB2.out⟩
              case measure => simp [intOf]; omega
            · have h3' : (c0 == 3) = false := by simpa using h3
              have H3 : Hid (c0 ≠ 3) := h3
              clear h3
              go_wp2_with fail
              refine (HS _).mono ?_
              rintro e w2 ⟨rfl, hb2⟩
              have h0' := (hb2.cell (World.block_lt_of_cell? _ _ h0)).trans h0
              have HB2 : Hid (Below w.heap.size w w2) := Below.on HB.out hb2
              clear hb2 h0 h1 h2 HS
              go_wp2
              go_roundw
              case rel => exact ⟨k + 1, m - 1, by omega, by have := HZ.out; omega, by omega, by go_num, by go_num, by show _ = _; rw [HV.out, HA.out, if_neg (by rintro (h | h); exact HZ.out h; rw [HBB.out] at h; cases h), grows, if_neg H3.out, Int.add_zero], HB2.out⟩
              case measure => simp [intOf]; omega
      · obtain rfl : k = cs.length := by omega
        have HV' : Hid (validFrom 1 cs = (m == 0)) := by
          have := HV.out
          rw [List.drop_length] at this
          exact this
        clear HV HC
        go_wp2
        go_ret
        exact ⟨ret_bool HV'.out.symm, HB.out⟩
  · have hl' : (2000 : Int) < cs.length := by omega
    have hv : validB cs = false := by simp [validB]; omega
    rw [hv]
    clear hv
    go_enter Tryz.func12, Tryz.ntmps12
    go_wp2
    go_ret
    exact ⟨rfl, Below.refl _ _⟩

theorem implValid_any (p : Option Addr) (c : Nat) (cs : List Cel) (w : World) (hn : cs.length ≤ 1000000000) (hc : CIn w p cs) :
    Calls Tryz.prog 16 #[.slice p cs.length c] w fun e w' => e = .returned (.bool (validB cs)) ∧ Below w.heap.size w w' := by
  have HC : Hid (CIn w p cs) := hc
  clear hc
  by_cases hl : cs.length ≤ 2000
  · have hl' : ¬ (2000 : Int) < cs.length := by omega
    have hv : validB cs = validFrom 1 cs := by simp [validB, hl]
    rw [hv]
    clear hv
    go_enter Tryz.func16, Tryz.ntmps16
    go_wp2
    clear hl'
    go_loopw [3, 11] (fun s i wr => ∃ (k : Nat) (m : Int), k ≤ cs.length ∧ 0 ≤ m ∧ m ≤ 1 + 20 * k ∧ s = .int .i64 m ∧ i = .int .i64 k ∧ Hid (validFrom 1 cs = validFrom m (cs.drop k)) ∧ Hid (Below w.heap.size w wr)) (fun _ i _ => cs.length - (intOf i).toNat)
    case atStart => exact ⟨0, 1, Nat.zero_le _, by decide, by decide, rfl, rfl, rfl, Below.refl _ _⟩
    case round =>
      obtain ⟨k, m, hk, hm0, hm1, rfl, rfl, HV, HB⟩ := hrel
      by_cases hlt : k < cs.length
      · obtain ⟨b, o, rfl, hcs⟩ := HC.out (by omega)
        obtain ⟨q, qc, h0, h1, h2, _⟩ := (hcs k hlt).below HB.out
        have HA : Hid _ := validFrom_at m cs k hlt
        obtain ⟨c0, e0⟩ : ∃ x, x = (cs.getD k Cel.none).1 := ⟨_, rfl⟩
        obtain ⟨c1, e1⟩ : ∃ x, x = (cs.getD k Cel.none).2.1 := ⟨_, rfl⟩
        obtain ⟨t, et⟩ : ∃ x, x = (cs.getD k Cel.none).2.2.length := ⟨_, rfl⟩
        rw [← e0] at h0 HA
        rw [← e1] at h1 HA
        rw [← et] at h2 HA
        clear e0 e1 et hcs HC
        by_cases hz : m = 0
        · subst hz
          go_wp2
          go_ret
          exact ⟨ret_bool (by rw [HV.out, HA.out, if_pos (by simp)]), HB.out.alloc HB.out.size _⟩
        · have hz' : (m == 0) = false := by simpa using hz
          have HZ : Hid (m ≠ 0) := hz
          have HS := fun W => isCell_any c0 c1 q t qc W
          have hb0 : Below w.heap.size w (wr.alloc (Obj.cells #[.int .i64 c0, .int .i64 c1, .slice q t qc] 39)) := HB.out.alloc HB.out.size _
          have HB0 : Hid _ := hb0
          clear hb0
          cases hb : cellB c0 c1 t
          · rw [hb] at HS
            have HBB : Hid _ := hb
            clear hb hz
            go_wp2_with (go_at_call 35; refine (HS _).mono ?_; rintro e w2 ⟨rfl, hb2⟩)
            go_ret
            exact ⟨ret_bool (by rw [HV.out, HA.out, if_pos (.inr HBB.out)]), Below.on HB0.out hb2⟩
          · rw [hb] at HS
            have HBB : Hid _ := hb
            clear hb hz
            by_cases h3 : c0 = 3
            · subst h3
              have hc1 := cellB_comp HBB.out
              go_wp2_with fail
              refine (HS _).mono ?_
              rintro e w2 ⟨rfl, hb2⟩
              have bb : Box3 w2 wr.heap.size (.int .i64 3) (.int .i64 c1) (.slice q t qc) := Box3.of_block (t := 39) ((hb2.block _ (by simp)).trans (heap_alloc_new _ _))
              obtain ⟨h0', h1', _, _⟩ := bb
              have HB2 : Hid (Below w.heap.size w w2) := Below.on HB0.out hb2
              clear hb2 h0 h1 h2 HS
              go_wp2
              go_roundw
              case rel => exact ⟨k + 1, m - 1 + c1, by omega, by have := HZ.out; omega, by omega, by go_num, by go_num, by show _ = _; rw [HV.out, HA.out, if_neg (by rintro (h | h); exact HZ.out h; rw [HBB.out] at h; cases h)]; rfl, HB2.out⟩
              case measure => simp [intOf]; omega
            · have h3' : (c0 == 3) = false := by simpa using h3
              have H3 : Hid (c0 ≠ 3) := h3
              clear h3
              go_wp2_with fail
              refine (HS _).mono ?_
              rintro e w2 ⟨rfl, hb2⟩
              have bb : Box3 w2 wr.heap.size (.int .i64 c0) (.int .i64 c1) (.slice q t qc) := Box3.of_block (t := 39) ((hb2.block _ (by simp)).trans (heap_alloc_new _ _))
              obtain ⟨h0', _, _, _⟩ := bb
              have HB2 : Hid (Below w.heap.size w w2) := Below.on HB0.out hb2
              clear hb2 h0 h1 h2 HS
              go_wp2
              go_roundw
              case rel => exact ⟨k + 1, m - 1, by omega, by have := HZ.out; omega, by omega, by go_num, by go_num, by show _ = _; rw [HV.out, HA.out, if_neg (by rintro (h | h); exact HZ.out h; rw [HBB.out] at h; cases h), grows, if_neg H3.out, Int.add_zero], HB2.out⟩
              case measure => simp [intOf]; omega
      · obtain rfl : k = cs.length := by omega
        have HV' : Hid (validFrom 1 cs = (m == 0)) := by
          have := HV.out
          rw [List.drop_length] at this
          exact this
        clear HV HC
        go_wp2
        go_ret
        exact ⟨ret_bool HV'.out.symm, HB.out⟩
  · have hl' : (2000 : Int) < cs.length := by omega
    have hv : validB cs = false := by simp [validB]; omega
    rw [hv]
    clear hv
    go_enter Tryz.func16, Tryz.ntmps16
    go_wp2
    go_ret
    exact ⟨rfl, Below.refl _ _⟩

end Go.Proofs.YtpcmfdbcjegbcaaGreatDoor
