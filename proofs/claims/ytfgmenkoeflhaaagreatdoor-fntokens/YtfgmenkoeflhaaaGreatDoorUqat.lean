/- Texts of WtD, WtN, WtE. Own work of the verifier. -/
import Derived.Test.YtfgmenkoeflhaaaGreatDoorUqas
namespace Go.Proofs.YtfgmenkoeflhaaaGreatDoor
set_option maxRecDepth 100000
open Go Go.RowKit
set_option linter.unusedVariables false
def TopO (T : List Cel) (c : Cel) (w : World) (e : Ending) (w' : World) : Prop := e = .returned (.int .i64 (topI T c)) ∧ Below w.heap.size w w'
set_option maxHeartbeats 4000000 in
theorem top_any {w : World} {ob : Nat} {po : Option Addr} {co : Nat} {T : List Cel} {pn : Option Addr} {cn : Nat} {N : List (List Int)} {q : Bool} (hE : WEnv w ob po co T pn cn N q) (t : Tr) (tq : Option Addr) (n c : Nat) (ht : t.fo.ok) (hl : (itC t).length ≤ 2000) (hin : TW w tq n c t) :
 Calls Tryz.prog 98 #[.pointer (some ⟨ob, 0, none⟩), .slice tq n c] w (TopO T t.1 w) := by
 have hn1 : n = t.2.cells.length + 1 := by rw [hin.1]; simp [itC]
 have HD := isDot_any t.1 t.2.cells tq n c w ht.2.1 hn1 hin.2.2.2; have HC := isCurly_any t.1 t.2.cells tq n c w ht.2.1 hn1 hin.2.2.2; obtain ⟨b, oo, rfl, hcs⟩ := hin.2.2.2 (by simp [itC]); obtain ⟨tp, tc, d0, d1, d2, d3⟩ := hcs 0 (by simp [itC]); simp only [itC, List.getD_cons_zero, Nat.zero_mul, Nat.add_zero] at d0 d1 d2 d3
 have hn0 : (0 : Int) < (n : Int) := by omega
 have hn0n : 0 < n := by omega
 have c0 := hE.c0
 have HF : Hid (∀ pf W, Below w.heap.size w W → Calls Tryz.prog 117 #[.slice po T.length co, .slice tp t.1.2.2.length tc, .bool pf] W fun e w' => e = .returned (.int .i64 (findW T t.1.2.2 pf)) ∧ w'.cell? ⟨ob, 0, none⟩ = some (.slice po T.length co) ∧ w'.cell? ⟨b, oo + 2, none⟩ = some (.slice tp t.1.2.2.length tc) ∧ Hid (Below w.heap.size w w')) := fun pf W hW => findW_any hE tp t.1.2.2.length tc t.1.2.2 pf b (oo + 2) rfl d3 d2 W hW
 have HTY : Hid (∀ j, j < T.length → ∃ bp op, po = some ⟨bp, op, none⟩ ∧ ∀ W, Below w.heap.size w W → W.cell? ⟨bp, op + j * 3 + 2, none⟩ = some (.int .i64 (opW T (j : Int)).2.1)) := fun j hj => by
  obtain ⟨bp, op, e, h⟩ := hE.ops (by omega); obtain ⟨_, _, _, h2, _, _⟩ := h j hj; refine ⟨bp, op, e, fun W hW => ?_⟩
  have e2 : opW T (j : Int) = T.getD j Cel.none := by simp [opW]
  rw [e2]; exact (hW.cell (World.block_lt_of_cell? _ _ h2)).trans h2
 have hol := hE.olen
 have HIF : Hid (∀ ty W, Calls Tryz.prog 105 #[.int .i64 ty] W fun e w' => e = .returned (.bool (infB ty)) ∧ w' = W) := fun ty W => l3infix_any ty W
 have hbd : Below w.heap.size w w.drew := ⟨rfl, rfl, rfl, Nat.le_refl _, fun _ _ => rfl⟩
 have HBD : Hid (Below w.heap.size w w.drew) := hbd
 obtain ⟨TL, eTL⟩ : ∃ TL, TL = T.length := ⟨_, rfl⟩
 have HTL : Hid (TL = T.length) := eTL
 have HOK : Hid (t.1.1 = 3 → 1 ≤ t.1.2.1 ∧ t.1.2.1 ≤ 20) := fun h3 => by
  have h1 := ht.1; rw [h3] at h1; exact cellB_comp h1
 have HTOP : Hid (∀ r : Int, topI T t.1 = r → ∀ w', Below w.heap.size w w' → TopO T t.1 w (.returned (.int .i64 r)) w') := fun r h w' hb => ⟨by rw [h], hb⟩
 obtain ⟨k0, ek0⟩ : ∃ k, k = t.1.1 := ⟨_, rfl⟩
 obtain ⟨k1, ek1⟩ : ∃ k, k = t.1.2.1 := ⟨_, rfl⟩
 obtain ⟨l, el⟩ : ∃ l, l = t.1.2.2.length := ⟨_, rfl⟩
 have HK : Hid (k0 = t.1.1 ∧ k1 = t.1.2.1 ∧ l = t.1.2.2.length) := ⟨ek0, ek1, el⟩
 rw [← ek0] at d0; rw [← ek1] at d1; rw [← el] at d2 HF; rw [← eTL] at c0 HF hol; clear hcs ht hl hin hE hn1 d3 el eTL hbd
 by_cases h3 : t.1.1 = 3
 ·have h3' : k0 = 3 := by rw [ek0]; exact h3
  subst h3'
  by_cases hdot : t.1 = dot
  ·have e : decide (t.1 = dot) = true := by simpa using hdot
   rw [e] at HD
   have HR : Hid (topI T t.1 = -1) := by show _ = _; unfold topI; rw [if_pos (.inr (.inl hdot))]
   clear ek0 ek1 h3 hdot e HC
   go_enter Tryz.func98, Tryz.ntmps98
   go_wp2_with fail; refine HD.mono ?_; rintro e w1 ⟨rfl, hw1⟩; rw [hw1]; clear hw1 HD; go_wp2_with fail; go_ret; exact HTOP.out _ HR.out _ (Below.refl _ _)
  ·have e : decide (t.1 = dot) = false := by simpa using hdot
   rw [e] at HD; clear e
   by_cases hcu : t.1 = curly
   ·have e : decide (t.1 = curly) = true := by simpa using hcu
    rw [e] at HC
    have HR : Hid (topI T t.1 = -1) := by show _ = _; unfold topI; rw [if_pos (.inr (.inr (.inl hcu)))]
    clear ek0 ek1 h3 hdot e hcu
    go_enter Tryz.func98, Tryz.ntmps98
    go_wp2_with fail; refine HD.mono ?_; rintro e w1 ⟨rfl, hw1⟩; rw [hw1]; clear hw1 HD; go_wp2_with fail; refine HC.mono ?_; rintro e w1 ⟨rfl, hw1⟩; rw [hw1]; clear hw1 HC; go_wp2_with fail; go_ret; exact HTOP.out _ HR.out _ (Below.refl _ _)
   ·have e : decide (t.1 = curly) = false := by simpa using hcu
    rw [e] at HC; clear e
    by_cases h2 : 2 < k1
    ·have HR : Hid (topI T t.1 = -1) := by show _ = _; unfold topI; rw [if_pos (.inr (.inr (.inr (by rw [← ek1]; exact h2))))]
     clear ek0 ek1 h3 hdot hcu
     go_enter Tryz.func98, Tryz.ntmps98
     go_wp2_with fail; refine HD.mono ?_; rintro e w1 ⟨rfl, hw1⟩; rw [hw1]; clear hw1 HD; go_wp2_with fail; refine HC.mono ?_; rintro e w1 ⟨rfl, hw1⟩; rw [hw1]; clear hw1 HC; go_wp2_with fail; go_ret; exact HTOP.out _ HR.out _ (Below.refl _ _)
    ·have hneg : ¬ (t.1.1 ≠ 3 ∨ t.1 = dot ∨ t.1 = curly ∨ 2 < t.1.2.1) := by
      rintro (h | h | h | h)
      ·exact h h3
      ·exact hdot h
      ·exact hcu h
      ·exact h2 (by rw [ek1]; exact h)
     have hk := HOK.out h3; rw [← ek1] at hk
     by_cases hk2 : k1 = 2
     ·have HT2 : Hid (topI T t.1 = if 0 ≤ findW T t.1.2.2 false ∧ infB (opW T (findW T t.1.2.2 false)).2.1 = false then -1 else findW T t.1.2.2 false) := by
       show _ = _
       unfold topI
       rw [if_neg hneg, if_pos (by rw [← ek1]; exact hk2)]
      subst hk2; have HF1 := HF.out false w.drew HBD.out; have hfr := find_rng T t.1.2.2 false
      obtain ⟨fi, efi⟩ : ∃ f, f = findW T t.1.2.2 false := ⟨_, rfl⟩
      rw [← efi] at HF1 HT2 hfr; clear ek0 ek1 h3 hdot hcu hneg hk h2 efi
      rcases hfr with hfi | ⟨j, hj, hfi⟩
      ·subst hfi
       have HR : Hid (topI T t.1 = -1) := by show _ = _; rw [HT2.out, if_neg (fun h => absurd h.1 (by decide))]
       go_enter Tryz.func98, Tryz.ntmps98
       go_wp2_with fail; refine HD.mono ?_; rintro e w1 ⟨rfl, hw1⟩; rw [hw1]; clear hw1 HD; go_wp2_with fail; refine HC.mono ?_; rintro e w1 ⟨rfl, hw1⟩; rw [hw1]; clear hw1 HC; go_wp2_with fail; have c0d : w.drew.cell? ⟨ob, 0, none⟩ = some (.slice po TL co) := c0; have d2d : w.drew.cell? ⟨b, oo + 2, none⟩ = some (.slice tp l tc) := d2
       go_region_held3 (fun W => W.cell? ⟨ob, 0, none⟩ = some (.slice po TL co) ∧ W.cell? ⟨b, oo + 2, none⟩ = some (.slice tp l tc)) (exact ⟨by assumption, by assumption⟩) ((go_at_call 117; refine HF1.mono ?_; rintro e w2 ⟨rfl, q1, q2, HB2⟩))
       go_wp2_with fail; go_ret; exact HTOP.out _ HR.out _ HB2.out
      ·subst hfi
       obtain ⟨bp, op, rfl, hty⟩ := HTY.out j hj; have HTYj : Hid (∀ W, Below w.heap.size w W → W.cell? ⟨bp, op + j * 3 + 2, none⟩ = some (.int .i64 (opW T (j : Int)).2.1)) := hty
       have hjT : (j : Int) < (TL : Int) := by rw [HTL.out]; omega
       have hjTn : j < TL := by rw [HTL.out]; exact hj
       obtain ⟨ty, ety⟩ : ∃ ty, ty = (opW T (j : Int)).2.1 := ⟨_, rfl⟩
       rw [← ety] at HTYj HT2; clear hty hj ety
       cases hif : infB ty with
       | true =>
         have HR : Hid (topI T t.1 = (j : Int)) := by show _ = _; rw [HT2.out, if_neg (fun h => by rw [hif] at h; cases h.2)]
         go_enter Tryz.func98, Tryz.ntmps98
         go_wp2_with fail; refine HD.mono ?_; rintro e w1 ⟨rfl, hw1⟩; rw [hw1]; clear hw1 HD; go_wp2_with fail; refine HC.mono ?_; rintro e w1 ⟨rfl, hw1⟩; rw [hw1]; clear hw1 HC; go_wp2_with fail; have c0d : w.drew.cell? ⟨ob, 0, none⟩ = some (.slice (some ⟨bp, op, none⟩) TL co) := c0; have d2d : w.drew.cell? ⟨b, oo + 2, none⟩ = some (.slice tp l tc) := d2
         go_region_held3 (fun W => W.cell? ⟨ob, 0, none⟩ = some (.slice (some ⟨bp, op, none⟩) TL co) ∧ W.cell? ⟨b, oo + 2, none⟩ = some (.slice tp l tc)) (exact ⟨by assumption, by assumption⟩) ((go_at_call 117; refine HF1.mono ?_; rintro e w2 ⟨rfl, q1, q2, HB2⟩))
         have ho := HTYj.out _ HB2.out; go_wp2_with fail; refine (HIF.out _ _).mono ?_; rintro e w3 ⟨rfl, hw3⟩; rw [hw3, hif]; go_wp2_with fail; go_ret; exact HTOP.out _ HR.out _ HB2.out
       | false =>
         have HR : Hid (topI T t.1 = -1) := by show _ = _; rw [HT2.out, if_pos ⟨by omega, hif⟩]
         go_enter Tryz.func98, Tryz.ntmps98
         go_wp2_with fail; refine HD.mono ?_; rintro e w1 ⟨rfl, hw1⟩; rw [hw1]; clear hw1 HD; go_wp2_with fail; refine HC.mono ?_; rintro e w1 ⟨rfl, hw1⟩; rw [hw1]; clear hw1 HC; go_wp2_with fail; have c0d : w.drew.cell? ⟨ob, 0, none⟩ = some (.slice (some ⟨bp, op, none⟩) TL co) := c0; have d2d : w.drew.cell? ⟨b, oo + 2, none⟩ = some (.slice tp l tc) := d2
         go_region_held3 (fun W => W.cell? ⟨ob, 0, none⟩ = some (.slice (some ⟨bp, op, none⟩) TL co) ∧ W.cell? ⟨b, oo + 2, none⟩ = some (.slice tp l tc)) (exact ⟨by assumption, by assumption⟩) ((go_at_call 117; refine HF1.mono ?_; rintro e w2 ⟨rfl, q1, q2, HB2⟩))
         have ho := HTYj.out _ HB2.out; go_wp2_with fail; refine (HIF.out _ _).mono ?_; rintro e w3 ⟨rfl, hw3⟩; rw [hw3, hif]; go_wp2_with fail; go_ret; exact HTOP.out _ HR.out _ HB2.out
     ·have hk1 : k1 = 1 := by omega
      have HT1 : Hid (topI T t.1 = if 0 ≤ findW T t.1.2.2 true then findW T t.1.2.2 true else if 0 ≤ findW T t.1.2.2 false ∧ infB (opW T (findW T t.1.2.2 false)).2.1 = true then -1 else findW T t.1.2.2 false) := by
       show _ = _
       unfold topI
       rw [if_neg hneg, if_neg (by rw [← ek1]; exact hk2)]
      subst hk1; have HF1 := HF.out true w.drew HBD.out; have hfr := find_rng T t.1.2.2 true; have hfr2 := find_rng T t.1.2.2 false
      obtain ⟨fi, efi⟩ : ∃ f, f = findW T t.1.2.2 true := ⟨_, rfl⟩
      obtain ⟨fj, efj⟩ : ∃ f, f = findW T t.1.2.2 false := ⟨_, rfl⟩
      have HF2 : Hid (∀ W, Below w.heap.size w W → Calls Tryz.prog 117 #[.slice po TL co, .slice tp l tc, .bool false] W fun e w' => e = .returned (.int .i64 fj) ∧ w'.cell? ⟨ob, 0, none⟩ = some (.slice po TL co) ∧ w'.cell? ⟨b, oo + 2, none⟩ = some (.slice tp l tc) ∧ Hid (Below w.heap.size w w')) := fun W hW => by rw [efj]; exact HF.out false W hW
      rw [← efi] at HF1 HT1 hfr; rw [← efj] at HT1 hfr2; clear ek0 ek1 h3 hdot hcu hneg hk h2 hk2 efi efj
      rcases hfr with hfi | ⟨j, hj, hfi⟩
      ·subst hfi
       have HT0 : Hid (topI T t.1 = if 0 ≤ fj ∧ infB (opW T fj).2.1 = true then -1 else fj) := by show _ = _; rw [HT1.out, if_neg (by decide)]
       rcases hfr2 with hfj | ⟨j, hj, hfj⟩
       ·subst hfj
        have HR : Hid (topI T t.1 = -1) := by show _ = _; rw [HT0.out, if_neg (fun h => absurd h.1 (by decide))]
        go_enter Tryz.func98, Tryz.ntmps98
        go_wp2_with fail; refine HD.mono ?_; rintro e w1 ⟨rfl, hw1⟩; rw [hw1]; clear hw1 HD; go_wp2_with fail; refine HC.mono ?_; rintro e w1 ⟨rfl, hw1⟩; rw [hw1]; clear hw1 HC; go_wp2_with fail; have c0d : w.drew.cell? ⟨ob, 0, none⟩ = some (.slice po TL co) := c0; have d2d : w.drew.cell? ⟨b, oo + 2, none⟩ = some (.slice tp l tc) := d2
        go_region_held3 (fun W => W.cell? ⟨ob, 0, none⟩ = some (.slice po TL co) ∧ W.cell? ⟨b, oo + 2, none⟩ = some (.slice tp l tc)) (exact ⟨by assumption, by assumption⟩) ((go_at_call 117; refine HF1.mono ?_; rintro e w2 ⟨rfl, q1, q2, HB2⟩))
        have HB2d : Hid (Below w.heap.size w w2.drew) := HB2.out.drew; have HFB := HF2.out w2.drew HB2d.out; go_wp2_with fail
        go_region_held3 (fun W => W.cell? ⟨ob, 0, none⟩ = some (.slice po TL co) ∧ W.cell? ⟨b, oo + 2, none⟩ = some (.slice tp l tc)) (exact ⟨by assumption, by assumption⟩) ((go_at_call 117; refine HFB.mono ?_; rintro e w4 ⟨rfl, q1', q2', HB4⟩))
        go_wp2_with fail; go_ret; exact HTOP.out _ HR.out _ HB4.out
       ·subst hfj
        obtain ⟨bp, op, rfl, hty⟩ := HTY.out j hj; have HTYj : Hid (∀ W, Below w.heap.size w W → W.cell? ⟨bp, op + j * 3 + 2, none⟩ = some (.int .i64 (opW T (j : Int)).2.1)) := hty
        have hjT : (j : Int) < (TL : Int) := by rw [HTL.out]; omega
        have hjTn : j < TL := by rw [HTL.out]; exact hj
        obtain ⟨ty, ety⟩ : ∃ ty, ty = (opW T (j : Int)).2.1 := ⟨_, rfl⟩
        rw [← ety] at HTYj HT0; clear hty hj ety
        have HR : Hid (topI T t.1 = if infB ty = true then -1 else (j : Int)) := by
         show _ = _
         rw [HT0.out]
         by_cases hi : infB ty = true
         ·rw [if_pos ⟨by omega, hi⟩, if_pos hi]
         ·rw [if_neg (fun h => hi h.2), if_neg hi]
        go_enter Tryz.func98, Tryz.ntmps98
        go_wp2_with fail; refine HD.mono ?_; rintro e w1 ⟨rfl, hw1⟩; rw [hw1]; clear hw1 HD; go_wp2_with fail; refine HC.mono ?_; rintro e w1 ⟨rfl, hw1⟩; rw [hw1]; clear hw1 HC; go_wp2_with fail; have c0d : w.drew.cell? ⟨ob, 0, none⟩ = some (.slice (some ⟨bp, op, none⟩) TL co) := c0; have d2d : w.drew.cell? ⟨b, oo + 2, none⟩ = some (.slice tp l tc) := d2
        go_region_held3 (fun W => W.cell? ⟨ob, 0, none⟩ = some (.slice (some ⟨bp, op, none⟩) TL co) ∧ W.cell? ⟨b, oo + 2, none⟩ = some (.slice tp l tc)) (exact ⟨by assumption, by assumption⟩) ((go_at_call 117; refine HF1.mono ?_; rintro e w2 ⟨rfl, q1, q2, HB2⟩))
        have HB2d : Hid (Below w.heap.size w w2.drew) := HB2.out.drew; have HFB := HF2.out w2.drew HB2d.out; go_wp2_with fail
        go_region_held3 (fun W => W.cell? ⟨ob, 0, none⟩ = some (.slice (some ⟨bp, op, none⟩) TL co) ∧ W.cell? ⟨b, oo + 2, none⟩ = some (.slice tp l tc)) (exact ⟨by assumption, by assumption⟩) ((go_at_call 117; refine HFB.mono ?_; rintro e w4 ⟨rfl, q1', q2', HB4⟩))
        have ho := HTYj.out _ HB4.out; go_wp2_with fail; refine (HIF.out _ _).mono ?_; rintro e w3 ⟨rfl, hw3⟩; rw [hw3]
        cases hif : infB ty with
        | true =>
          rw [hif] at HR; go_wp2_with fail; go_ret; exact HTOP.out _ HR.out _ HB4.out
        | false =>
          rw [hif] at HR; go_wp2_with fail; go_ret; exact HTOP.out _ HR.out _ HB4.out
      ·subst hfi
       have HR : Hid (topI T t.1 = (j : Int)) := by show _ = _; rw [HT1.out, if_pos (by omega)]
       have hj0 : (0 : Int) ≤ (j : Int) := by omega
       go_enter Tryz.func98, Tryz.ntmps98
       go_wp2_with fail; refine HD.mono ?_; rintro e w1 ⟨rfl, hw1⟩; rw [hw1]; clear hw1 HD; go_wp2_with fail; refine HC.mono ?_; rintro e w1 ⟨rfl, hw1⟩; rw [hw1]; clear hw1 HC; go_wp2_with fail; have c0d : w.drew.cell? ⟨ob, 0, none⟩ = some (.slice po TL co) := c0; have d2d : w.drew.cell? ⟨b, oo + 2, none⟩ = some (.slice tp l tc) := d2
       go_region_held3 (fun W => W.cell? ⟨ob, 0, none⟩ = some (.slice po TL co) ∧ W.cell? ⟨b, oo + 2, none⟩ = some (.slice tp l tc)) (exact ⟨by assumption, by assumption⟩) ((go_at_call 117; refine HF1.mono ?_; rintro e w2 ⟨rfl, q1, q2, HB2⟩))
       go_wp2_with fail; go_ret; exact HTOP.out _ HR.out _ HB2.out
 ·have h3' : ¬ k0 = 3 := by rw [ek0]; exact h3
  have h3b : (k0 == 3) = false := by simpa using h3'
  have HR : Hid (topI T t.1 = -1) := by show _ = _; unfold topI; rw [if_pos (.inl h3)]
  clear ek0 ek1 h3 HD HC
  go_enter Tryz.func98, Tryz.ntmps98
  go_wp2_with fail; go_ret; exact HTOP.out _ HR.out _ (Below.refl _ _)
def ArgsW (W0 W : World) (q : Option Addr) (m : Nat) (ts : List Tr) : Prop := m = ts.length ∧ (0 < m → ∃ g, q = some ⟨g, 0, none⟩ ∧ ∀ i t, ts[i]? = some t → ∃ pq nq cq, W.cell? ⟨g, i, none⟩ = some (.slice pq nq cq) ∧ TW W0 pq nq cq t)
theorem ArgsW.below {W0 W W' : World} {q : Option Addr} {m : Nat} {ts : List Tr} (h : ArgsW W0 W q m ts) (hb : Below W.heap.size W W') : ArgsW W0 W' q m ts := ⟨h.1, fun h0 => by
 obtain ⟨g, e, hc⟩ := h.2 h0; refine ⟨g, e, fun i t hi => ?_⟩; obtain ⟨pq, nq, cq, h1, h2⟩ := hc i t hi
 exact ⟨pq, nq, cq, (hb.cell (World.block_lt_of_cell? _ _ h1)).trans h1, h2⟩⟩
theorem join_snoc : ∀ (A : List (List Int)) (a : List Int), joinW (A ++ [a]) = if A = [] then a else joinW A ++ (44 :: a)
 | [], a => rfl
 | [b], a => by simp [joinW]
 | b :: c :: r, a => by
   have := join_snoc (c :: r) a; simp only [List.cons_append] at this ⊢; simp only [joinW, this]
   simp
theorem join_take (L : List (List Int)) (j : Nat) (h : j < L.length) : joinW (L.take (j + 1)) = if j = 0 then L[j] else joinW (L.take j) ++ (44 :: L[j]) := by
 rw [List.take_add_one, List.getElem?_eq_getElem h]; simp only [Option.toList]; rw [join_snoc]
 by_cases h0 : j = 0
 ·subst h0; simp
 ·rw [if_neg h0, if_neg (by simp [h0]; intro hh; rw [hh] at h; simp at h)]
theorem join_bound (rec : Tr → Int → List Int) (L : List Tr) (p : Int) (h : ∀ k ∈ L, (rec k p).length ≤ 1100000 * (itC k).length) (hs : (L.map fun k => (itC k).length).sum ≤ 2000) (j : Nat) : (joinW ((L.map (rec · p)).take j)).length ≤ 2200002000 := by
 have h1 := join_len ((L.map (rec · p)).take j); rw [← List.map_take] at h1; have h2 := sum_good (rec · p) (L.take j) (fun k hk => h k (List.mem_of_mem_take hk))
 have h3 : ((L.take j).map fun k => (itC k).length).sum ≤ (L.map fun k => (itC k).length).sum := by
  have e : (L.map fun k => (itC k).length) = ((L.take j).map fun k => (itC k).length) ++ ((L.drop j).map fun k => (itC k).length) := by rw [← List.map_append, List.take_append_drop]
  rw [e, List.sum_append]; omega
 have h4 := len_sum (L.take j); rw [List.map_take] at h1; simp only [List.length_map, List.length_take] at h1 h2 h4; rw [List.map_take] at h2
 have h5 : (List.take j (L.map (rec · p))).length ≤ 2000 := by
  simp only [List.length_take, List.length_map]; have := len_sum L
  omega
 simp only [List.length_take, List.length_map] at h5
 omega
set_option maxHeartbeats 4000000 in
theorem plain_any {W0 : World} {ob : Nat} {po : Option Addr} {co : Nat} {T : List Cel} {pn : Option Addr} {cn : Nat} {N : List (List Int)} {q : Bool} (hE : WEnv W0 ob po co T pn cn N q) (rec : Tr → Int → List Int) (t : Tr) (tq : Option Addr) (n c : Nat) (aq : Option Addr) (am ac : Nat) (w : World) (hw : Below W0.heap.size W0 w) (ht : t.fo.ok) (hl : (itC t).length ≤ 2000) (hin : TW W0 tq n c t) (ha : ArgsW W0 w aq am (trs t.2)) (hg : ∀ k ∈ trs t.2, (rec k 999).length ≤ 1100000 * (itC k).length)
 (hT : ∀ k ∈ trs t.2, ∀ kq kn kc W, TW W0 kq kn kc k → Below W0.heap.size W0 W → Calls Tryz.prog 56 #[.pointer (some ⟨ob, 0, none⟩), .slice kq kn kc, .int .i64 999] W (StrO (rec k 999) W)) :
 Calls Tryz.prog 99 #[.pointer (some ⟨ob, 0, none⟩), .slice tq n c, .slice aq am ac] w (StrO (plainW rec q t) w) := by
 obtain ⟨hb, hbl⟩ := text_byte ht
 have hn0 : 0 < n := by rw [hin.1]; simp [itC]
 have hn0i : (0 : Int) < (n : Int) := by omega
 obtain ⟨b, oo, rfl, hcs⟩ := (hin.below hw).2.2.2 (by simp [itC]); obtain ⟨tp, tc, d0, d1, d2, d3⟩ := hcs 0 (by simp [itC]); simp only [itC, List.getD_cons_zero, Nat.zero_mul, Nat.add_zero] at d0 d1 d2 d3
 obtain ⟨xs, exs⟩ : ∃ xs, xs = t.1.2.2 := ⟨_, rfl⟩
 rw [← exs] at d2 d3 hb hbl; have HAT := atom_any ob po co T pn cn N q tp xs.length tc xs w (hE.below hw) rfl hb (by omega) d3
 have HC2 : Hid (∀ W, Below W0.heap.size W0 W → W.cell? ⟨ob, 2, none⟩ = some (.bool q)) := fun W hW => (hW.cell (World.block_lt_of_cell? _ _ hE.c2)).trans hE.c2
 have HW0 : Hid (Below W0.heap.size W0 w) := hw
 obtain ⟨L, eL⟩ : ∃ L, L = (trs t.2).map (rec · 999) := ⟨_, rfl⟩
 have hLl : am = L.length := by rw [eL, List.length_map]; exact ha.1
 have hsum : ((trs t.2).map fun k => (itC k).length).sum ≤ 2000 := by rw [trs_sum]; simp only [itC, List.length_cons] at hl; omega
 have HJB : Hid (∀ j, (joinW (L.take j)).length ≤ 2200002000) := fun j => by rw [eL]; exact join_bound rec _ 999 hg hsum j
 have ham : am ≤ 2000 := by have := len_sum (trs t.2); have := ha.1; omega
 have HAR : Hid (∀ j, j < am → ∃ g pq nq cq K, aq = some ⟨g, 0, none⟩ ∧ L[j]? = some K ∧ K.length ≤ 2200000000 ∧ ∀ W, Below w.heap.size w W → W.cell? ⟨g, j, none⟩ = some (.slice pq nq cq) ∧ Calls Tryz.prog 56 #[.pointer (some ⟨ob, 0, none⟩), .slice pq nq cq, .int .i64 999] W (StrO K W)) := fun j hj => by
  obtain ⟨g, e, hc⟩ := ha.2 (by omega)
  have hj' : j < (trs t.2).length := by rw [← ha.1]; exact hj
  obtain ⟨pq, nq, cq, h1, h2⟩ := hc j (trs t.2)[j] (by rw [List.getElem?_eq_getElem hj']); have hmem : (trs t.2)[j] ∈ trs t.2 := List.getElem_mem _; refine ⟨g, pq, nq, cq, rec (trs t.2)[j] 999, e, by rw [eL, List.getElem?_map, List.getElem?_eq_getElem hj']; rfl, ?_, fun W hW => ⟨(hW.cell (World.block_lt_of_cell? _ _ h1)).trans h1, hT _ hmem pq nq cq W h2 (Below.on hw hW)⟩⟩; have := hg _ hmem; have := trs_le _ _ hmem; simp only [itC, List.length_cons] at hl
  omega
 have HPW : Hid (plainW rec q t = headW q xs ++ [40] ++ joinW L ++ [41]) := by show _ = _; unfold plainW; rw [← exs, eL]
 have hab := atomW_len q hbl; have HHL : Hid ((headW q xs).length ≤ 603) := (head_good q hb hbl).2
 obtain ⟨PW, ePW⟩ : ∃ PW, PW = plainW rec q t := ⟨_, rfl⟩
 rw [← ePW] at HPW ⊢
 obtain ⟨A, eA⟩ : ∃ A, A = atomW q xs := ⟨_, rfl⟩
 rw [← eA] at HAT hab
 have HA : Hid (headW q xs = if q = true ∧ (A = [91, 93] ∨ A = [123, 125]) then 39 :: (A ++ [39]) else A) := by show _ = _; rw [eA]; rfl
 have hAb : Byte A := by rw [eA]; exact atomW_byte q hb
 obtain ⟨s, es⟩ : ∃ s, s = strOfNums A := ⟨_, rfl⟩
 have hs1 := str_eq hAb [91, 93]; have hs2 := str_eq hAb [123, 125]; simp only [List.map_cons, List.map_nil] at hs1 hs2; rw [← es] at hs1 hs2
 have hss : s.size ≤ 601 := by rw [es, strOfNums_size]; exact hab
 have hsq1 : ((⟨#[39]⟩ : ByteArray) ++ s).size ≤ 602 := by rw [ByteArray.size_append]; have : (⟨#[39]⟩ : ByteArray).size = 1 := rfl; omega
 have hsq2 : ((⟨#[39]⟩ : ByteArray) ++ s ++ ⟨#[39]⟩).size ≤ 603 := by rw [ByteArray.size_append]; have : (⟨#[39]⟩ : ByteArray).size = 1 := rfl; omega
 have HQ : Hid ((⟨#[39]⟩ : ByteArray) ++ s ++ ⟨#[39]⟩ ++ ⟨#[40]⟩ = strOfNums (39 :: (A ++ [39]) ++ [40])) := by
  have h1 : (⟨#[39]⟩ : ByteArray) = strOfNums [39] := rfl; have h2 : (⟨#[40]⟩ : ByteArray) = strOfNums [40] := rfl
  show _ = _
  rw [h1, h2, es, str_app, str_app, str_app]
  rfl
 have HN : Hid (s ++ ⟨#[40]⟩ = strOfNums (A ++ [40])) := by
  have h2 : (⟨#[40]⟩ : ByteArray) = strOfNums [40] := rfl
  show _ = _
  rw [h2, es, str_app]
 have HES : Hid (s = strOfNums A) := es
 have hsn : (s ++ ⟨#[40]⟩ : ByteArray).size ≤ 604 := by rw [ByteArray.size_append]; have : (⟨#[40]⟩ : ByteArray).size = 1 := rfl; omega
 have hsn2 : ((⟨#[39]⟩ : ByteArray) ++ s ++ ⟨#[39]⟩ ++ ⟨#[40]⟩).size ≤ 604 := by rw [ByteArray.size_append]; have : (⟨#[40]⟩ : ByteArray).size = 1 := rfl; omega
 obtain ⟨l, el⟩ : ∃ l, l = xs.length := ⟨_, rfl⟩
 rw [← el] at d2 HAT; clear hcs hin hE ht hl hb ha hg hT d0 d1 d3 exs eL ePW eA es hab hAb hsum hw hbl el
 obtain ⟨H, eH⟩ : ∃ H, H = headW q xs := ⟨_, rfl⟩
 have hHl : H.length ≤ 603 := by rw [eH]; exact HHL.out
 rw [← eH] at HPW HA
 have HFIN : Hid (∀ so, so = strOfNums (H ++ [40] ++ joinW L) → so ++ ⟨#[41]⟩ = strOfNums PW) := fun so e => by
  have h2 : (⟨#[41]⟩ : ByteArray) = strOfNums [41] := rfl; rw [e, h2, str_app, HPW.out]
 clear eH
 go_enter Tryz.func99, Tryz.ntmps99
 go_wp2_with fail; refine HAT.mono ?_; rintro e w1 ⟨rfl, hb1⟩; rw [← HES.out]; have HB1 : Hid (Below w.heap.size w w1) := hb1; have c2 := HC2.out w1 (Below.on HW0.out hb1); clear hb1 HAT
 cases q with
 | false =>
   have HS0 : Hid (s ++ ⟨#[40]⟩ = strOfNums (H ++ [40] ++ joinW (L.take 0))) := by show _ = _; rw [HN.out, HA.out, if_neg (fun h => by cases h.1)]; simp [joinW]
   clear hs1 hs2; go_wp2_with fail
   go_loopw [8, 9] (fun ov i wr => ∃ (j : Nat) (so : ByteArray), j ≤ am ∧ so.size ≤ 2200003000 ∧ ov = .string so ∧ i = .int .i64 j ∧ Hid (so = strOfNums (H ++ [40] ++ joinW (L.take j))) ∧ Hid (Below w.heap.size w wr)) (fun _ i _ => am - (intOf i).toNat)
   case atStart => exact ⟨0, _, Nat.zero_le _, by omega, rfl, rfl, HS0, HB1⟩
   case round =>
    obtain ⟨j, so, hj, hsz, rfl, rfl, HSO, HB⟩ := hrel
    by_cases hlt : j < am
    ·obtain ⟨g, pq, nq, cq, K, rfl, hK, hKl, hrow⟩ := HAR.out j hlt
     obtain ⟨r1, HK⟩ := hrow wr HB.out
     have hjL : j < L.length := by rw [← hLl]; exact hlt
     have eK : L[j] = K := by rw [List.getElem?_eq_getElem hjL] at hK; exact Option.some.inj hK
     have hjt := join_take L j hjL; rw [eK] at hjt
     obtain ⟨sk, esk⟩ : ∃ sk, sk = strOfNums K := ⟨_, rfl⟩
     have hsk : sk.size ≤ 2200000000 := by rw [esk, strOfNums_size]; exact hKl
     have HSK : Hid (sk = strOfNums K) := esk
     have HNX : Hid (∀ x : ByteArray, x = strOfNums (H ++ [40] ++ joinW (L.take (j + 1))) → x.size ≤ 2200003000) := fun x e => by rw [e, strOfNums_size]; have := HJB.out (j + 1); simp only [List.length_append, List.length_cons, List.length_nil]; omega
     by_cases hj0 : j = 0
     ·subst hj0
      have HE2 : Hid (so ++ sk = strOfNums (H ++ [40] ++ joinW (L.take (0 + 1)))) := by show _ = _; rw [HSO.out, HSK.out, str_app, hjt]; simp [joinW]
      have hz2 := HNX.out _ HE2.out; clear hjt eK hK esk hrow hKl; go_wp2_with fail; refine HK.mono ?_; rintro e w3 ⟨rfl, hb3⟩; rw [← HSK.out]; have HB3 : Hid (Below w.heap.size w w3) := Below.on HB.out hb3; clear hb3 HK r1; go_wp2_with fail
      all_goals go_roundw
      all_goals first
       | (simp [intOf]; omega)
       | exact ⟨0 + 1, _, by omega, hz2, rfl, by go_num, HE2, HB3⟩
     ·have hjp : (0 : Int) < (j : Int) := by omega
      have hsc : (so ++ ⟨#[44]⟩ : ByteArray).size ≤ 2200003001 := by rw [ByteArray.size_append]; have : (⟨#[44]⟩ : ByteArray).size = 1 := rfl; omega
      have HE2 : Hid (so ++ ⟨#[44]⟩ ++ sk = strOfNums (H ++ [40] ++ joinW (L.take (j + 1)))) := by
       have h2 : (⟨#[44]⟩ : ByteArray) = strOfNums [44] := rfl
       show _ = _
       rw [HSO.out, HSK.out, h2, str_app, str_app, hjt, if_neg hj0]
       simp
      have hz2 := HNX.out _ HE2.out; clear hjt eK hK esk hrow hKl hj0; go_wp2_with fail
      all_goals refine HK.mono ?_
      all_goals rintro e w3 ⟨rfl, hb3⟩
      all_goals rw [← HSK.out]
      all_goals have HB3 : Hid (Below w.heap.size w w3) := Below.on HB.out hb3
      all_goals clear hb3 HK r1
      all_goals go_wp2_with fail
      all_goals go_roundw
      all_goals first
       | (simp [intOf]; omega)
       | exact ⟨j + 1, _, by omega, hz2, rfl, by go_num, HE2, HB3⟩
    ·obtain rfl : j = am := by omega
     rw [hLl, List.take_length] at HSO; have HF := HFIN.out so HSO.out; have HF2 : Hid (so ++ ⟨#[41]⟩ = strOfNums PW) := HF; clear HF; go_wp2_with fail
     all_goals go_ret
     all_goals exact ⟨by rw [← HF2.out]; rfl, HB.out⟩
 | true =>
   by_cases hA1 : A = [91, 93]
   ·have HS0 : Hid ((⟨#[39]⟩ : ByteArray) ++ s ++ ⟨#[39]⟩ ++ ⟨#[40]⟩ = strOfNums (H ++ [40] ++ joinW (L.take 0))) := by show _ = _; rw [HQ.out, HA.out, if_pos ⟨rfl, .inl hA1⟩]; simp [joinW]
    have t1 : s.toList = [91, 93] := hs1.2 hA1; clear hs1 hs2 hA1; go_wp2_with fail
    go_loopw [8, 9] (fun ov i wr => ∃ (j : Nat) (so : ByteArray), j ≤ am ∧ so.size ≤ 2200003000 ∧ ov = .string so ∧ i = .int .i64 j ∧ Hid (so = strOfNums (H ++ [40] ++ joinW (L.take j))) ∧ Hid (Below w.heap.size w wr)) (fun _ i _ => am - (intOf i).toNat)
    case atStart => exact ⟨0, _, Nat.zero_le _, by omega, rfl, rfl, HS0, HB1⟩
    case round =>
     obtain ⟨j, so, hj, hsz, rfl, rfl, HSO, HB⟩ := hrel
     by_cases hlt : j < am
     ·obtain ⟨g, pq, nq, cq, K, rfl, hK, hKl, hrow⟩ := HAR.out j hlt
      obtain ⟨r1, HK⟩ := hrow wr HB.out
      have hjL : j < L.length := by rw [← hLl]; exact hlt
      have eK : L[j] = K := by rw [List.getElem?_eq_getElem hjL] at hK; exact Option.some.inj hK
      have hjt := join_take L j hjL; rw [eK] at hjt
      obtain ⟨sk, esk⟩ : ∃ sk, sk = strOfNums K := ⟨_, rfl⟩
      have hsk : sk.size ≤ 2200000000 := by rw [esk, strOfNums_size]; exact hKl
      have HSK : Hid (sk = strOfNums K) := esk
      have HNX : Hid (∀ x : ByteArray, x = strOfNums (H ++ [40] ++ joinW (L.take (j + 1))) → x.size ≤ 2200003000) := fun x e => by rw [e, strOfNums_size]; have := HJB.out (j + 1); simp only [List.length_append, List.length_cons, List.length_nil]; omega
      by_cases hj0 : j = 0
      ·subst hj0
       have HE2 : Hid (so ++ sk = strOfNums (H ++ [40] ++ joinW (L.take (0 + 1)))) := by show _ = _; rw [HSO.out, HSK.out, str_app, hjt]; simp [joinW]
       have hz2 := HNX.out _ HE2.out; clear hjt eK hK esk hrow hKl; go_wp2_with fail; refine HK.mono ?_; rintro e w3 ⟨rfl, hb3⟩; rw [← HSK.out]; have HB3 : Hid (Below w.heap.size w w3) := Below.on HB.out hb3; clear hb3 HK r1; go_wp2_with fail
       all_goals go_roundw
       all_goals first
        | (simp [intOf]; omega)
        | exact ⟨0 + 1, _, by omega, hz2, rfl, by go_num, HE2, HB3⟩
      ·have hjp : (0 : Int) < (j : Int) := by omega
       have hsc : (so ++ ⟨#[44]⟩ : ByteArray).size ≤ 2200003001 := by rw [ByteArray.size_append]; have : (⟨#[44]⟩ : ByteArray).size = 1 := rfl; omega
       have HE2 : Hid (so ++ ⟨#[44]⟩ ++ sk = strOfNums (H ++ [40] ++ joinW (L.take (j + 1)))) := by
        have h2 : (⟨#[44]⟩ : ByteArray) = strOfNums [44] := rfl
        show _ = _
        rw [HSO.out, HSK.out, h2, str_app, str_app, hjt, if_neg hj0]
        simp
       have hz2 := HNX.out _ HE2.out; clear hjt eK hK esk hrow hKl hj0; go_wp2_with fail
       all_goals refine HK.mono ?_
       all_goals rintro e w3 ⟨rfl, hb3⟩
       all_goals rw [← HSK.out]
       all_goals have HB3 : Hid (Below w.heap.size w w3) := Below.on HB.out hb3
       all_goals clear hb3 HK r1
       all_goals go_wp2_with fail
       all_goals go_roundw
       all_goals first
        | (simp [intOf]; omega)
        | exact ⟨j + 1, _, by omega, hz2, rfl, by go_num, HE2, HB3⟩
     ·obtain rfl : j = am := by omega
      rw [hLl, List.take_length] at HSO; have HF := HFIN.out so HSO.out; have HF2 : Hid (so ++ ⟨#[41]⟩ = strOfNums PW) := HF; clear HF; go_wp2_with fail
      all_goals go_ret
      all_goals exact ⟨by rw [← HF2.out]; rfl, HB.out⟩
   ·have t1 : ¬ s.toList = [91, 93] := fun h => hA1 (hs1.1 h)
    have t1b : (s.toList == [91, 93]) = false := by simpa using t1
    by_cases hA2 : A = [123, 125]
    ·have HS0 : Hid ((⟨#[39]⟩ : ByteArray) ++ s ++ ⟨#[39]⟩ ++ ⟨#[40]⟩ = strOfNums (H ++ [40] ++ joinW (L.take 0))) := by show _ = _; rw [HQ.out, HA.out, if_pos ⟨rfl, .inr hA2⟩]; simp [joinW]
     have t2 : s.toList = [123, 125] := hs2.2 hA2; clear hs1 hs2 hA1 hA2; go_wp2_with fail
     go_loopw [8, 9] (fun ov i wr => ∃ (j : Nat) (so : ByteArray), j ≤ am ∧ so.size ≤ 2200003000 ∧ ov = .string so ∧ i = .int .i64 j ∧ Hid (so = strOfNums (H ++ [40] ++ joinW (L.take j))) ∧ Hid (Below w.heap.size w wr)) (fun _ i _ => am - (intOf i).toNat)
     case atStart => exact ⟨0, _, Nat.zero_le _, by omega, rfl, rfl, HS0, HB1⟩
     case round =>
      obtain ⟨j, so, hj, hsz, rfl, rfl, HSO, HB⟩ := hrel
      by_cases hlt : j < am
      ·obtain ⟨g, pq, nq, cq, K, rfl, hK, hKl, hrow⟩ := HAR.out j hlt
       obtain ⟨r1, HK⟩ := hrow wr HB.out
       have hjL : j < L.length := by rw [← hLl]; exact hlt
       have eK : L[j] = K := by rw [List.getElem?_eq_getElem hjL] at hK; exact Option.some.inj hK
       have hjt := join_take L j hjL; rw [eK] at hjt
       obtain ⟨sk, esk⟩ : ∃ sk, sk = strOfNums K := ⟨_, rfl⟩
       have hsk : sk.size ≤ 2200000000 := by rw [esk, strOfNums_size]; exact hKl
       have HSK : Hid (sk = strOfNums K) := esk
       have HNX : Hid (∀ x : ByteArray, x = strOfNums (H ++ [40] ++ joinW (L.take (j + 1))) → x.size ≤ 2200003000) := fun x e => by rw [e, strOfNums_size]; have := HJB.out (j + 1); simp only [List.length_append, List.length_cons, List.length_nil]; omega
       by_cases hj0 : j = 0
       ·subst hj0
        have HE2 : Hid (so ++ sk = strOfNums (H ++ [40] ++ joinW (L.take (0 + 1)))) := by show _ = _; rw [HSO.out, HSK.out, str_app, hjt]; simp [joinW]
        have hz2 := HNX.out _ HE2.out; clear hjt eK hK esk hrow hKl; go_wp2_with fail; refine HK.mono ?_; rintro e w3 ⟨rfl, hb3⟩; rw [← HSK.out]; have HB3 : Hid (Below w.heap.size w w3) := Below.on HB.out hb3; clear hb3 HK r1; go_wp2_with fail
        all_goals go_roundw
        all_goals first
         | (simp [intOf]; omega)
         | exact ⟨0 + 1, _, by omega, hz2, rfl, by go_num, HE2, HB3⟩
       ·have hjp : (0 : Int) < (j : Int) := by omega
        have hsc : (so ++ ⟨#[44]⟩ : ByteArray).size ≤ 2200003001 := by rw [ByteArray.size_append]; have : (⟨#[44]⟩ : ByteArray).size = 1 := rfl; omega
        have HE2 : Hid (so ++ ⟨#[44]⟩ ++ sk = strOfNums (H ++ [40] ++ joinW (L.take (j + 1)))) := by
         have h2 : (⟨#[44]⟩ : ByteArray) = strOfNums [44] := rfl
         show _ = _
         rw [HSO.out, HSK.out, h2, str_app, str_app, hjt, if_neg hj0]
         simp
        have hz2 := HNX.out _ HE2.out; clear hjt eK hK esk hrow hKl hj0; go_wp2_with fail
        all_goals refine HK.mono ?_
        all_goals rintro e w3 ⟨rfl, hb3⟩
        all_goals rw [← HSK.out]
        all_goals have HB3 : Hid (Below w.heap.size w w3) := Below.on HB.out hb3
        all_goals clear hb3 HK r1
        all_goals go_wp2_with fail
        all_goals go_roundw
        all_goals first
         | (simp [intOf]; omega)
         | exact ⟨j + 1, _, by omega, hz2, rfl, by go_num, HE2, HB3⟩
      ·obtain rfl : j = am := by omega
       rw [hLl, List.take_length] at HSO; have HF := HFIN.out so HSO.out; have HF2 : Hid (so ++ ⟨#[41]⟩ = strOfNums PW) := HF; clear HF; go_wp2_with fail
       all_goals go_ret
       all_goals exact ⟨by rw [← HF2.out]; rfl, HB.out⟩
    ·have t2 : ¬ s.toList = [123, 125] := fun h => hA2 (hs2.1 h)
     have t2b : (s.toList == [123, 125]) = false := by simpa using t2
     have HS0 : Hid (s ++ ⟨#[40]⟩ = strOfNums (H ++ [40] ++ joinW (L.take 0))) := by show _ = _; rw [HN.out, HA.out, if_neg (fun h => h.2.elim hA1 hA2)]; simp [joinW]
     clear hs1 hs2 hA1 hA2; go_wp2_with fail
     go_loopw [8, 9] (fun ov i wr => ∃ (j : Nat) (so : ByteArray), j ≤ am ∧ so.size ≤ 2200003000 ∧ ov = .string so ∧ i = .int .i64 j ∧ Hid (so = strOfNums (H ++ [40] ++ joinW (L.take j))) ∧ Hid (Below w.heap.size w wr)) (fun _ i _ => am - (intOf i).toNat)
     case atStart => exact ⟨0, _, Nat.zero_le _, by omega, rfl, rfl, HS0, HB1⟩
     case round =>
      obtain ⟨j, so, hj, hsz, rfl, rfl, HSO, HB⟩ := hrel
      by_cases hlt : j < am
      ·obtain ⟨g, pq, nq, cq, K, rfl, hK, hKl, hrow⟩ := HAR.out j hlt
       obtain ⟨r1, HK⟩ := hrow wr HB.out
       have hjL : j < L.length := by rw [← hLl]; exact hlt
       have eK : L[j] = K := by rw [List.getElem?_eq_getElem hjL] at hK; exact Option.some.inj hK
       have hjt := join_take L j hjL; rw [eK] at hjt
       obtain ⟨sk, esk⟩ : ∃ sk, sk = strOfNums K := ⟨_, rfl⟩
       have hsk : sk.size ≤ 2200000000 := by rw [esk, strOfNums_size]; exact hKl
       have HSK : Hid (sk = strOfNums K) := esk
       have HNX : Hid (∀ x : ByteArray, x = strOfNums (H ++ [40] ++ joinW (L.take (j + 1))) → x.size ≤ 2200003000) := fun x e => by rw [e, strOfNums_size]; have := HJB.out (j + 1); simp only [List.length_append, List.length_cons, List.length_nil]; omega
       by_cases hj0 : j = 0
       ·subst hj0
        have HE2 : Hid (so ++ sk = strOfNums (H ++ [40] ++ joinW (L.take (0 + 1)))) := by show _ = _; rw [HSO.out, HSK.out, str_app, hjt]; simp [joinW]
        have hz2 := HNX.out _ HE2.out; clear hjt eK hK esk hrow hKl; go_wp2_with fail; refine HK.mono ?_; rintro e w3 ⟨rfl, hb3⟩; rw [← HSK.out]; have HB3 : Hid (Below w.heap.size w w3) := Below.on HB.out hb3; clear hb3 HK r1; go_wp2_with fail
        all_goals go_roundw
        all_goals first
         | (simp [intOf]; omega)
         | exact ⟨0 + 1, _, by omega, hz2, rfl, by go_num, HE2, HB3⟩
       ·have hjp : (0 : Int) < (j : Int) := by omega
        have hsc : (so ++ ⟨#[44]⟩ : ByteArray).size ≤ 2200003001 := by rw [ByteArray.size_append]; have : (⟨#[44]⟩ : ByteArray).size = 1 := rfl; omega
        have HE2 : Hid (so ++ ⟨#[44]⟩ ++ sk = strOfNums (H ++ [40] ++ joinW (L.take (j + 1)))) := by
         have h2 : (⟨#[44]⟩ : ByteArray) = strOfNums [44] := rfl
         show _ = _
         rw [HSO.out, HSK.out, h2, str_app, str_app, hjt, if_neg hj0]
         simp
        have hz2 := HNX.out _ HE2.out; clear hjt eK hK esk hrow hKl hj0; go_wp2_with fail
        all_goals refine HK.mono ?_
        all_goals rintro e w3 ⟨rfl, hb3⟩
        all_goals rw [← HSK.out]
        all_goals have HB3 : Hid (Below w.heap.size w w3) := Below.on HB.out hb3
        all_goals clear hb3 HK r1
        all_goals go_wp2_with fail
        all_goals go_roundw
        all_goals first
         | (simp [intOf]; omega)
         | exact ⟨j + 1, _, by omega, hz2, rfl, by go_num, HE2, HB3⟩
      ·obtain rfl : j = am := by omega
       rw [hLl, List.take_length] at HSO; have HF := HFIN.out so HSO.out; have HF2 : Hid (so ++ ⟨#[41]⟩ = strOfNums PW) := HF; clear HF; go_wp2_with fail
       all_goals go_ret
       all_goals exact ⟨by rw [← HF2.out]; rfl, HB.out⟩
theorem str_get {xs : List Int} (hx : Byte xs) {s : ByteArray} (es : s = strOfNums xs) (k : Nat) (h : k < s.size) : ((s[k].toNat : Nat) : Int) = xs.getD k 0 := by
 subst es
 have hk : k < xs.length := by rw [strOfNums_size] at h; exact h
 have e : (strOfNums xs)[k] = UInt8.ofNat (xs[k]).toNat := by simp [strOfNums, ByteArray.getElem_eq_getElem_data]
 have hb := hx xs[k] (List.getElem_mem _); rw [e]
 simp [List.getD, hk]
 omega
set_option maxHeartbeats 1000000 in
theorem gap_any (xs ys : List Int) (hx : Byte xs) (hy : Byte ys) (hlx : xs.length ≤ 1000000000000) (hly : ys.length ≤ 1000000000000) (w : World) : Calls Tryz.prog 102 #[.string (strOfNums xs), .string (strOfNums ys)] w fun e w' => e = .returned (.string (strOfNums (gapW xs ys))) ∧ w' = w := by
 obtain ⟨s, es⟩ : ∃ s, s = strOfNums xs := ⟨_, rfl⟩
 obtain ⟨s2, es2⟩ : ∃ s, s = strOfNums ys := ⟨_, rfl⟩
 have hs : s.size = xs.length := by rw [es]; exact strOfNums_size _
 have hs2 : s2.size = ys.length := by rw [es2]; exact strOfNums_size _
 have hl1 : s.toList = xs.map fun n => UInt8.ofNat n.toNat := by rw [es]; exact str_list
 have hl2 : s2.toList = ys.map fun n => UInt8.ofNat n.toNat := by rw [es2]; exact str_list
 rw [← es, ← es2]
 by_cases h1 : xs = []
 ·have e1 : s.toList = [] := by rw [hl1, h1]; rfl
  have e : gapW xs ys = [] := by unfold gapW; rw [if_pos (.inl h1)]
  rw [e]; clear hl1 hl2 es es2 hs hs2 h1 e
  go_enter Tryz.func102, Tryz.ntmps102
  go_wp2_with fail; go_ret; exact ⟨rfl, rfl⟩
 ·by_cases h2 : ys = []
  ·have e1 : ¬ s.toList = [] := by rw [hl1]; simpa using h1
   have e2 : s2.toList = [] := by rw [hl2, h2]; rfl
   have e : gapW xs ys = [] := by unfold gapW; rw [if_pos (.inr h2)]
   rw [e]; clear hl1 hl2 es es2 hs hs2 h2 e
   go_enter Tryz.func102, Tryz.ntmps102
   go_wp2_with fail; go_ret; exact ⟨rfl, rfl⟩
  ·have e1 : ¬ s.toList = [] := by rw [hl1]; simpa using h1
   have e2 : ¬ s2.toList = [] := by rw [hl2]; simpa using h2
   obtain ⟨m, em⟩ : ∃ m, xs.length = m + 1 := ⟨xs.length - 1, by have : xs.length ≠ 0 := fun h => h1 (List.eq_nil_of_length_eq_zero h); omega⟩
   have hsz : s.size = m + 1 := by omega
   have h20 : 0 < s2.size := by rw [hs2]; have : ys.length ≠ 0 := fun h => h2 (List.eq_nil_of_length_eq_zero h); omega
   have hm : m < s.size := by omega
   have hmb : m ≤ 1000000000000 := by omega
   have g1 := str_get hx es m hm; have g2 := str_get hy es2 0 h20; have hr1 : 0 ≤ xs.getD m 0 ∧ xs.getD m 0 < 256 := hx _ (by simp [List.getD, em]); have hr2 : 0 ≤ ys.getD 0 0 ∧ ys.getD 0 0 < 256 := hy _ (by rw [hs2] at h20; simp [List.getD, h20])
   have e : gapW xs ys = if (alnumB (xs.getD m 0) = true ∧ alnumB (ys.getD 0 0) = true) ∨ (symbolB (xs.getD m 0) = true ∧ symbolB (ys.getD 0 0) = true) then [32] else [] := by
    unfold gapW lastI
    rw [if_neg (fun h => h.elim h1 h2), em]
    rfl
   obtain ⟨G, eG⟩ : ∃ G, G = gapW xs ys := ⟨_, rfl⟩
   rw [← eG] at e ⊢
   obtain ⟨x, ex⟩ : ∃ x, x = xs.getD m 0 := ⟨_, rfl⟩
   obtain ⟨y, ey⟩ : ∃ y, y = ys.getD 0 0 := ⟨_, rfl⟩
   rw [← ex] at g1 hr1 e; rw [← ey] at g2 hr2 e; have HG : Hid _ := e
   have A1 : Hid (∀ W, Calls Tryz.prog 33 #[.int .u8 x] W fun e w' => e = .returned (.bool (alnumB x)) ∧ w' = W) := fun W => alnum_any x W hr1.1 hr1.2
   have A2 : Hid (∀ W, Calls Tryz.prog 33 #[.int .u8 y] W fun e w' => e = .returned (.bool (alnumB y)) ∧ w' = W) := fun W => alnum_any y W hr2.1 hr2.2
   have S1 : Hid (∀ W, Calls Tryz.prog 36 #[.int .u8 x] W fun e w' => e = .returned (.bool (symbolB x)) ∧ w' = W) := fun W => symbol_any x W hr1.1 hr1.2
   have S2 : Hid (∀ W, Calls Tryz.prog 36 #[.int .u8 y] W fun e w' => e = .returned (.bool (symbolB y)) ∧ w' = W) := fun W => symbol_any y W hr2.1 hr2.2
   clear hl1 hl2 es es2 hs hs2 h1 h2 em ex ey eG e hx hy hlx hly
   have i1 : s.toList.isEmpty = false := by cases hh : s.toList with | nil => exact absurd hh e1 | cons _ _ => rfl
   have i2 : s2.toList.isEmpty = false := by cases hh : s2.toList with | nil => exact absurd hh e2 | cons _ _ => rfl
   go_enter Tryz.func102, Tryz.ntmps102
   go_wp2_with fail; refine (A1.out _).mono ?_; rintro e w1 ⟨rfl, hw1⟩; rw [hw1]; clear hw1 w1
   cases a1 : alnumB x with
   | true =>
     rw [a1] at HG; go_wp2_with fail; refine (A2.out _).mono ?_; rintro e w1 ⟨rfl, hw1⟩; rw [hw1]; clear hw1 w1
     cases a2 : alnumB y with
     | true =>
       rw [a2] at HG
       have e : Hid (G = [32]) := by show _ = _; rw [HG.out, if_pos (.inl (by simp))]
       go_wp2_with fail; go_ret; exact ⟨by rw [e.out]; rfl, rfl⟩
     | false =>
       rw [a2] at HG; go_wp2_with fail; refine (S1.out _).mono ?_; rintro e w1 ⟨rfl, hw1⟩; rw [hw1]; clear hw1 w1
       cases s1 : symbolB x with
       | true =>
         rw [s1] at HG; go_wp2_with fail; refine (S2.out _).mono ?_; rintro e w1 ⟨rfl, hw1⟩; rw [hw1]; clear hw1 w1
         cases s2' : symbolB y with
         | true =>
           rw [s2'] at HG
           have e : Hid (G = [32]) := by show _ = _; rw [HG.out, if_pos (.inr (by simp))]
           go_wp2_with fail; go_ret; exact ⟨by rw [e.out]; rfl, rfl⟩
         | false =>
           rw [s2'] at HG
           have e : Hid (G = []) := by show _ = _; rw [HG.out, if_neg (fun h => h.elim (fun h => by cases h.2) (fun h => by cases h.2))]
           go_wp2_with fail; go_ret; exact ⟨by rw [e.out]; rfl, rfl⟩
       | false =>
         rw [s1] at HG
         have e : Hid (G = []) := by show _ = _; rw [HG.out, if_neg (fun h => h.elim (fun h => by cases h.2) (fun h => by cases h.1))]
         go_wp2_with fail; go_ret; exact ⟨by rw [e.out]; rfl, rfl⟩
   | false =>
     rw [a1] at HG; go_wp2_with fail; refine (S1.out _).mono ?_; rintro e w1 ⟨rfl, hw1⟩; rw [hw1]; clear hw1 w1
     cases s1 : symbolB x with
     | true =>
       rw [s1] at HG; go_wp2_with fail; refine (S2.out _).mono ?_; rintro e w1 ⟨rfl, hw1⟩; rw [hw1]; clear hw1 w1
       cases s2' : symbolB y with
       | true =>
         rw [s2'] at HG
         have e : Hid (G = [32]) := by show _ = _; rw [HG.out, if_pos (.inr (by simp))]
         go_wp2_with fail; go_ret; exact ⟨by rw [e.out]; rfl, rfl⟩
       | false =>
         rw [s2'] at HG
         have e : Hid (G = []) := by show _ = _; rw [HG.out, if_neg (fun h => h.elim (fun h => by cases h.1) (fun h => by cases h.2))]
         go_wp2_with fail; go_ret; exact ⟨by rw [e.out]; rfl, rfl⟩
     | false =>
       rw [s1] at HG
       have e : Hid (G = []) := by show _ = _; rw [HG.out, if_neg (fun h => h.elim (fun h => by cases h.1) (fun h => by cases h.1))]
       go_wp2_with fail; go_ret; exact ⟨by rw [e.out]; rfl, rfl⟩
set_option maxHeartbeats 1000000 in
theorem spaced_any (p : Option Addr) (l c : Nat) (xs : List Int) (w : World) (hl : l = xs.length) (hb : Byte xs) (hn : xs.length ≤ 100) (hp : 0 < xs.length) (hx : BIn w p xs) :
 Calls Tryz.prog 103 #[.slice p l c] w fun e w' => e = .returned (.bool (spacedB xs)) ∧ w' = w := by
 obtain ⟨b, o, rfl, hcs⟩ := hx hp; have HR := l1runO b o c xs 0 true w hb (by omega) (Nat.zero_le _) hcs
 have HP : Hid (∀ W, W = w → Calls Tryz.prog 115 #[.slice (some ⟨b, o, none⟩) l c] W fun e w' => e = .returned (.bool (plainB xs)) ∧ w' = W) := fun W hW => by subst hW; rw [hl]; exact specPlainO b o c xs W hb (by omega) hcs
 have cv := conv_str hx l c hl 9 Tryz.underlying9; rw [← hl] at HR; have e44 := str_eq hb [44]; have e59 := str_eq hb [59]; have e33 := str_eq hb [33]; simp only [List.map_cons, List.map_nil] at e44 e59 e33
 obtain ⟨s, es⟩ : ∃ s, s = strOfNums xs := ⟨_, rfl⟩
 rw [← es] at cv e44 e59 e33; simp only [List.drop_zero] at HR
 have ecl : (clsB true) = symbolB := by funext x; rfl
 rw [ecl] at HR; have HL : Hid (l = xs.length) := hl; have HSP : Hid (spacedB xs = ((decide (runLen symbolB xs ≠ xs.length) || !plainB xs) && (decide (xs ≠ [44]) && (decide (xs ≠ [59]) && decide (xs ≠ [33]))))) := rfl
 obtain ⟨R, eR⟩ : ∃ R, R = runLen symbolB xs := ⟨_, rfl⟩
 have hRl : R ≤ l := by rw [eR, hl]; exact runLen_le _ _
 have hlb : l ≤ 100 := by omega
 rw [← eR] at HR HSP; rw [← HL.out] at HSP
 obtain ⟨S, eS⟩ : ∃ S, S = spacedB xs := ⟨_, rfl⟩
 rw [← eS] at HSP ⊢
 obtain ⟨P, eP⟩ : ∃ P, P = plainB xs := ⟨_, rfl⟩
 rw [← eP] at HP HSP
 have f44 : (s.toList == [44]) = decide (xs = [44]) := by rw [Bool.eq_iff_iff]; simpa using e44
 have f59 : (s.toList == [59]) = decide (xs = [59]) := by rw [Bool.eq_iff_iff]; simpa using e59
 have f33 : (s.toList == [33]) = decide (xs = [33]) := by rw [Bool.eq_iff_iff]; simpa using e33
 obtain ⟨b1, eb1⟩ : ∃ b, b = decide (xs = [44]) := ⟨_, rfl⟩
 obtain ⟨b2, eb2⟩ : ∃ b, b = decide (xs = [59]) := ⟨_, rfl⟩
 obtain ⟨b3, eb3⟩ : ∃ b, b = decide (xs = [33]) := ⟨_, rfl⟩
 have HSP2 : Hid (S = ((decide (R ≠ l) || !P) && (!b1 && (!b2 && !b3)))) := by show _ = _; rw [HSP.out, eb1, eb2, eb3]; simp
 rw [← eb1] at f44; rw [← eb2] at f59; rw [← eb3] at f33; clear es eR eS eP eb1 eb2 eb3 e44 e59 e33 hcs hx hb hn hp hl HSP ecl
 by_cases hR : R = l
 ·subst hR
  cases P with
  | true =>
    have e : Hid (S = false) := by show _ = _; rw [HSP2.out]; simp
    go_enter Tryz.func103, Tryz.ntmps103
    go_wp2_with fail; refine HR.mono ?_; rintro e w1 ⟨rfl, hw1⟩; rw [hw1]; go_wp2_with fail; refine (HP.out _ rfl).mono ?_; rintro e w2 ⟨rfl, hw2⟩; rw [hw2]; go_wp2_with fail; go_ret; exact ⟨by rw [e.out]; rfl, rfl⟩
  | false =>
    have e : Hid (S = (!b1 && (!b2 && !b3))) := by show _ = _; rw [HSP2.out]; simp
    go_enter Tryz.func103, Tryz.ntmps103
    go_wp2_with fail; refine HR.mono ?_; rintro e w1 ⟨rfl, hw1⟩; rw [hw1]; go_wp2_with fail; refine (HP.out _ rfl).mono ?_; rintro e w2 ⟨rfl, hw2⟩; rw [hw2]
    cases b1 <;> cases b2 <;> cases b3
    all_goals go_wp2_with fail
    all_goals go_ret
    all_goals exact ⟨by rw [e.out]; rfl, rfl⟩
 ·have e : Hid (S = (!b1 && (!b2 && !b3))) := by show _ = _; rw [HSP2.out]; simp [hR]
  have hR2 : ¬ (R : Int) = (l : Int) := by omega
  have hR3 : ((R : Int) == (l : Int)) = false := by rw [beq_eq_false_iff_ne]; exact hR2
  go_enter Tryz.func103, Tryz.ntmps103
  go_wp2_with fail; refine HR.mono ?_; rintro e w1 ⟨rfl, hw1⟩; rw [hw1]
  cases b1 <;> cases b2 <;> cases b3
  all_goals go_wp2_with fail
  all_goals go_ret
  all_goals exact ⟨by rw [e.out]; rfl, rfl⟩
end Go.Proofs.YtfgmenkoeflhaaaGreatDoor
