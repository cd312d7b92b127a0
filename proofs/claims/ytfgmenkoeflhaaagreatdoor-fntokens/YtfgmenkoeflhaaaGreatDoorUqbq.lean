/- Texts of Lx6, Lx7, Lx8, Lx9. Own work of the verifier. -/
import Derived.Test.YtfgmenkoeflhaaaGreatDoorUqbp
import Derived.Test.YtfgmenkoeflhaaaGreatDoorUqbo
namespace Go.Proofs.YtfgmenkoeflhaaaGreatDoor
set_option maxRecDepth 100000
open Go Go.RowKit
set_option linter.unusedVariables false
def skipS (xs : List Int) (pos : Nat) : Int :=
 match layI xs pos with
 | none => -1
 | some n => (n : Nat)
theorem blk_last {xs : List Int} {i : Nat} (h : xs.length ≤ i + 1) : blkI xs i = none := by
 rcases Nat.lt_or_ge i xs.length with h' | h'
 ·rw [blk_step xs i h', byteI_ge (i := i + 1) h, if_neg (by omega), blk_end xs (i + 1) h]
 ·exact blk_end xs i h'
theorem blank_ends {x : Int} (h0 : 0 ≤ x) : blankB x = true ↔ (endsI x = true ∧ x ≠ -1 ∧ x ≠ 37) := by
 simp only [blankB, endsI, Bool.or_eq_true, beq_iff_eq, decide_eq_true_eq]; omega
set_option maxHeartbeats 6000000 in
theorem skipS_any (b cap pos : Nat) (xs : List Int) (w : World) (hb : Bytes xs) (hn : xs.length ≤ 10000) (hp : pos < xs.length) (hc : ∀ m, m < xs.length → w.cell? ⟨b, m, none⟩ = some (.int .u8 (xs.getD m 0))) :
 Calls Tryz.prog 12 #[.slice (some ⟨b, 0, none⟩) xs.length cap, .int .i64 pos] w fun e w' => e = .returned (.int .i64 (skipS xs pos)) ∧ w' = w := by
 obtain ⟨n, en⟩ : ∃ n, n = xs.length := ⟨_, rfl⟩
 rw [← en] at hn hp ⊢; have HN : Hid (n = xs.length) := en
 have HC : Hid (∀ m, m < n → w.cell? ⟨b, m, none⟩ = some (.int .u8 (xs.getD m 0))) := by rw [en]; exact hc
 have HBY : Hid (Bytes xs) := hb; have hx := hc pos (by omega); have hrx := hb.at pos; have hbx : byteI xs pos = xs.getD pos 0 := byteI_lt (by omega)
 have hlay : layI xs pos = if endsI (byteI xs pos) = true ∧ byteI xs pos ≠ -1 ∧ byteI xs pos ≠ 37 then some 1
  else if byteI xs pos = 37 then some (lineI xs pos)
  else if byteI xs pos = 47 ∧ byteI xs (pos + 1) = 42 then (match blkI xs (pos + 2) with
   | none => none
   | some j => some (j + 2 - pos))
  else some 0 := rfl
 obtain ⟨x, ex⟩ : ∃ x, x = xs.getD pos 0 := ⟨_, rfl⟩
 rw [← ex] at hx hrx hbx; rw [hbx] at hlay
 have RES : Hid (∀ (k : Int), skipS xs pos = k → Ending.returned (.int .i64 k) = .returned (.int .i64 (skipS xs pos))) := fun k h => by rw [h]
 have HBL := blank_any x w hrx.1 hrx.2; clear hb hc en hbx
 cases hbl : blankB x with
 | true =>
   have HF : Hid _ := RES.out 1 (by rw [skipS, hlay, if_pos ((blank_ends hrx.1).1 hbl)]; rfl); rw [hbl] at HBL; clear hlay RES hbl HC HBY ex
   go_enter Tryz.func12, Tryz.ntmps12
   go_wp2_with (go_at_call 30; refine HBL.mono ?_; rintro e w' ⟨rfl, rfl⟩); go_ret; exact ⟨HF.out, rfl⟩
 | false =>
   rw [if_neg (fun h => by rw [(blank_ends hrx.1).2 h] at hbl; cases hbl)] at hlay; rw [hbl] at HBL; clear hbl
   by_cases h37 : x = 37
   ·rw [if_pos h37] at hlay
    have HL : Hid (skipS xs pos = (lineI xs pos : Nat)) := by show _ = _; rw [skipS, hlay]
    have HX : Hid (xs.getD pos 0 = 37) := by show _ = _; rw [← ex]; exact h37
    subst h37; clear hlay ex
    go_enter Tryz.func12, Tryz.ntmps12
    go_wp2_with (go_at_call 30; refine HBL.mono ?_; rintro e w' ⟨rfl, hw'⟩; obtain rfl := hw'.symm)
    go_loop [5] (fun i => ∃ j : Nat, pos + j ≤ n ∧ i = .int .i64 j ∧ Hid (∀ m, m < j → ((xs.drop pos).getD m 0 != 10) = true)) (fun i => n - (intOf i).toNat)
    case atStart => exact ⟨0, by omega, rfl, fun _ h => absurd h (Nat.not_lt_zero _)⟩
    case round =>
     obtain ⟨j, hj, rfl, HM⟩ := hrel
     by_cases hlt : pos + j < n
     ·have hy := HC.out (pos + j) hlt
      obtain ⟨y, ey⟩ : ∃ y, y = xs.getD (pos + j) 0 := ⟨_, rfl⟩
      rw [← ey] at hy
      have HY : Hid (y = (xs.drop pos).getD j 0) := by rw [ey]; simp [List.getD, List.getElem?_drop, Hid]
      have hltI : (pos : Int) + j < n := by omega
      clear ey
      by_cases hy10 : y = 10
      ·have HE : Hid (lineI xs pos = j) := runLen_stop _ _ _ (by simp [← HN.out]; omega) HM.out (.inr (by rw [← HY.out, hy10]; rfl))
       have HF : Hid _ := RES.out (j : Nat) (by rw [HL.out, HE.out]); subst hy10; clear HC HBY RES HL HE; go_wp2_with fail; go_ret; exact ⟨HF.out, rfl⟩
      ·have hyb : (y != 10) = true := by simpa using hy10
       have HM1 : Hid (∀ m, m < j + 1 → ((xs.drop pos).getD m 0 != 10) = true) := fun m hm => by
        by_cases e : m = j
        ·subst e; rw [← HY.out]; exact hyb
        ·exact HM.out m (by omega)
       clear HC HBY RES HL hy10; go_wp2_with fail
       go_round
       case rel => exact ⟨j + 1, by omega, by go_num, HM1⟩
       case measure => simp [intOf]; omega
     ·have hltI : ¬ (pos : Int) + j < n := by omega
      have HE : Hid (lineI xs pos = j) := runLen_stop _ _ _ (by simp [← HN.out]; omega) HM.out (.inl (by simp [← HN.out]; omega)); have HF : Hid _ := RES.out (j : Nat) (by rw [HL.out, HE.out]); clear HC HBY RES HL HE; go_wp2_with fail; go_ret; exact ⟨HF.out, rfl⟩
   ·rw [if_neg h37] at hlay
    have hb37 : (x == 37) = false := by simpa using h37
    by_cases h47 : x = 47
    ·by_cases h1 : pos + 1 < n
     ·have hy := HC.out (pos + 1) h1
      have hby : byteI xs (pos + 1) = xs.getD (pos + 1) 0 := byteI_lt (by rw [← HN.out]; exact h1)
      obtain ⟨y, ey⟩ : ∃ y, y = xs.getD (pos + 1) 0 := ⟨_, rfl⟩
      rw [← ey] at hy hby; rw [hby] at hlay
      have h1I : ¬ ((n : Int) ≤ (pos : Int) + 1) := by omega
      clear ey hby
      by_cases h42 : y = 42
      ·rw [if_pos ⟨h47, h42⟩] at hlay
       subst h47 h42
       have HB : Hid (skipS xs pos = match blkI xs (pos + 2) with
        | none => -1
        | some j => ((j + 2 - pos : Nat) : Int)) := by
        show _ = _
        rw [skipS, hlay]
        cases blkI xs (pos + 2) <;> rfl
       clear hlay ex
       go_enter Tryz.func12, Tryz.ntmps12
       go_wp2_with (go_at_call 30; refine HBL.mono ?_; rintro e w' ⟨rfl, hw'⟩; obtain rfl := hw'.symm)
       go_loop [5] (fun i => ∃ j : Nat, 2 ≤ j ∧ pos + j ≤ n + 2 ∧ i = .int .i64 j ∧ Hid (blkI xs (pos + j) = blkI xs (pos + 2))) (fun i => n + 3 - (intOf i).toNat)
       case atStart => exact ⟨2, by omega, by omega, rfl, rfl⟩
       case round =>
        obtain ⟨j, hj2, hj, rfl, HM⟩ := hrel
        by_cases hlt : pos + j + 1 < n
        ·have hu := HC.out (pos + j) (by omega)
         have hv := HC.out (pos + j + 1) hlt; have hst := blk_step xs (pos + j) (by rw [← HN.out]; omega); rw [byteI_lt (by rw [← HN.out]; omega), byteI_lt (i := pos + j + 1) (by rw [← HN.out]; omega)] at hst
         obtain ⟨u, eu⟩ : ∃ u, u = xs.getD (pos + j) 0 := ⟨_, rfl⟩
         obtain ⟨v, ev⟩ : ∃ v, v = xs.getD (pos + j + 1) 0 := ⟨_, rfl⟩
         rw [← eu] at hu; rw [← ev] at hv; rw [← eu, ← ev] at hst
         have hltI : (pos : Int) + j + 1 < n := by omega
         clear eu ev
         by_cases hu42 : u = 42
         ·by_cases hv47 : v = 47
          ·rw [if_pos ⟨hu42, hv47⟩] at hst
           have HF : Hid _ := RES.out ((j : Int) + 2) (by rw [HB.out, ← HM.out, hst]; simp only; omega); subst hu42 hv47; clear HC HBY RES HB hst; go_wp2_with fail; go_ret; exact ⟨HF.out, rfl⟩
          ·rw [if_neg (fun h => hv47 h.2)] at hst
           have HM1 : Hid (blkI xs (pos + (j + 1)) = blkI xs (pos + 2)) := by show _ = _; rw [← HM.out, hst]; rfl
           have hvb : (v == 47) = false := by simpa using hv47
           subst hu42; clear HC HBY RES HB hst hv47; go_wp2_with fail
           go_round
           case rel => exact ⟨j + 1, by omega, by omega, by go_num, HM1⟩
           case measure => simp [intOf]; omega
         ·rw [if_neg (fun h => hu42 h.1)] at hst
          have HM1 : Hid (blkI xs (pos + (j + 1)) = blkI xs (pos + 2)) := by show _ = _; rw [← HM.out, hst]; rfl
          have hub : (u == 42) = false := by simpa using hu42
          clear HC HBY RES HB hst hu42; go_wp2_with fail
          go_round
          case rel => exact ⟨j + 1, by omega, by omega, by go_num, HM1⟩
          case measure => simp [intOf]; omega
        ·have hltI : ¬ (pos : Int) + j + 1 < n := by omega
         have HF : Hid _ := RES.out (-1) (by rw [HB.out, ← HM.out, blk_last (by rw [← HN.out]; omega)]); clear HC HBY RES HB; go_wp2_with fail; go_ret; exact ⟨HF.out, rfl⟩
      ·rw [if_neg (fun h => h42 h.2)] at hlay
       have HF : Hid _ := RES.out 0 (by rw [skipS, hlay]; rfl)
       have hyb : (y != 42) = true := by simpa using h42
       subst h47; clear hlay ex HC HBY RES h42
       go_enter Tryz.func12, Tryz.ntmps12
       go_wp2_with (go_at_call 30; refine HBL.mono ?_; rintro e w' ⟨rfl, rfl⟩); go_ret; exact ⟨HF.out, rfl⟩
     ·have h1I : (n : Int) ≤ (pos : Int) + 1 := by omega
      rw [byteI_ge (i := pos + 1) (by rw [← HN.out]; omega), if_neg (by omega)] at hlay; have HF : Hid _ := RES.out 0 (by rw [skipS, hlay]; rfl); subst h47; clear hlay ex HC HBY RES
      go_enter Tryz.func12, Tryz.ntmps12
      go_wp2_with (go_at_call 30; refine HBL.mono ?_; rintro e w' ⟨rfl, rfl⟩); go_ret; exact ⟨HF.out, rfl⟩
    ·rw [if_neg (fun h => h47 h.1)] at hlay
     have HF : Hid _ := RES.out 0 (by rw [skipS, hlay]; rfl)
     have hb47 : (x != 47) = true := by simpa using h47
     clear hlay ex HC HBY RES h47 h37
     go_enter Tryz.func12, Tryz.ntmps12
     go_wp2_with (go_at_call 30; refine HBL.mono ?_; rintro e w' ⟨rfl, rfl⟩); go_ret; exact ⟨HF.out, rfl⟩
theorem cls_all : (List.range 256).all (fun c => (isOfB c 1 == smallB c) && (isOfB c 4 == digitB c) && (isOfB c 2 == (alnumB c && !smallB c && !digitB c)) && (isOfB c 8 == symbolB c) && (isOfB c 32 == (decide ((c : Int) = 33) || decide ((c : Int) = 59))) &&
 (isOfB c 64 == (decide ((c : Int) = 40) || decide ((c : Int) = 41) || decide ((c : Int) = 91) || decide ((c : Int) = 93) || decide ((c : Int) = 123) || decide ((c : Int) = 125) || decide ((c : Int) = 44) || decide ((c : Int) = 124))) && (isOfB c 7 == alnumB c)) = true := by decide +kernel
theorem cls_at {c : Int} (h0 : 0 ≤ c) (h1 : c < 256) : isOfB c 1 = smallB c ∧ isOfB c 4 = digitB c ∧ isOfB c 2 = (alnumB c && !smallB c && !digitB c) ∧ isOfB c 8 = symbolB c ∧ isOfB c 32 = (decide (c = 33) || decide (c = 59)) ∧
 isOfB c 64 = (decide (c = 40) || decide (c = 41) || decide (c = 91) || decide (c = 93) || decide (c = 123) || decide (c = 125) || decide (c = 44) || decide (c = 124)) ∧ isOfB c 7 = alnumB c := by
 have h := List.all_eq_true.1 cls_all c.toNat (by simp; omega); rw [show ((c.toNat : Nat) : Int) = c by omega] at h; simp only [Bool.and_eq_true, beq_iff_eq] at h; obtain ⟨⟨⟨⟨⟨⟨h1, h2⟩, h3⟩, h4⟩, h5⟩, h6⟩, h7⟩ := h; exact ⟨h1, h2, h3, h4, h5, h6, h7⟩
theorem runLen_congr {f g : Int → Bool} : ∀ (xs : List Int), (∀ x ∈ xs, f x = g x) → runLen f xs = runLen g xs
 | [], _ => rfl
 | x :: r, h => by
   unfold runLen
   rw [h x (List.mem_cons_self ..), runLen_congr r (fun y hy => h y (List.mem_cons_of_mem _ hy))]
theorem runI_alnum {xs : List Int} (hb : Bytes xs) (pos : Nat) : runI 7 xs pos = runLen (clsB false) (xs.drop pos) := runLen_congr _ (fun x hx => by
 have := hb x (List.mem_of_mem_drop hx)
 exact (cls_at this.1 this.2).2.2.2.2.2.2)
theorem runI_symbol {xs : List Int} (hb : Bytes xs) (pos : Nat) : runI 8 xs pos = runLen (clsB true) (xs.drop pos) := runLen_congr _ (fun x hx => by
 have := hb x (List.mem_of_mem_drop hx)
 exact (cls_at this.1 this.2).2.2.2.1)
def TokSOut (w : World) (pos : Nat) (r : TokR) (e : Ending) (w' : World) : Prop :=
 match r with
 | .ok (kind, len, ys, v) => ∃ p n c, e = .returned (.tuple #[tokV kind pos len p n c v, .int .i64 0]) ∧ OwnS w' w.heap.size p n c ys ∧ Below w.heap.size w w'
 | .error code => ∃ k a l v, e = .returned (.tuple #[tokV k a l none 0 0 v, .int .i64 code]) ∧ Below w.heap.size w w'
theorem tokSOut_of {w w' : World} {pos : Nat} {e : Ending} {r r' : TokR} (h : TokSOut w pos r e w') (er : r' = r) : TokSOut w pos r' e w' := er ▸ h
set_option maxHeartbeats 8000000 in
theorem tokBad_any (b cap pos : Nat) (call : Bool) (xs : List Int) (w : World) (hb : Bytes xs) (hn : xs.length ≤ 10000) (hp : pos < xs.length) (hc : ∀ m, m < xs.length → w.cell? ⟨b, m, none⟩ = some (.int .u8 (xs.getD m 0)))
 (hd : digitB (xs.getD pos 0) = false) (ha : alnumB (xs.getD pos 0) = false) (hs : symbolB (xs.getD pos 0) = false) (h32 : isOfB (xs.getD pos 0) 32 = false) (h64 : isOfB (xs.getD pos 0) 64 = false) (h39 : xs.getD pos 0 ≠ 39) (h34 : xs.getD pos 0 ≠ 34) :
 Calls Tryz.prog 13 #[.slice (some ⟨b, 0, none⟩) xs.length cap, .int .i64 pos, .bool call] w (TokSOut w pos (.error 2)) := by
 obtain ⟨n, en⟩ : ∃ n, n = xs.length := ⟨_, rfl⟩
 have hx := hc pos hp; have hr := hb.at pos
 obtain ⟨x, ex⟩ : ∃ x, x = xs.getD pos 0 := ⟨_, rfl⟩
 rw [← ex] at hx hr hd ha hs h32 h64 h39 h34; obtain ⟨q1, q2, q3, q4, q5, q6, q7⟩ := cls_at hr.1 hr.2; rw [h32] at q5; rw [h64] at q6; simp only [Bool.or_eq_false_iff, decide_eq_false_iff_not, eq_comm (a := false)] at q5 q6
 have HD := fun W => digit_any x W hr.1 hr.2
 have HA := fun W => alnum_any x W hr.1 hr.2
 have HS := fun W => symbol_any x W hr.1 hr.2
 rw [hd] at HD; rw [ha] at HA; rw [hs] at HS; rw [← en] at hp hn ⊢
 have b33 : (x == 33) = false := by simpa using q5.1
 have b59 : (x == 59) = false := by simpa using q5.2
 have b39 : (x == 39) = false := by simpa using h39
 have b34 : (x == 34) = false := by simpa using h34
 have b46 : (x == 46) = false := by
  cases hh : (x == 46) with
  | false => rfl
  | true => simp at hh; subst hh; exact absurd hs (by decide)
 have b40 : (x == 40) = false := by simpa using q6.1.1.1.1.1.1.1
 have b41 : (x == 41) = false := by simpa using q6.1.1.1.1.1.1.2
 have b91 : (x == 91) = false := by simpa using q6.1.1.1.1.1.2
 have b93 : (x == 93) = false := by simpa using q6.1.1.1.1.2
 have b123 : (x == 123) = false := by simpa using q6.1.1.1.2
 have b125 : (x == 125) = false := by simpa using q6.1.1.2
 have b44 : (x == 44) = false := by simpa using q6.1.2
 have b124 : (x == 124) = false := by simpa using q6.2
 have hxa : ((w.alloc tokO).alloc tokO).cell? ⟨b, pos, none⟩ = some (.int .u8 x) := Lib.cell?_alloc_marked _ (Lib.cell?_alloc_marked _ hx); have hbl : b < w.heap.size := World.block_lt_of_cell? _ _ hx; clear hb hc ex q1 q2 q3 q4 q5 q6 q7 h32 h64 hd ha hs h39 h34 en
 go_enter Tryz.func13, Tryz.ntmps13
 go_wp2_with (first | (go_at_call 31; refine (HD _).mono ?_; rintro e w' ⟨rfl, rfl⟩) | (go_at_call 33; refine (HA _).mono ?_; rintro e w' ⟨rfl, rfl⟩) | (go_at_call 36; refine (HS _).mono ?_; rintro e w' ⟨rfl, rfl⟩)); refine bodyPost_ret (v := .tuple #[tokV 0 0 0 none 0 0 0, .int .i64 2]) (by simp [results, Tryz.results13, go_sem]) rfl ?_; exact ⟨0, 0, 0, 0, rfl, ((Below.refl _ _).alloc (Nat.le_refl _) _).alloc (by simp) _⟩
abbrev tokB (k a l : Int) : Obj := .cells #[.int .i64 k, .int .i64 a, .int .i64 l, .slice none 0 0, .int .i64 0] 28
theorem five_cells {w : World} {g : Nat} {u0 u1 u2 u3 u4 : Value} (h : w.heap[g]? = some (.cells #[u0, u1, u2, u3, u4] 28)) : (w.cell? ⟨g, 0, none⟩ = some u0 ∧ w.cell? ⟨g, 1, none⟩ = some u1 ∧ w.cell? ⟨g, 2, none⟩ = some u2 ∧ w.cell? ⟨g, 3, none⟩ = some u3 ∧ w.cell? ⟨g, 4, none⟩ = some u4) ∧ ∀ i, w.frozen? ⟨g, i, none⟩ = false :=
 ⟨⟨by unfold World.cell?; rw [h]; rfl, by unfold World.cell?; rw [h]; rfl, by unfold World.cell?; rw [h]; rfl, by unfold World.cell?; rw [h]; rfl, by unfold World.cell?; rw [h]; rfl⟩, fun i => frozen_of_row _ _ _ _ _ h⟩
theorem bin_part {w : World} {b pos l : Nat} {xs : List Int} (hc : ∀ m, m < xs.length → w.cell? ⟨b, m, none⟩ = some (.int .u8 (xs.getD m 0))) (hl : pos + l ≤ xs.length) : BIn w (some ⟨b, pos, none⟩) ((xs.drop pos).take l) := fun _ => ⟨b, pos, rfl, fun i hi => by
 have hi' : i < l := by simp at hi; omega
 rw [hc (pos + i) (by omega), List.getD, List.getD, List.getElem?_take_of_lt hi', List.getElem?_drop]⟩
theorem OwnS.mono' {w : World} {B B' : Nat} {p : Option Addr} {n c : Nat} {ys : List Int} (h : OwnS w B p n c ys) (hB : B' ≤ B) : OwnS w B' p n c ys := h.mono hB
theorem OwnS.setLow {w : World} {B : Nat} {p : Option Addr} {n c : Nat} {ys : List Int} (h : OwnS w B p n c ys) {a : Addr} (ha : a.block < B) (u : Value) : OwnS (w.setCell a u) B p n c ys := by
 refine ⟨h.1, ownsRow_setCell_other h.2 (fun e => ?_) u⟩; have := (h.2.lt a.block e).1
 omega
theorem tok_fin {w W2 w5 : World} {p5 : Option Addr} {n5 c5 : Nat} {ys : List Int} (hB2 : Below w.heap.size w W2) (hs2 : W2.heap.size = w.heap.size + 1 + 1) (hb5 : Below W2.heap.size W2 w5) (ho5 : OwnS w5 W2.heap.size p5 n5 c5 ys) (u u0 u1 u2 u3 u4 : Value) :
 OwnS ((((((w5.setCell ⟨w.heap.size + 1, 3, none⟩ u).setCell ⟨w.heap.size, 0, none⟩ u0).setCell ⟨w.heap.size, 1, none⟩ u1).setCell ⟨w.heap.size, 2, none⟩ u2).setCell ⟨w.heap.size, 3, none⟩ u3).setCell ⟨w.heap.size, 4, none⟩ u4) w.heap.size p5 n5 c5 ys ∧
 Below w.heap.size w ((((((w5.setCell ⟨w.heap.size + 1, 3, none⟩ u).setCell ⟨w.heap.size, 0, none⟩ u0).setCell ⟨w.heap.size, 1, none⟩ u1).setCell ⟨w.heap.size, 2, none⟩ u2).setCell ⟨w.heap.size, 3, none⟩ u3).setCell ⟨w.heap.size, 4, none⟩ u4) := by
 have h0 : ∀ j, (⟨w.heap.size, j, none⟩ : Addr).block < W2.heap.size := fun j => by show w.heap.size < _; omega
 refine ⟨((((((ho5.setLow (a := ⟨w.heap.size + 1, 3, none⟩) (by show w.heap.size + 1 < _; omega) u).setLow (h0 0) u0).setLow (h0 1) u1).setLow (h0 2) u2).setLow (h0 3) u3).setLow (h0 4) u4).mono' (by omega), ?_⟩; have hb : Below w.heap.size w w5 := Below.on hB2 hb5; exact (((((hb.setCell (p := ⟨w.heap.size + 1, 3, none⟩) (by show w.heap.size ≤ w.heap.size + 1; omega) u).setCell (p := ⟨w.heap.size, 0, none⟩) (Nat.le_refl _) u0).setCell (p := ⟨w.heap.size, 1, none⟩) (Nat.le_refl _) u1).setCell (p := ⟨w.heap.size, 2, none⟩) (Nat.le_refl _) u2).setCell (p := ⟨w.heap.size, 3, none⟩) (Nat.le_refl _) u3).setCell (p := ⟨w.heap.size, 4, none⟩) (Nat.le_refl _) u4
set_option maxHeartbeats 8000000 in
theorem tokOne_any (b cap pos : Nat) (call : Bool) (xs : List Int) (w : World) (hb : Bytes xs) (hn : xs.length ≤ 10000) (hcap : xs.length ≤ cap) (hp : pos < xs.length) (hc : ∀ m, m < xs.length → w.cell? ⟨b, m, none⟩ = some (.int .u8 (xs.getD m 0)))
 (hone : xs.getD pos 0 = 33 ∨ xs.getD pos 0 = 59) :
 Calls Tryz.prog 13 #[.slice (some ⟨b, 0, none⟩) xs.length cap, .int .i64 pos, .bool call] w (TokSOut w pos (.ok (1, 1, [xs.getD pos 0], 0))) := by
 obtain ⟨n, en⟩ : ∃ n, n = xs.length := ⟨_, rfl⟩
 have hx := hc pos hp; have hr := hb.at pos
 have hys : (xs.drop pos).take 1 = [xs.getD pos 0] := by
  rw [List.getD, List.getElem?_eq_getElem hp, List.drop_eq_getElem_cons hp]; rfl
 have HB2 : Below w.heap.size w ((w.alloc tokO).alloc (tokB 1 pos 1)) := ((Below.refl _ _).alloc (Nat.le_refl _) _).alloc (by simp) _; have HCP := l1copy_all (some ⟨b, pos, none⟩) 1 (cap - pos) ((xs.drop pos).take 1) ((w.alloc tokO).alloc (tokB 1 pos 1)) (by simp; omega) (by simp) ((bin_part hc (by omega)).below HB2); rw [hys] at HCP
 obtain ⟨x, ex⟩ : ∃ x, x = xs.getD pos 0 := ⟨_, rfl⟩
 rw [← ex] at hx hr hone HCP ⊢; rw [← en] at hn hcap hp ⊢
 have hd : digitB x = false := by rcases hone with rfl | rfl <;> decide
 have ha : alnumB x = false := by rcases hone with rfl | rfl <;> decide
 have hs : symbolB x = false := by rcases hone with rfl | rfl <;> decide
 have b46 : (x == 46) = false := by rcases hone with rfl | rfl <;> decide
 have HD := fun W => digit_any x W hr.1 hr.2
 have HA := fun W => alnum_any x W hr.1 hr.2
 have HS := fun W => symbol_any x W hr.1 hr.2
 rw [hd] at HD; rw [ha] at HA; rw [hs] at HS; have hbl : b < w.heap.size := World.block_lt_of_cell? _ _ hx
 have hcp1 : ¬ cap = pos := by omega
 have hp0 : (0 : Int) ≤ (pos : Int) := by omega
 have hp1 : (0 : Int) ≤ (pos : Int) + 1 := by omega
 have hp2 : (pos : Int) + 1 ≤ (cap : Int) := by omega
 have hp3 : (pos : Int) ≤ (pos : Int) + 1 := by omega
 have hto : ((pos : Int) + 1).toNat = pos + 1 := by omega
 have hsub : pos + 1 - pos = 1 := by omega
 have G1 : ((w.alloc tokO).alloc (tokB 1 pos 1)).heap[w.heap.size]? = some tokO := (Below.heap_alloc _ _ _ (by simp)).trans (heap_alloc_new _ _)
 have G2 : ((w.alloc tokO).alloc (tokB 1 pos 1)).heap[w.heap.size + 1]? = some (tokB 1 pos 1) := by
  have := heap_alloc_new (w.alloc tokO) (tokB 1 pos 1)
  rwa [World.size_alloc] at this
 have HG1 : Hid _ := G1; have HG2 : Hid _ := G2; have HBB : Hid _ := HB2; clear hb hc ex hd ha hs en hys HB2 G1 G2
 rcases hone with rfl | rfl
 all_goals
  go_enter Tryz.func13, Tryz.ntmps13
  go_wp2_with (first | (go_at_call 31; refine (HD _).mono ?_; rintro e w' ⟨rfl, rfl⟩) | (go_at_call 33; refine (HA _).mono ?_; rintro e w' ⟨rfl, rfl⟩) | (go_at_call 36; refine (HS _).mono ?_; rintro e w' ⟨rfl, rfl⟩)); refine HCP.mono ?_; rintro e w5 ⟨p5, n5, c5, rfl, ho5, hb5⟩; obtain ⟨⟨a0, a1, a2, a3, a4⟩, af⟩ := five_cells ((hb5.block _ (by simp; omega)).trans HG1.out); obtain ⟨⟨e0, e1, e2, e3, e4⟩, ef⟩ := five_cells ((hb5.block _ (by simp)).trans HG2.out); have HO5 : Hid _ := ho5; have HB5 : Hid _ := hb5; have hn5 : n5 = 1 := ho5.1; subst hn5; clear ho5 hb5 HCP; go_wp2_with fail; refine bodyPost_ret (v := .tuple #[tokV 1 pos 1 p5 1 c5 0, .int .i64 0]) (by simp [results, Tryz.results13, go_sem, a0, a1, a2, a3, a4]) rfl ?_; have hf := tok_fin HBB.out (by simp) HB5.out HO5.out (.slice p5 1 c5) (.int .i64 1) (.int .i64 pos) (.int .i64 1) (.slice p5 1 c5) (.int .i64 0)
  exact ⟨p5, 1, c5, rfl, hf.1, hf.2⟩
set_option maxHeartbeats 8000000 in
theorem tokSmall_any (b cap pos : Nat) (call : Bool) (xs : List Int) (w : World) (hb : Bytes xs) (hn : xs.length ≤ 10000) (hcap : xs.length ≤ cap) (hp : pos < xs.length) (hc : ∀ m, m < xs.length → w.cell? ⟨b, m, none⟩ = some (.int .u8 (xs.getD m 0))) (hd : digitB (xs.getD pos 0) = false) (ha : alnumB (xs.getD pos 0) = true) (hs : smallB (xs.getD pos 0) = true) :
 Calls Tryz.prog 13 #[.slice (some ⟨b, 0, none⟩) xs.length cap, .int .i64 pos, .bool call] w (TokSOut w pos (runR xs pos 1 7)) := by
 have hrun := runI_alnum hb pos; have hle := runLen_le (clsB false) (xs.drop pos); rw [List.length_drop] at hle; have HB1 : Below w.heap.size w ((w.alloc tokO).alloc (tokB 1 pos 0)) := ((Below.refl _ _).alloc (Nat.le_refl _) _).alloc (by simp) _; have HRUN := l1run_any b cap xs pos false ((w.alloc tokO).alloc (tokB 1 pos 0)) hb (by omega) (by omega) (fun i hi => (HB1.cell (World.block_lt_of_cell? _ _ (hc i hi))).trans (hc i hi))
 have hrr : runR xs pos 1 7 = if 100 < runI 7 xs pos then .error 3 else .ok (1, runI 7 xs pos, (xs.drop pos).take (runI 7 xs pos), 0) := rfl
 rw [hrun] at hrr
 obtain ⟨L, eL⟩ : ∃ L, L = runLen (clsB false) (xs.drop pos) := ⟨_, rfl⟩
 rw [← eL] at hle HRUN hrr; have HRR : Hid _ := hrr; have HB2 : Below w.heap.size w ((w.alloc tokO).alloc (tokB 1 pos L)) := ((Below.refl _ _).alloc (Nat.le_refl _) _).alloc (by simp) _
 have hLn : pos + L ≤ xs.length := by omega
 have hlen : ((xs.drop pos).take L).length = L := by simp; omega
 have HCP := l1copy_all (some ⟨b, pos, none⟩) L (cap - pos) ((xs.drop pos).take L) ((w.alloc tokO).alloc (tokB 1 pos L)) hlen.symm (by omega) ((bin_part hc hLn).below HB2); have HLEN : Hid (((xs.drop pos).take L).length = L) := hlen; have hx := hc pos hp; have hr := hb.at pos
 obtain ⟨ys, eys⟩ : ∃ ys, ys = (xs.drop pos).take L := ⟨_, rfl⟩
 rw [← eys] at HCP HLEN HRR
 obtain ⟨n, en⟩ : ∃ n, n = xs.length := ⟨_, rfl⟩
 obtain ⟨x, ex⟩ : ∃ x, x = xs.getD pos 0 := ⟨_, rfl⟩
 rw [← ex] at hx hr hd ha hs
 have HD := fun W => digit_any x W hr.1 hr.2
 have HA := fun W => alnum_any x W hr.1 hr.2
 have HS := fun W => symbol_any x W hr.1 hr.2
 have HSM := fun W => small_any x W hr.1 hr.2
 rw [← en] at hn hcap hp HRUN ⊢; have hbl : b < w.heap.size := World.block_lt_of_cell? _ _ hx
 have hL3 : L ≤ 10000 := by omega
 have hcp1 : ¬ cap = pos := by omega
 have hp0 : (0 : Int) ≤ (pos : Int) := by omega
 have hp1 : (0 : Int) ≤ (pos : Int) + L := by omega
 have hp2 : (pos : Int) + L ≤ (cap : Int) := by omega
 have hp3 : (pos : Int) ≤ (pos : Int) + L := by omega
 have hto : ((pos : Int) + L).toNat = pos + L := by omega
 have hsub : pos + L - pos = L := by omega
 have G1 : ((w.alloc tokO).alloc (tokB 1 pos L)).heap[w.heap.size]? = some tokO := (Below.heap_alloc _ _ _ (by simp)).trans (heap_alloc_new _ _)
 have G2 : ((w.alloc tokO).alloc (tokB 1 pos L)).heap[w.heap.size + 1]? = some (tokB 1 pos L) := by
  have := heap_alloc_new (w.alloc tokO) (tokB 1 pos L)
  rwa [World.size_alloc] at this
 have HG1 : Hid _ := G1; have HG2 : Hid _ := G2; have HBB : Hid _ := HB2; clear hb hc ex en HB1 HB2 G1 G2 eys eL hle hrun hrr hlen hLn; rw [hd] at HD; rw [ha] at HA; rw [hs] at HSM; clear hd ha hs
 go_enter Tryz.func13, Tryz.ntmps13
 go_wp2_with (first | (go_at_call 31; refine (HD _).mono ?_; rintro e w' ⟨rfl, rfl⟩) | (go_at_call 33; refine (HA _).mono ?_; rintro e w' ⟨rfl, rfl⟩) | (go_at_call 36; refine (HS _).mono ?_; rintro e w' ⟨rfl, rfl⟩) | (go_at_call 34; refine HRUN.mono ?_; rintro e w' ⟨rfl, rfl⟩) | (go_at_call 35; refine (HSM _).mono ?_; rintro e w' ⟨rfl, rfl⟩)); refine HCP.mono ?_; rintro e w5 ⟨p5, n5, c5, rfl, ho5, hb5⟩; obtain ⟨⟨a0, a1, a2, a3, a4⟩, af⟩ := five_cells ((hb5.block _ (by simp; omega)).trans HG1.out); obtain ⟨⟨e0, e1, e2, e3, e4⟩, ef⟩ := five_cells ((hb5.block _ (by simp)).trans HG2.out); have HO5 : Hid _ := ho5; have HB5 : Hid _ := hb5; have hn5 : n5 = L := ho5.1.trans HLEN.out; subst hn5; clear ho5 hb5 HCP
 by_cases h100 : 100 < n5
 ·have h100I : (100 : Int) < n5 := by omega
  have hrr := HRR.out; rw [if_pos h100] at hrr; have HR3 : Hid _ := hrr; clear hrr HRR; go_wp2_with fail; refine bodyPost_ret (v := .tuple #[tokV 0 0 0 none 0 0 0, .int .i64 3]) (by simp [results, Tryz.results13, go_sem, a0, a1, a2, a3, a4]) rfl ?_; have hf := tok_fin HBB.out (by simp) HB5.out HO5.out (.slice p5 n5 c5) (.int .i64 0) (.int .i64 0) (.int .i64 0) (.slice none 0 0) (.int .i64 0); exact tokSOut_of (r := .error 3) ⟨0, 0, 0, 0, rfl, hf.2⟩ HR3.out
 ·have h100I : ¬ (100 : Int) < n5 := by omega
  have hrr := HRR.out; rw [if_neg h100] at hrr; have HR3 : Hid _ := hrr; clear hrr HRR; go_wp2_with fail; refine bodyPost_ret (v := .tuple #[tokV 1 pos n5 p5 n5 c5 0, .int .i64 0]) (by simp [results, Tryz.results13, go_sem, a0, a1, a2, a3, a4]) rfl ?_; have hf := tok_fin HBB.out (by simp) HB5.out HO5.out (.slice p5 n5 c5) (.int .i64 1) (.int .i64 pos) (.int .i64 n5) (.slice p5 n5 c5) (.int .i64 0); exact tokSOut_of (r := .ok (1, n5, _, 0)) ⟨p5, n5, c5, rfl, hf.1, hf.2⟩ HR3.out
set_option maxHeartbeats 8000000 in
theorem tokLarge_any (b cap pos : Nat) (call : Bool) (xs : List Int) (w : World) (hb : Bytes xs) (hn : xs.length ≤ 10000) (hcap : xs.length ≤ cap) (hp : pos < xs.length) (hc : ∀ m, m < xs.length → w.cell? ⟨b, m, none⟩ = some (.int .u8 (xs.getD m 0))) (hd : digitB (xs.getD pos 0) = false) (ha : alnumB (xs.getD pos 0) = true) (hs : smallB (xs.getD pos 0) = false) :
 Calls Tryz.prog 13 #[.slice (some ⟨b, 0, none⟩) xs.length cap, .int .i64 pos, .bool call] w (TokSOut w pos (runR xs pos 2 7)) := by
 have hrun := runI_alnum hb pos; have hle := runLen_le (clsB false) (xs.drop pos); rw [List.length_drop] at hle; have HB1 : Below w.heap.size w ((w.alloc tokO).alloc (tokB 1 pos 0)) := ((Below.refl _ _).alloc (Nat.le_refl _) _).alloc (by simp) _; have HRUN := l1run_any b cap xs pos false ((w.alloc tokO).alloc (tokB 1 pos 0)) hb (by omega) (by omega) (fun i hi => (HB1.cell (World.block_lt_of_cell? _ _ (hc i hi))).trans (hc i hi))
 have hrr : runR xs pos 2 7 = if 100 < runI 7 xs pos then .error 3 else .ok (2, runI 7 xs pos, (xs.drop pos).take (runI 7 xs pos), 0) := rfl
 rw [hrun] at hrr
 obtain ⟨L, eL⟩ : ∃ L, L = runLen (clsB false) (xs.drop pos) := ⟨_, rfl⟩
 rw [← eL] at hle HRUN hrr; have HRR : Hid _ := hrr; have HB2 : Below w.heap.size w ((w.alloc tokO).alloc (tokB 2 pos L)) := ((Below.refl _ _).alloc (Nat.le_refl _) _).alloc (by simp) _
 have hLn : pos + L ≤ xs.length := by omega
 have hlen : ((xs.drop pos).take L).length = L := by simp; omega
 have HCP := l1copy_all (some ⟨b, pos, none⟩) L (cap - pos) ((xs.drop pos).take L) ((w.alloc tokO).alloc (tokB 2 pos L)) hlen.symm (by omega) ((bin_part hc hLn).below HB2); have HLEN : Hid (((xs.drop pos).take L).length = L) := hlen; have hx := hc pos hp; have hr := hb.at pos
 obtain ⟨ys, eys⟩ : ∃ ys, ys = (xs.drop pos).take L := ⟨_, rfl⟩
 rw [← eys] at HCP HLEN HRR
 obtain ⟨n, en⟩ : ∃ n, n = xs.length := ⟨_, rfl⟩
 obtain ⟨x, ex⟩ : ∃ x, x = xs.getD pos 0 := ⟨_, rfl⟩
 rw [← ex] at hx hr hd ha hs
 have HD := fun W => digit_any x W hr.1 hr.2
 have HA := fun W => alnum_any x W hr.1 hr.2
 have HS := fun W => symbol_any x W hr.1 hr.2
 have HSM := fun W => small_any x W hr.1 hr.2
 rw [← en] at hn hcap hp HRUN ⊢; have hbl : b < w.heap.size := World.block_lt_of_cell? _ _ hx
 have hL3 : L ≤ 10000 := by omega
 have hcp1 : ¬ cap = pos := by omega
 have hp0 : (0 : Int) ≤ (pos : Int) := by omega
 have hp1 : (0 : Int) ≤ (pos : Int) + L := by omega
 have hp2 : (pos : Int) + L ≤ (cap : Int) := by omega
 have hp3 : (pos : Int) ≤ (pos : Int) + L := by omega
 have hto : ((pos : Int) + L).toNat = pos + L := by omega
 have hsub : pos + L - pos = L := by omega
 have G1 : ((w.alloc tokO).alloc (tokB 2 pos L)).heap[w.heap.size]? = some tokO := (Below.heap_alloc _ _ _ (by simp)).trans (heap_alloc_new _ _)
 have G2 : ((w.alloc tokO).alloc (tokB 2 pos L)).heap[w.heap.size + 1]? = some (tokB 2 pos L) := by
  have := heap_alloc_new (w.alloc tokO) (tokB 2 pos L)
  rwa [World.size_alloc] at this
 have HG1 : Hid _ := G1; have HG2 : Hid _ := G2; have HBB : Hid _ := HB2; clear hb hc ex en HB1 HB2 G1 G2 eys eL hle hrun hrr hlen hLn; rw [hd] at HD; rw [ha] at HA; rw [hs] at HSM; clear hd ha hs
 go_enter Tryz.func13, Tryz.ntmps13
 go_wp2_with (first | (go_at_call 31; refine (HD _).mono ?_; rintro e w' ⟨rfl, rfl⟩) | (go_at_call 33; refine (HA _).mono ?_; rintro e w' ⟨rfl, rfl⟩) | (go_at_call 36; refine (HS _).mono ?_; rintro e w' ⟨rfl, rfl⟩) | (go_at_call 34; refine HRUN.mono ?_; rintro e w' ⟨rfl, rfl⟩) | (go_at_call 35; refine (HSM _).mono ?_; rintro e w' ⟨rfl, rfl⟩)); refine HCP.mono ?_; rintro e w5 ⟨p5, n5, c5, rfl, ho5, hb5⟩; obtain ⟨⟨a0, a1, a2, a3, a4⟩, af⟩ := five_cells ((hb5.block _ (by simp; omega)).trans HG1.out); obtain ⟨⟨e0, e1, e2, e3, e4⟩, ef⟩ := five_cells ((hb5.block _ (by simp)).trans HG2.out); have HO5 : Hid _ := ho5; have HB5 : Hid _ := hb5; have hn5 : n5 = L := ho5.1.trans HLEN.out; subst hn5; clear ho5 hb5 HCP
 by_cases h100 : 100 < n5
 ·have h100I : (100 : Int) < n5 := by omega
  have hrr := HRR.out; rw [if_pos h100] at hrr; have HR3 : Hid _ := hrr; clear hrr HRR; go_wp2_with fail; refine bodyPost_ret (v := .tuple #[tokV 0 0 0 none 0 0 0, .int .i64 3]) (by simp [results, Tryz.results13, go_sem, a0, a1, a2, a3, a4]) rfl ?_; have hf := tok_fin HBB.out (by simp) HB5.out HO5.out (.slice p5 n5 c5) (.int .i64 0) (.int .i64 0) (.int .i64 0) (.slice none 0 0) (.int .i64 0); exact tokSOut_of (r := .error 3) ⟨0, 0, 0, 0, rfl, hf.2⟩ HR3.out
 ·have h100I : ¬ (100 : Int) < n5 := by omega
  have hrr := HRR.out; rw [if_neg h100] at hrr; have HR3 : Hid _ := hrr; clear hrr HRR; go_wp2_with fail; refine bodyPost_ret (v := .tuple #[tokV 2 pos n5 p5 n5 c5 0, .int .i64 0]) (by simp [results, Tryz.results13, go_sem, a0, a1, a2, a3, a4]) rfl ?_; have hf := tok_fin HBB.out (by simp) HB5.out HO5.out (.slice p5 n5 c5) (.int .i64 2) (.int .i64 pos) (.int .i64 n5) (.slice p5 n5 c5) (.int .i64 0); exact tokSOut_of (r := .ok (2, n5, _, 0)) ⟨p5, n5, c5, rfl, hf.1, hf.2⟩ HR3.out
end Go.Proofs.YtfgmenkoeflhaaaGreatDoor
