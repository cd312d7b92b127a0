/- Texts of Scan4, Scan5, Scan6, Scan7. Own work of the verifier. -/
import Derived.Test.YtfgmenkoeflhaaaGreatDoorUqbk
namespace Go.Proofs.YtfgmenkoeflhaaaGreatDoor
set_option maxRecDepth 100000
open Go Go.RowKit
set_option linter.unusedVariables false
set_option linter.unusedSimpArgs false
def runI (k : Int) (xs : List Int) (pos : Nat) : Nat := runLen (isOfB · k) (xs.drop pos)
theorem runI_le (k : Int) (xs : List Int) (pos : Nat) (h : pos ≤ xs.length) : pos + runI k xs pos ≤ xs.length := by
 have := runLen_le (isOfB · k) (xs.drop pos)
 unfold runI
 simp at this
 omega
theorem byteI_drop {xs : List Int} {pos j : Nat} (h : pos + j < xs.length) : byteI xs (pos + j) = (xs.drop pos).getD j 0 := by
 rw [byteI_lt h]; simp [List.getD, List.getElem?_drop]
def Taken (w : World) (S : Nat) (kind : Int) (pos len : Nat) (ys : List Int) (e : Ending) (w' : World) : Prop :=
 (ys.length ≤ 100 ∧ ∃ p n c, e = .returned (tokV kind pos len p n c 0) ∧ OwnS w' w.heap.size p n c ys ∧ Moved w w' S (pos + len)) ∨
 (100 < ys.length ∧ Faults 3 pos e ∧ w.grownBy w' (some S))
set_option maxHeartbeats 1000000 in
theorem run_any (S b n c pos : Nat) (kind k : Int) (xs : List Int) (w : World) (hb : Bytes xs) (hn : n = xs.length) (hnc : n ≤ c) (hm0 : n ≤ 100000) (hp : pos < xs.length) (hk : isOfB (byteI xs pos) k = true)
 (h0 : w.cell? ⟨S, 0, none⟩ = some (.slice (some ⟨b, 0, none⟩) n c)) (h1 : w.cell? ⟨S, 1, none⟩ = some (.int .i64 pos)) (hf : w.frozen? ⟨S, 1, none⟩ = false) (hS : S < w.heap.size)
 (hc : ∀ i, i < xs.length → w.cell? ⟨b, i, none⟩ = some (.int .u8 (xs.getD i 0))) (hT : Tab w) :
 Calls Tryz.prog 70 #[.pointer (some ⟨S, 0, none⟩), .int .i64 kind, .int .u8 k] w fun e w' => Taken w S kind pos (runI k xs pos) ((xs.drop pos).take (runI k xs pos)) e w' := by
 have HC : Hid (∀ o i, i < xs.length → (w.alloc o).cell? ⟨b, i, none⟩ = some (.int .u8 (xs.getD i 0))) := fun o i hi => Lib.cell?_alloc_marked o (hc i hi)
 have HT : Hid (∀ o, Tab (w.alloc o)) := fun o i hi => Lib.cell?_alloc_marked o (hT i hi)
 have HN : Hid (n = xs.length) := hn; have HK : Hid (isOfB (byteI xs pos) k = true) := hk; have a0 : (w.alloc tokO).cell? ⟨S, 0, none⟩ = some (.slice (some ⟨b, 0, none⟩) n c) := Lib.cell?_alloc_marked _ h0; have a1 : (w.alloc tokO).cell? ⟨S, 1, none⟩ = some (.int .i64 pos) := Lib.cell?_alloc_marked _ h1
 have hlen : pos < n := by omega
 clear hc hT hn hk
 go_enter Tryz.func70, Tryz.ntmps70
 go_wp2
 go_loop [7] (fun i => ∃ m : Nat, pos + m ≤ n ∧ i = .int .i64 ((pos + m : Nat) : Int) ∧ Hid (∀ j, j < m → isOfB ((xs.drop pos).getD j 0) k = true)) (fun i => n - (intOf i).toNat)
 case atStart => exact ⟨0, by omega, by simp, fun _ h => absurd h (Nat.not_lt_zero _)⟩
 case round =>
  obtain ⟨m, hm, rfl, HM⟩ := hrel; have hr := byteI_rng hb (pos + m)
  obtain ⟨x, ex⟩ : ∃ x, x = byteI xs (pos + m) := ⟨_, rfl⟩
  rw [← ex] at hr; have HX : Hid (byteI xs (pos + m) = x) := ex.symm; clear ex
  cases ht : isOfB x k
  ·have HE : Hid (runI k xs pos = m) := runLen_stop _ _ _ (by simp; have := HN.out; omega) HM.out (by
    by_cases h : pos + m < xs.length
    ·right; have := byteI_drop h; rw [HX.out] at this; rw [← this]; exact ht
    ·left; simp; have := HN.out; omega)
   have HP : Hid (0 < m) := by
    rcases Nat.eq_zero_or_pos m with h | h
    ·subst h; have h2 := HX.out; rw [Nat.add_zero] at h2; have := HK.out; rw [h2, ht] at this; cases this
    ·exact h
   have hmp : 0 < m := HP.out; go_wp2_with (first | (go_at_call 67; refine (byteAt_any S b n c xs (pos + m) _ hb HN.out (by omega) (by omega) a0 (HC.out _)).mono ?_; rintro e w' ⟨rfl, rfl⟩; rw [HX.out]) | (go_at_call 43; refine (isOf_any _ _ _ (by omega) (by omega) (HT.out _)).mono ?_; rintro e w' ⟨rfl, rfl⟩))
   have hS0 : ((w.alloc tokO).drew.cell? ⟨S, 0, none⟩ = some (.slice (some ⟨b, 0, none⟩) n c) ∧ (w.alloc tokO).drew.cell? ⟨S, 1, none⟩ = some (.int .i64 pos)) := ⟨a0, a1⟩
   have b1 : ¬ c = pos := by omega
   have b2 : pos + m ≤ c := by omega
   have b3 : (0 : Int) ≤ (pos : Int) := by omega
   have b4 : (pos : Int) + m ≤ c := by omega
   have b5 : pos + m - pos = m := by omega
   have b6 : (0 : Int) ≤ (pos : Int) + m := by omega
   have b7 : ((pos : Int) + m).toNat = pos + m := by omega
   have hZ : n ≤ 100000 := hm0; refine wp_region_until (S := fun w' => w'.cell? ⟨S, 0, none⟩ = some (.slice (some ⟨b, 0, none⟩) n c) ∧ w'.cell? ⟨S, 1, none⟩ = some (.int .i64 pos)) (c := 14) (by kernel_rfl) ?_; refine wpAnyU_take (i := 0) (v := .pointer (some ⟨S, 0, none⟩)) (D := [14, 15]) (some 19) (by kernel_rfl) (by kernel_rfl) (by kernel_rfl) (by kernel_rfl) (by kernel_rfl) (by rfl) (by kernel_rfl) (fun _ _ _ h => h) (fun o ho => ?y0) (hS0) ?_
   case y0 =>
    cases ho
    refine .inl ⟨by kernel_rfl, fun w' hw => ?_⟩
    simp [execOp, go_sem, Act.eval, Act.put]
   refine wpAnyU_take (i := 1) (v := .int .i64 kind) (D := [14, 15]) (some 20) (by kernel_rfl) (by kernel_rfl) (by kernel_rfl) (by kernel_rfl) (by kernel_rfl) (by rfl) (by kernel_rfl) (fun _ _ _ h => h) (fun o ho => ?y1) (hS0) ?_
   case y1 =>
    cases ho
    refine .inl ⟨by kernel_rfl, fun w' hw => ?_⟩
    simp [execOp, go_sem, Act.eval, Act.put]
   refine wpAnyU_take (i := 2) (v := .int .i64 ((pos + m : Nat) : Int)) (D := [14, 15]) (some 21) (by kernel_rfl) (by kernel_rfl) (by kernel_rfl) (by kernel_rfl) (by kernel_rfl) (by rfl) (by kernel_rfl) (fun _ _ _ h => h) (fun o ho => ?y2) (hS0) ?_
   case y2 =>
    cases ho
    refine .inl ⟨by kernel_rfl, fun w' hw => ?_⟩
    simp [execOp, go_sem, Act.eval, Act.put]
   refine wpAnyU_take (i := 3) (v := .pointer (some ⟨S, 0, none⟩)) (D := [4, 5, 6, 12, 13, 14, 15]) (some 22) (by kernel_rfl) (by kernel_rfl) (by kernel_rfl) (by kernel_rfl) (by kernel_rfl) (by rfl) (by kernel_rfl) (fun _ _ _ h => h) (fun o ho => ?y3) (hS0) ?_
   case y3 =>
    cases ho
    refine .inl ⟨by kernel_rfl, fun w' hw => ?_⟩
    simp [execOp, go_sem, Act.eval, Act.put]
   refine wpAnyU_take (i := 4) (v := .pointer (some ⟨S, 0, none⟩)) (D := [5, 6, 12, 13, 14, 15]) (some 23) (by kernel_rfl) (by kernel_rfl) (by kernel_rfl) (by kernel_rfl) (by kernel_rfl) (by rfl) (by kernel_rfl) (fun _ _ _ h => h) (fun o ho => ?y4) (hS0) ?_
   case y4 =>
    cases ho
    refine .inl ⟨by kernel_rfl, fun w' hw => ?_⟩
    simp [execOp, go_sem, Act.eval, Act.put]
   refine wpAnyU_take (i := 5) (v := .pointer (some ⟨S, 0, none⟩)) (D := [6, 12, 13, 14, 15]) (some 24) (by kernel_rfl) (by kernel_rfl) (by kernel_rfl) (by kernel_rfl) (by kernel_rfl) (by rfl) (by kernel_rfl) (fun _ _ _ h => h) (fun o ho => ?y5) (hS0) ?_
   case y5 =>
    cases ho
    refine .inl ⟨by kernel_rfl, fun w' hw => ?_⟩
    simp [execOp, go_sem, Act.eval, Act.put]
   refine wpAnyU_take (i := 6) (v := .slice (some ⟨b, 0, none⟩) n c) (D := [12, 13, 14, 15]) (some 25) (by kernel_rfl) (by kernel_rfl) (by kernel_rfl) (by kernel_rfl) (by kernel_rfl) (by rfl) (by kernel_rfl) (fun _ _ _ h => h) (fun o ho => ?y6) (hS0) ?_
   case y6 =>
    cases ho
    refine .inl ⟨by kernel_rfl, fun w' hw => ?_⟩
    simp [execOp, go_sem, Act.eval, Act.put, hw.1]
   refine wpAnyU_take (i := 7) (v := .pointer (some ⟨S, 0, none⟩)) (D := [8, 9, 10, 12, 13, 14, 15]) (some 26) (by kernel_rfl) (by kernel_rfl) (by kernel_rfl) (by kernel_rfl) (by kernel_rfl) (by rfl) (by kernel_rfl) (fun _ _ _ h => h) (fun o ho => ?y7) (hS0) ?_
   case y7 =>
    cases ho
    refine .inl ⟨by kernel_rfl, fun w' hw => ?_⟩
    simp [execOp, go_sem, Act.eval, Act.put]
   refine wpAnyU_take (i := 8) (v := .pointer (some ⟨S, 0, none⟩)) (D := [9, 10, 12, 13, 14, 15]) (some 27) (by kernel_rfl) (by kernel_rfl) (by kernel_rfl) (by kernel_rfl) (by kernel_rfl) (by rfl) (by kernel_rfl) (fun _ _ _ h => h) (fun o ho => ?y8) (hS0) ?_
   case y8 =>
    cases ho
    refine .inl ⟨by kernel_rfl, fun w' hw => ?_⟩
    simp [execOp, go_sem, Act.eval, Act.put]
   refine wpAnyU_take (i := 9) (v := .pointer (some ⟨S, 1, none⟩)) (D := [10, 12, 13, 14, 15]) (some 28) (by kernel_rfl) (by kernel_rfl) (by kernel_rfl) (by kernel_rfl) (by kernel_rfl) (by rfl) (by kernel_rfl) (fun _ _ _ h => h) (fun o ho => ?y9) (hS0) ?_
   case y9 =>
    cases ho
    refine .inl ⟨by kernel_rfl, fun w' hw => ?_⟩
    simp [execOp, go_sem, Act.eval, Act.put]
   refine wpAnyU_take (i := 10) (v := .int .i64 pos) (D := [12, 13, 14, 15]) (some 29) (by kernel_rfl) (by kernel_rfl) (by kernel_rfl) (by kernel_rfl) (by kernel_rfl) (by rfl) (by kernel_rfl) (fun _ _ _ h => h) (fun o ho => ?y10) (hS0) ?_
   case y10 =>
    cases ho
    refine .inl ⟨by kernel_rfl, fun w' hw => ?_⟩
    simp [execOp, go_sem, Act.eval, Act.put, hw.2]
   refine wpAnyU_take (i := 11) (v := .int .i64 ((pos + m : Nat) : Int)) (D := [12, 13, 14, 15]) (some 30) (by kernel_rfl) (by kernel_rfl) (by kernel_rfl) (by kernel_rfl) (by kernel_rfl) (by rfl) (by kernel_rfl) (fun _ _ _ h => h) (fun o ho => ?y11) (hS0) ?_
   case y11 =>
    cases ho
    refine .inl ⟨by kernel_rfl, fun w' hw => ?_⟩
    simp [execOp, go_sem, Act.eval, Act.put]
   refine wpAnyU_take (i := 12) (v := .slice (some ⟨b, pos, none⟩) m (c - pos)) (D := [13, 14, 15]) (some 31) (by kernel_rfl) (by kernel_rfl) (by kernel_rfl) (by kernel_rfl) (by kernel_rfl) (by rfl) (by kernel_rfl) (fun _ _ _ h => h) (fun o ho => ?y12) (hS0) ?_
   case y12 =>
    cases ho
    refine .inl ⟨by kernel_rfl, fun w' hw => ?_⟩
    simp [execOp, go_sem, Act.eval, Act.put, b1, b2, b3, b4, b5, b6, b7]
   have hcl : ∀ i, i < ((xs.drop pos).take m).length → (w.alloc tokO).drew.cell? ⟨b, pos + i, none⟩ = some (.int .u8 (((xs.drop pos).take m).getD i 0)) := fun i hi => by
    have h2 : i < m := by simp at hi; omega
    have := HC.out tokO (pos + i) (by have := HN.out; omega); rw [show (w.alloc tokO).drew.cell? ⟨b, pos + i, none⟩ = (w.alloc tokO).cell? ⟨b, pos + i, none⟩ from rfl, this]
    simp [List.getD, List.getElem?_take, h2, List.getElem?_drop]
   have hml : m = ((xs.drop pos).take m).length := by simp; have := HN.out; omega
   have hblk0 : (w.alloc tokO).drew.heap[w.heap.size]? = some tokO := by show (w.heap.push tokO)[w.heap.size]? = _; simp
   refine wpAnyU_all (rs := [13]) (by kernel_rfl) (by decide) ?_
   intro i hi
   obtain rfl : i = 13 := by simpa using hi
   clear hi; refine wpOp_enter (some 32) (by kernel_rfl) (by kernel_rfl) (f := 19) (args := #[.slice (some ⟨b, pos, none⟩) m (c - pos)]) (w' := (w.alloc tokO).drew) (fun o ho => ?r13)
    (clone_any b pos m (c - pos) ((xs.drop pos).take m) (w.alloc tokO).drew hml hmp (by omega) hcl) ?k13 (fun ch w'' h => by obtain ⟨_, _, _, h, _⟩ := h; cases h) (fun w'' h => by obtain ⟨_, _, _, h, _⟩ := h; cases h)
   case r13 =>
    cases ho
    simp [execOp, go_sem, Act.eval, Act.put]
    rfl
   case k13 =>
    rintro u w1 ⟨p2, n2, c2, hu, hown2, hb2⟩
    cases hu
    have e0 : w1.cell? ⟨S, 0, none⟩ = some (.slice (some ⟨b, 0, none⟩) n c) := cell_later hb2 a0; have e1 : w1.cell? ⟨S, 1, none⟩ = some (.int .i64 pos) := cell_later hb2 a1
    have ef : w1.frozen? ⟨S, 1, none⟩ = false := by
     rw [hb2.frozen (p := ⟨S, 1, none⟩) (by show S < (w.alloc tokO).heap.size; simp; omega)]
     show (w.alloc tokO).frozen? _ = _
     rw [World.frozen?_alloc_past (hn := hS)]; exact hf
    have eS : S < w1.heap.size := Nat.lt_of_lt_of_le (by show S < (w.alloc tokO).heap.size; simp; omega) hb2.size
    have hn2 : n2 = m := by rw [hown2.1, ← hml]
    have hblk1 : w1.heap[w.heap.size]? = some tokO := (hb2.block w.heap.size (by show _ < (w.alloc tokO).heap.size; simp)).trans hblk0
    have hsz1 : w.heap.size + 1 ≤ w1.heap.size := by have := hb2.size; simp at this; omega
    have hB1 : Below w.heap.size w w1 := (((Below.refl _ w).alloc (Nat.le_refl _) tokO).drew).trans (hb2.mono (by simp)); refine ⟨fun _ => ⟨e0, e1⟩, ?_⟩
    by_cases hlong : 100 < m
    ·refine wpAnyU_all (rs := [14]) (by kernel_rfl) (by decide) ?_
     intro i hi
     obtain rfl : i = 14 := by simpa using hi
     clear hi; refine wpOp_enter (some 33) (by kernel_rfl) (by kernel_rfl) (f := 73) (args := #[.pointer (some ⟨S, 0, none⟩), .int .i64 kind, .int .i64 ((pos + m : Nat) : Int), .slice p2 n2 c2]) (w' := w1) (fun o ho => ?r14)
      (take_long S pos kind (pos + m) p2 n2 c2 w1 e1 eS (by omega) (by omega)) (fun u w2 h => by cases h.1) ?k14 (fun w'' h => by cases h.1)
     case r14 => cases ho; simp [execOp, go_sem, Act.eval, Act.put]
     case k14 =>
      rintro ch w2 ⟨hfa, hbl⟩; exact ⟨rfl, .inr ⟨by rw [HE.out, ← hml]; exact hlong, hfa, grown_of_below (Below.on hB1 hbl) _⟩⟩
    ·refine wpAnyU_all (rs := [14]) (by kernel_rfl) (by decide) ?_
     intro i hi
     obtain rfl : i = 14 := by simpa using hi
     clear hi; refine wpOp_enter (some 33) (by kernel_rfl) (by kernel_rfl) (f := 73) (args := #[.pointer (some ⟨S, 0, none⟩), .int .i64 kind, .int .i64 ((pos + m : Nat) : Int), .slice p2 n2 c2]) (w' := w1) (fun o ho => ?r14)
      (take_fits S pos kind (pos + m) p2 n2 c2 w1 e1 ef eS (by omega) (by omega) (by omega)) ?k14 (fun ch w'' h => by cases h.1) (fun w'' h => by cases h.1)
     case r14 => cases ho; simp [execOp, go_sem, Act.eval, Act.put]
     case k14 =>
      rintro u w2 ⟨hu, M⟩
      cases hu
      refine ⟨(fun h => by cases h), ?_⟩; refine wpAnyU_all (rs := [15]) (by kernel_rfl) (by decide) ?_
      intro i hi
      obtain rfl : i = 15 := by simpa using hi
      clear hi; have hblk : w2.heap[w.heap.size]? = some tokO := (M.grown.block w.heap.size (by omega) (by simp; omega)).trans hblk1
      have c0 : ∀ j, w2.cell? ⟨w.heap.size, j, none⟩ = (#[.int .i64 0, .int .i64 0, .int .i64 0, .slice none 0 0, .int .i64 0] : Array Value)[j]? := fun j => cell_of_row w2 w.heap.size j _ _ (0, 0) hblk
      have f0 : ∀ j, w2.frozen? ⟨w.heap.size, j, none⟩ = false := fun j => frozen_of_row w2 w.heap.size j _ _ hblk
      refine wpOp_skip none (by kernel_rfl) (by kernel_rfl) (w' := w2.setCells w.heap.size 0 [.int .i64 kind, .int .i64 pos, .int .i64 (((pos + m : Nat) : Int) - pos), .slice p2 n2 c2, .int .i64 0]) (fun o ho => ?r15) ⟨(fun h => by cases h), ?_⟩
      case r15 =>
       cases ho
       simp [execOp, go_sem, Act.eval, Act.put, c0, f0]
       rfl
      refine wpAnyU_done (by kernel_rfl) ?_ _; have hG := grown_set5 w2 w.heap.size (.int .i64 kind) (.int .i64 pos) (.int .i64 (((pos + m : Nat) : Int) - pos)) (.slice p2 n2 c2) (.int .i64 0)
      have hsz2 : w.heap.size ≤ w2.heap.size := by have := M.grown.size; omega
      have hM : Moved w _ S (pos + m) := Moved.onto hB1 M (Below.of_grown hG hsz2 (fun k e => by cases e; exact Nat.le_refl _)) hS
      have hform : ∀ g, p2 = some ⟨g, 0, none⟩ → w.heap.size + 1 ≤ g := fun g e => by
       rcases hown2.form with ⟨e', _⟩ | ⟨g', e', h, _⟩
       ·rw [e'] at e; cases e
       ·rw [e'] at e; cases e; simp at h; exact h
      have hO2 : OwnS w1 w.heap.size p2 n2 c2 ((xs.drop pos).take m) := ⟨hown2.1, hown2.2.1, hown2.2.2.imp id fun ⟨g, c, cur, a1, a2, a3⟩ => ⟨g, c, cur, a1, by simp at a2; omega, a3⟩⟩
      have hO3 := (hO2.kept M.grown (fun g e e' => by have := hform g e; simp only [Option.some.injEq] at e'; omega)).kept hG (fun g e e' => by have := hform g e; simp only [Option.some.injEq] at e'; omega); have HC0 : Hid (∀ j, w2.cell? ⟨w.heap.size, j, none⟩ = (#[.int .i64 0, .int .i64 0, .int .i64 0, .slice none 0 0, .int .i64 0] : Array Value)[j]?) := c0; have HO3 : Hid (OwnS _ _ _ _ _ _) := hO3; have HMV : Hid (Moved _ _ _ _) := hM
      have HLN : Hid (((xs.drop pos).take m).length ≤ 100) := by rw [← hml]; show _ ≤ _; omega
      clear hO2 M hG hO3 hM c0 f0 hblk hblk0 hblk1 hS0 e0 e1 ef eS a0 a1 h0 h1 hf hsz1 hsz2 hB1 hb2 hown2 hcl b1 b2 b3 b4 b5 b6 b7 hform hml hn2; simp only [Act.put, zzA, zzB, zzC]
      go_wp2
      refine bodyPost_ret (v := tokV kind pos m p2 n2 c2 0) (by simp [results, Tryz.results70, go_sem, World.setCells, HC0.out]; omega) rfl ?_
      unfold Taken
      rw [HE.out]; exact .inl ⟨HLN.out, _, _, _, rfl, HO3.out, HMV.out⟩
  ·have HL : Hid (pos + m < n) := by
    rcases Nat.lt_or_ge (pos + m) n with h | h
    ·exact h
    ·have := HX.out; rw [byteI_ge (by have := HN.out; omega)] at this; rw [← this, isOf_lo (by decide)] at ht; cases ht
   have hlt : pos + m < n := HL.out; go_wp2_with (first | (go_at_call 67; refine (byteAt_any S b n c xs (pos + m) _ hb HN.out (by omega) (by omega) a0 (HC.out _)).mono ?_; rintro e w' ⟨rfl, rfl⟩; rw [HX.out]) | (go_at_call 43; refine (isOf_any _ _ _ (by omega) (by omega) (HT.out _)).mono ?_; rintro e w' ⟨rfl, rfl⟩))
   go_round
   case rel => exact ⟨m + 1, by omega, by go_num, fun j hj => by
    by_cases e : j = m
    ·subst e; rw [← byteI_drop (by have := HN.out; omega), HX.out]; exact ht
    ·exact HM.out j (by omega)⟩
   case measure => simp [intOf]; omega
structure Env (w : World) (S b n c pos : Nat) (xs : List Int) : Prop where
 bytes : Bytes xs
 len : n = xs.length
 cap : n ≤ c
 small : n ≤ 10000
 src : w.cell? ⟨S, 0, none⟩ = some (.slice (some ⟨b, 0, none⟩) n c)
 at1 : w.cell? ⟨S, 1, none⟩ = some (.int .i64 pos)
 fz : ∀ j, w.frozen? ⟨S, j, none⟩ = false
 inH : S < w.heap.size
 row : ∀ i, i < xs.length → w.cell? ⟨b, i, none⟩ = some (.int .u8 (xs.getD i 0))
 tab : Tab w
theorem Env.below {w w' : World} {S b n c pos : Nat} {xs : List Int} (h : Env w S b n c pos xs) (hb : Below w.heap.size w w') : Env w' S b n c pos xs :=
 ⟨h.bytes, h.len, h.cap, h.small, (hb.cell (p := ⟨S, 0, none⟩) h.inH).trans h.src, (hb.cell (p := ⟨S, 1, none⟩) h.inH).trans h.at1, fun j => (hb.frozen (p := ⟨S, j, none⟩) h.inH).trans (h.fz j), Nat.lt_of_lt_of_le h.inH hb.size,
  fun i hi => cell_later hb (h.row i hi), h.tab.below hb⟩
theorem Env.alloc {w : World} {S b n c pos : Nat} {xs : List Int} (h : Env w S b n c pos xs) (o : Obj) : Env (w.alloc o) S b n c pos xs := h.below ((Below.refl _ _).alloc (Nat.le_refl _) o)
theorem Env.drew {w : World} {S b n c pos : Nat} {xs : List Int} (h : Env w S b n c pos xs) : Env w.drew S b n c pos xs := h.below (Below.refl _ _).drew
theorem Env.moved {w w' : World} {S b n c pos q : Nat} {xs : List Int} (h : Env w S b n c pos xs) (M : Moved w w' S q) : Env w' S b n c q xs := by
 have htS : S ≠ 1 := fun e => by have := h.tab 0 (by decide); have h2 := h.src; rw [e] at h2; rw [h2] at this; cases this
 refine ⟨h.bytes, h.len, h.cap, h.small, (M.other 0 (by decide)).trans h.src, M.at1, fun j => (M.frozen j).trans (h.fz j), Nat.lt_of_lt_of_le h.inH M.grown.size, fun i hi => ?_, fun i hi => ?_⟩
 ·have hbS : b ≠ S := fun e => by have := h.row 0 (by omega); rw [e, h.src] at this; cases this
  rw [World.cell?_of_block (w := w) (M.grown.block b (World.block_lt_of_cell? _ _ (h.row i hi)) (by simpa using hbS))]; exact h.row i hi
 ·rw [World.cell?_of_block (w := w) (M.grown.block 1 (World.block_lt_of_cell? _ _ (h.tab i hi)) (by simpa using Ne.symm htS))]
  exact h.tab i hi
def OrFault (w : World) (pos : Nat) (r : Option (Int × Nat)) (e : Ending) (w' : World) : Prop :=
 match r with
 | some (v, q) => e = .returned (.tuple #[.int .i64 v, .int .i64 q]) ∧ w' = w
 | none => Faults 2 pos e ∧ Below w.heap.size w w'
def hexI (xs : List Int) (at_ : Nat) : Option (Int × Nat) :=
 let r := digsB xs 16 xs.length at_ 0
 if r.2 = at_ ∨ at_ + 2 < r.2 ∨ byteI xs r.2 ≠ 92 then none else some (r.1, r.2 + 1)
theorem digs_le (xs : List Int) (base : Int) : ∀ (f i : Nat) (v : Int), (digsB xs base f i v).2 ≤ i + f
 | 0, i, v => Nat.le_refl _
 | f + 1, i, v => by
   unfold digsB
   split
   ·have := digs_le xs base f (i + 1) (min (v * base + digI (byteI xs i)) 1000000000000001); omega
   ·simp
theorem digs_rng (xs : List Int) (base : Int) (hb0 : 0 ≤ base) : ∀ (f i : Nat) (v : Int), 0 ≤ v → v ≤ 1000000000000001 → 0 ≤ (digsB xs base f i v).1 ∧ (digsB xs base f i v).1 ≤ 1000000000000001
 | 0, i, v, h0, h1 => ⟨h0, h1⟩
 | f + 1, i, v, h0, h1 => by
   unfold digsB
   split
   ·refine digs_rng xs base hb0 f (i + 1) _ ?_ ?_
    ·have := digI_rng (byteI xs i); have := Int.mul_nonneg h0 hb0; omega
    ·omega
   ·exact ⟨h0, h1⟩
theorem hexEscape_any (S b n c pos : Nat) (xs : List Int) (at_ : Nat) (w : World) (E : Env w S b n c pos xs) (ha : at_ ≤ 10010) :
 Calls Tryz.prog 114 #[.pointer (some ⟨S, 0, none⟩), .int .i64 at_] w fun e w' => OrFault w pos (hexI xs at_) e w' := by
 have HE : Hid (Env w S b n c pos xs) := E; have hle := digs_le xs 16 xs.length at_ 0; have hrg := digs_rng xs 16 (by decide) xs.length at_ 0 (by decide) (by decide); have hsm := E.small; have hln := E.len
 obtain ⟨v, q, er⟩ : ∃ v q, digsB xs 16 xs.length at_ 0 = (v, q) := ⟨_, _, rfl⟩
 have HR : Hid (digsB xs 16 xs.length at_ 0 = (v, q)) := er; rw [er] at hle hrg
 have hq : q ≤ 20010 := by simp at hle; omega
 have hv0 : 0 ≤ v := hrg.1; have hv1 : v ≤ 1000000000000001 := hrg.2
 have HI : Hid (hexI xs at_ = if q = at_ ∨ at_ + 2 < q ∨ byteI xs q ≠ 92 then none else some (v, q + 1)) := by unfold hexI; rw [er]; rfl
 have hr := byteI_rng E.bytes q
 obtain ⟨x, ex⟩ : ∃ x, x = byteI xs q := ⟨_, rfl⟩
 rw [← ex] at hr; have HX : Hid (byteI xs q = x) := ex.symm; clear E er hle hrg hsm hln ex
 by_cases t1 : q = at_
 ·have HF : Hid (hexI xs at_ = none) := by show _ = _; rw [HI.out, if_pos (.inl t1)]
  have t1' : ((q : Int) == (at_ : Int)) = true := by simp; omega
  clear t1
  go_enter Tryz.func114, Tryz.ntmps114
  go_wp2_with (first | (go_at_call 110; refine (digits_any S b n c xs at_ 16 _ HE.out.bytes HE.out.len (by have := HE.out.small; omega) (by omega) (by decide) (by decide) HE.out.src HE.out.row).mono ?_; rintro e w' ⟨rfl, rfl⟩; rw [HR.out]) | (go_at_call 77; refine (fault_any S pos 2 _ HE.out.at1 HE.out.inH).mono ?_; rintro e w1 ⟨rfl, hb1⟩)); refine ⟨rfl, ?_⟩
  unfold OrFault
  rw [HF.out]; exact ⟨rfl, hb1⟩
 by_cases t2 : at_ + 2 < q
 ·have HF : Hid (hexI xs at_ = none) := by show _ = _; rw [HI.out, if_pos (.inr (.inl t2))]
  have t1' : ((q : Int) == (at_ : Int)) = false := by simp; omega
  have t2' : decide ((at_ : Int) + 2 < (q : Int)) = true := by simp; omega
  clear t1 t2
  go_enter Tryz.func114, Tryz.ntmps114
  go_wp2_with (first | (go_at_call 110; refine (digits_any S b n c xs at_ 16 _ HE.out.bytes HE.out.len (by have := HE.out.small; omega) (by omega) (by decide) (by decide) HE.out.src HE.out.row).mono ?_; rintro e w' ⟨rfl, rfl⟩; rw [HR.out]) | (go_at_call 77; refine (fault_any S pos 2 _ HE.out.at1 HE.out.inH).mono ?_; rintro e w1 ⟨rfl, hb1⟩)); refine ⟨rfl, ?_⟩
  unfold OrFault
  rw [HF.out]; exact ⟨rfl, hb1⟩
 have t1' : ((q : Int) == (at_ : Int)) = false := by simp; omega
 have t2' : decide ((at_ : Int) + 2 < (q : Int)) = false := by simp; omega
 by_cases t3 : x = 92
 ·have HF : Hid (hexI xs at_ = some (v, q + 1)) := by show _ = _; rw [HI.out, if_neg (by rw [HX.out]; omega)]
  have t3' : (x != 92) = false := by simp [t3]
  subst t3; clear t1 t2
  go_enter Tryz.func114, Tryz.ntmps114
  go_wp2_with (first | (go_at_call 110; refine (digits_any S b n c xs at_ 16 _ HE.out.bytes HE.out.len (by have := HE.out.small; omega) (by omega) (by decide) (by decide) HE.out.src HE.out.row).mono ?_; rintro e w' ⟨rfl, rfl⟩; rw [HR.out]) | (go_at_call 67; refine (byteAt_any S b n c xs q _ HE.out.bytes HE.out.len (by have := HE.out.small; omega) (by omega) HE.out.src HE.out.row).mono ?_; rintro e w' ⟨rfl, rfl⟩; rw [HX.out]))
  go_ret2
  unfold OrFault
  rw [HF.out]; exact ⟨by simp, rfl⟩
 ·have HF : Hid (hexI xs at_ = none) := by show _ = _; rw [HI.out, if_pos (.inr (.inr (by rw [HX.out]; exact t3)))]
  have t3' : (x != 92) = true := by simp [t3]
  clear t1 t2 t3
  go_enter Tryz.func114, Tryz.ntmps114
  go_wp2_with (first | (go_at_call 110; refine (digits_any S b n c xs at_ 16 _ HE.out.bytes HE.out.len (by have := HE.out.small; omega) (by omega) (by decide) (by decide) HE.out.src HE.out.row).mono ?_; rintro e w' ⟨rfl, rfl⟩; rw [HR.out]) | (go_at_call 67; refine (byteAt_any S b n c xs q _ HE.out.bytes HE.out.len (by have := HE.out.small; omega) (by omega) HE.out.src HE.out.row).mono ?_; rintro e w' ⟨rfl, rfl⟩; rw [HX.out]) | (go_at_call 77; refine (fault_any S pos 2 _ HE.out.at1 HE.out.inH).mono ?_; rintro e w1 ⟨rfl, hb1⟩)); refine ⟨rfl, ?_⟩
  unfold OrFault
  rw [HF.out]; exact ⟨rfl, hb1⟩
def escF (x : Int) (xs : List Int) (at_ : Nat) : Option (Int × Nat) :=
 if x = 92 then some (92, at_ + 2) else if x = 39 then some (39, at_ + 2) else if x = 34 then some (34, at_ + 2) else if x = 110 then some (10, at_ + 2) else if x = 116 then some (9, at_ + 2)
 else if x = 114 then some (13, at_ + 2) else if x = 120 then hexI xs (at_ + 2) else none
def escI (xs : List Int) (at_ : Nat) : Option (Int × Nat) := escF (byteI xs (at_ + 1)) xs at_
theorem orFault_of {w w' : World} {pos : Nat} {e : Ending} {r r' : Option (Int × Nat)} (h : OrFault w pos r e w') (er : r' = r) : OrFault w pos r' e w' := er ▸ h
theorem escape_any (S b n c pos : Nat) (xs : List Int) (at_ : Nat) (w : World) (E : Env w S b n c pos xs) (ha : at_ ≤ 10005) :
 Calls Tryz.prog 93 #[.pointer (some ⟨S, 0, none⟩), .int .i64 at_] w fun e w' => OrFault w pos (escI xs at_) e w' := by
 have HE : Hid (Env w S b n c pos xs) := E; have hr := byteI_rng E.bytes (at_ + 1)
 obtain ⟨x, ex⟩ : ∃ x, x = byteI xs (at_ + 1) := ⟨_, rfl⟩
 rw [← ex] at hr
 have HI : Hid (escI xs at_ = escF x xs at_) := by show _ = _; rw [ex]; rfl
 have HX : Hid (byteI xs (at_ + 1) = x) := ex.symm; clear E ex
 by_cases t1 : x = 92
 ·have HF : Hid (escI xs at_ = some (92, at_ + 2)) := by show _ = _; rw [HI.out]; unfold escF; simp [t1]
  subst t1; clear HI
  go_enter Tryz.func93, Tryz.ntmps93
  go_wp2_with (go_at_call 67; refine (byteAt_any S b n c xs (at_ + 1) _ HE.out.bytes HE.out.len (by have := HE.out.small; omega) (by omega) HE.out.src HE.out.row).mono ?_; rintro e w' ⟨rfl, rfl⟩; rw [HX.out])
  go_ret2
  refine orFault_of ?_ HF.out; exact ⟨by simp, rfl⟩
 have s1 : (x == 92) = false := by simpa using t1
 by_cases t2 : x = 39
 ·have HF : Hid (escI xs at_ = some (39, at_ + 2)) := by show _ = _; rw [HI.out]; unfold escF; simp [t2]
  subst t2; clear HI t1 s1
  go_enter Tryz.func93, Tryz.ntmps93
  go_wp2_with (go_at_call 67; refine (byteAt_any S b n c xs (at_ + 1) _ HE.out.bytes HE.out.len (by have := HE.out.small; omega) (by omega) HE.out.src HE.out.row).mono ?_; rintro e w' ⟨rfl, rfl⟩; rw [HX.out])
  go_ret2
  refine orFault_of ?_ HF.out; exact ⟨by simp, rfl⟩
 have s2 : (x == 39) = false := by simpa using t2
 by_cases t3 : x = 34
 ·have HF : Hid (escI xs at_ = some (34, at_ + 2)) := by show _ = _; rw [HI.out]; unfold escF; simp [t3]
  subst t3; clear HI t1 s1 t2 s2
  go_enter Tryz.func93, Tryz.ntmps93
  go_wp2_with (go_at_call 67; refine (byteAt_any S b n c xs (at_ + 1) _ HE.out.bytes HE.out.len (by have := HE.out.small; omega) (by omega) HE.out.src HE.out.row).mono ?_; rintro e w' ⟨rfl, rfl⟩; rw [HX.out])
  go_ret2
  refine orFault_of ?_ HF.out; exact ⟨by simp, rfl⟩
 have s3 : (x == 34) = false := by simpa using t3
 by_cases t4 : x = 110
 ·have HF : Hid (escI xs at_ = some (10, at_ + 2)) := by show _ = _; rw [HI.out]; unfold escF; simp [t4]
  subst t4; clear HI t1 s1 t2 s2 t3 s3
  go_enter Tryz.func93, Tryz.ntmps93
  go_wp2_with (go_at_call 67; refine (byteAt_any S b n c xs (at_ + 1) _ HE.out.bytes HE.out.len (by have := HE.out.small; omega) (by omega) HE.out.src HE.out.row).mono ?_; rintro e w' ⟨rfl, rfl⟩; rw [HX.out])
  go_ret2
  refine orFault_of ?_ HF.out; exact ⟨by simp, rfl⟩
 have s4 : (x == 110) = false := by simpa using t4
 by_cases t5 : x = 116
 ·have HF : Hid (escI xs at_ = some (9, at_ + 2)) := by show _ = _; rw [HI.out]; unfold escF; simp [t5]
  subst t5; clear HI t1 s1 t2 s2 t3 s3 t4 s4
  go_enter Tryz.func93, Tryz.ntmps93
  go_wp2_with (go_at_call 67; refine (byteAt_any S b n c xs (at_ + 1) _ HE.out.bytes HE.out.len (by have := HE.out.small; omega) (by omega) HE.out.src HE.out.row).mono ?_; rintro e w' ⟨rfl, rfl⟩; rw [HX.out])
  go_ret2
  refine orFault_of ?_ HF.out; exact ⟨by simp, rfl⟩
 have s5 : (x == 116) = false := by simpa using t5
 by_cases t6 : x = 114
 ·have HF : Hid (escI xs at_ = some (13, at_ + 2)) := by show _ = _; rw [HI.out]; unfold escF; simp [t6]
  subst t6; clear HI t1 s1 t2 s2 t3 s3 t4 s4 t5 s5
  go_enter Tryz.func93, Tryz.ntmps93
  go_wp2_with (go_at_call 67; refine (byteAt_any S b n c xs (at_ + 1) _ HE.out.bytes HE.out.len (by have := HE.out.small; omega) (by omega) HE.out.src HE.out.row).mono ?_; rintro e w' ⟨rfl, rfl⟩; rw [HX.out])
  go_ret2
  refine orFault_of ?_ HF.out; exact ⟨by simp, rfl⟩
 have s6 : (x == 114) = false := by simpa using t6
 by_cases t7 : x = 120
 ·have HF : Hid (escI xs at_ = hexI xs (at_ + 2)) := by show _ = _; rw [HI.out]; unfold escF; simp [t7]
  subst t7; clear HI t1 s1 t2 s2 t3 s3 t4 s4 t5 s5 t6 s6; have HH := hexEscape_any S b n c pos xs (at_ + 2) w HE.out (by omega)
  cases hh : hexI xs (at_ + 2) with
  | none =>
    rw [hh] at HH; have HG : Hid (escI xs at_ = none) := HF.out.trans hh; clear hh HF
    go_enter Tryz.func93, Tryz.ntmps93
    go_wp2_with (first | (go_at_call 67; refine (byteAt_any S b n c xs (at_ + 1) _ HE.out.bytes HE.out.len (by have := HE.out.small; omega) (by omega) HE.out.src HE.out.row).mono ?_; rintro e w' ⟨rfl, rfl⟩; rw [HX.out]) | (go_at_call 114; refine HH.mono ?_; rintro e w1 ⟨rfl, hb1⟩)); refine ⟨rfl, orFault_of ?_ HG.out⟩; exact ⟨rfl, hb1⟩
  | some r =>
    obtain ⟨v, q⟩ := r; rw [hh] at HH; have HG : Hid (escI xs at_ = some (v, q)) := HF.out.trans hh; clear hh HF
    go_enter Tryz.func93, Tryz.ntmps93
    go_wp2_with (first | (go_at_call 67; refine (byteAt_any S b n c xs (at_ + 1) _ HE.out.bytes HE.out.len (by have := HE.out.small; omega) (by omega) HE.out.src HE.out.row).mono ?_; rintro e w' ⟨rfl, rfl⟩; rw [HX.out]) | (go_at_call 114; refine HH.mono ?_; rintro e w1 ⟨rfl, rfl⟩))
    go_ret2
    refine orFault_of ?_ HG.out; exact ⟨rfl, rfl⟩
 have s7 : (x == 120) = false := by simpa using t7
 have HF : Hid (escI xs at_ = none) := by show _ = _; rw [HI.out]; unfold escF; rw [if_neg t1, if_neg t2, if_neg t3, if_neg t4, if_neg t5, if_neg t6, if_neg t7]
 clear HI t1 t2 t3 t4 t5 t6 t7
 go_enter Tryz.func93, Tryz.ntmps93
 go_wp2_with (first | (go_at_call 67; refine (byteAt_any S b n c xs (at_ + 1) _ HE.out.bytes HE.out.len (by have := HE.out.small; omega) (by omega) HE.out.src HE.out.row).mono ?_; rintro e w' ⟨rfl, rfl⟩; rw [HX.out]) | (go_at_call 77; refine (fault_any S pos 2 _ HE.out.at1 HE.out.inH).mono ?_; rintro e w1 ⟨rfl, hb1⟩)); refine ⟨rfl, orFault_of ?_ HF.out⟩; exact ⟨rfl, hb1⟩
def chrF (x y : Int) (xs : List Int) (at_ : Nat) : Option (Int × Nat) :=
 if x = 39 ∧ y = 39 then some (39, at_ + 2) else if x = 92 then escI xs at_ else if x = 39 ∨ ¬ (32 ≤ x ∧ x ≠ 127) then none else some (x, at_ + 1)
def chrI (xs : List Int) (at_ : Nat) : Option (Int × Nat) := chrF (byteI xs at_) (byteI xs (at_ + 1)) xs at_
theorem character_any (S b n c pos : Nat) (xs : List Int) (at_ : Nat) (w : World) (E : Env w S b n c pos xs) (ha : at_ ≤ 10004) :
 Calls Tryz.prog 111 #[.pointer (some ⟨S, 0, none⟩), .int .i64 at_] w fun e w' => OrFault w pos (chrI xs at_) e w' := by
 have HE : Hid (Env w S b n c pos xs) := E; have hr := byteI_rng E.bytes at_; have hr2 := byteI_rng E.bytes (at_ + 1)
 obtain ⟨x, ex⟩ : ∃ x, x = byteI xs at_ := ⟨_, rfl⟩
 obtain ⟨y, ey⟩ : ∃ y, y = byteI xs (at_ + 1) := ⟨_, rfl⟩
 have HI : Hid (chrI xs at_ = chrF x y xs at_) := by show _ = _; rw [ex, ey]; rfl
 rw [← ex] at hr; rw [← ey] at hr2; have HX : Hid (byteI xs at_ = x) := ex.symm; have HY : Hid (byteI xs (at_ + 1) = y) := ey.symm; clear E ex ey; have tok0 : True := trivial; have tok1 : True := trivial
 by_cases t1 : x = 39
 ·by_cases t2 : y = 39
  ·have HF : Hid (chrI xs at_ = some (39, at_ + 2)) := by show _ = _; rw [HI.out]; unfold chrF; rw [if_pos ⟨t1, t2⟩]
   subst t1; subst t2; clear HI
   go_enter Tryz.func111, Tryz.ntmps111
   go_wp2_with (first | (go_at_call 67; have _t := tok0; refine (byteAt_any S b n c xs at_ _ HE.out.bytes HE.out.len (by have := HE.out.small; omega) (by omega) HE.out.src HE.out.row).mono ?_; rintro e w' ⟨rfl, rfl⟩; rw [HX.out]; clear tok0) | (go_at_call 67; have _t := tok1; refine (byteAt_any S b n c xs (at_ + 1) _ HE.out.bytes HE.out.len (by have := HE.out.small; omega) (by omega) HE.out.src HE.out.row).mono ?_; rintro e w' ⟨rfl, rfl⟩; rw [HY.out]; clear tok1))
   go_ret2
   refine orFault_of ?_ HF.out; exact ⟨by simp, rfl⟩
  ·have HF : Hid (chrI xs at_ = none) := by show _ = _; rw [HI.out]; unfold chrF; rw [if_neg (by omega), if_neg (by omega), if_pos (.inl t1)]
   have s2 : (y == 39) = false := by simpa using t2
   subst t1; clear HI t2
   go_enter Tryz.func111, Tryz.ntmps111
   go_wp2_with (first | (go_at_call 67; have _t := tok0; refine (byteAt_any S b n c xs at_ _ HE.out.bytes HE.out.len (by have := HE.out.small; omega) (by omega) HE.out.src HE.out.row).mono ?_; rintro e w' ⟨rfl, rfl⟩; rw [HX.out]; clear tok0) | (go_at_call 67; have _t := tok1; refine (byteAt_any S b n c xs (at_ + 1) _ HE.out.bytes HE.out.len (by have := HE.out.small; omega) (by omega) HE.out.src HE.out.row).mono ?_; rintro e w' ⟨rfl, rfl⟩; rw [HY.out]; clear tok1) | (go_at_call 77; refine (fault_any S pos 2 _ HE.out.at1 HE.out.inH).mono ?_; rintro e w1 ⟨rfl, hb1⟩)); refine ⟨rfl, orFault_of ?_ HF.out⟩; exact ⟨rfl, hb1⟩
 have s1 : (x == 39) = false := by simpa using t1
 by_cases t3 : x = 92
 ·have HF : Hid (chrI xs at_ = escI xs at_) := by show _ = _; rw [HI.out]; unfold chrF; rw [if_neg (by omega), if_pos t3]
  have HH := escape_any S b n c pos xs at_ w HE.out (by omega); subst t3; clear HI t1 s1
  cases hh : escI xs at_ with
  | none =>
    rw [hh] at HH; have HG : Hid (chrI xs at_ = none) := HF.out.trans hh; clear hh HF
    go_enter Tryz.func111, Tryz.ntmps111
    go_wp2_with (first | (go_at_call 67; have _t := tok0; refine (byteAt_any S b n c xs at_ _ HE.out.bytes HE.out.len (by have := HE.out.small; omega) (by omega) HE.out.src HE.out.row).mono ?_; rintro e w' ⟨rfl, rfl⟩; rw [HX.out]; clear tok0) | (go_at_call 93; refine HH.mono ?_; rintro e w1 ⟨rfl, hb1⟩)); refine ⟨rfl, orFault_of ?_ HG.out⟩; exact ⟨rfl, hb1⟩
  | some r =>
    obtain ⟨v, q⟩ := r; rw [hh] at HH; have HG : Hid (chrI xs at_ = some (v, q)) := HF.out.trans hh; clear hh HF
    go_enter Tryz.func111, Tryz.ntmps111
    go_wp2_with (first | (go_at_call 67; have _t := tok0; refine (byteAt_any S b n c xs at_ _ HE.out.bytes HE.out.len (by have := HE.out.small; omega) (by omega) HE.out.src HE.out.row).mono ?_; rintro e w' ⟨rfl, rfl⟩; rw [HX.out]; clear tok0) | (go_at_call 93; refine HH.mono ?_; rintro e w1 ⟨rfl, rfl⟩))
    go_ret2
    refine orFault_of ?_ HG.out; exact ⟨rfl, rfl⟩
 have s3 : (x == 92) = false := by simpa using t3
 by_cases t4 : 32 ≤ x ∧ x ≠ 127
 ·have HF : Hid (chrI xs at_ = some (x, at_ + 1)) := by show _ = _; rw [HI.out]; unfold chrF; rw [if_neg (by omega), if_neg (by omega), if_neg (by omega)]
  have TS : Hid (decide (32 ≤ x ∧ x ≠ 127) = true) := by show _ = _; rw [decide_eq_true_iff]; exact t4
  clear HI t1 t3 t4
  go_enter Tryz.func111, Tryz.ntmps111
  go_wp2_with (first | (go_at_call 67; have _t := tok0; refine (byteAt_any S b n c xs at_ _ HE.out.bytes HE.out.len (by have := HE.out.small; omega) (by omega) HE.out.src HE.out.row).mono ?_; rintro e w' ⟨rfl, rfl⟩; rw [HX.out]; clear tok0) | (go_at_call 94; go_must (refine (standsFor_any x _ hr.1 hr.2).mono ?_; rintro e w' ⟨rfl, rfl⟩; rw [TS.out])))
  go_ret2
  refine orFault_of ?_ HF.out; exact ⟨by simp, rfl⟩
 ·have HF : Hid (chrI xs at_ = none) := by show _ = _; rw [HI.out]; unfold chrF; rw [if_neg (by omega), if_neg (by omega), if_pos (.inr t4)]
  have TS : Hid (decide (32 ≤ x ∧ x ≠ 127) = false) := by show _ = _; rw [decide_eq_false_iff_not]; exact t4
  clear HI t1 t3 t4
  go_enter Tryz.func111, Tryz.ntmps111
  go_wp2_with (first | (go_at_call 67; have _t := tok0; refine (byteAt_any S b n c xs at_ _ HE.out.bytes HE.out.len (by have := HE.out.small; omega) (by omega) HE.out.src HE.out.row).mono ?_; rintro e w' ⟨rfl, rfl⟩; rw [HX.out]; clear tok0) | (go_at_call 94; go_must (refine (standsFor_any x _ hr.1 hr.2).mono ?_; rintro e w' ⟨rfl, rfl⟩; rw [TS.out])) | (go_at_call 77; refine (fault_any S pos 2 _ HE.out.at1 HE.out.inH).mono ?_; rintro e w1 ⟨rfl, hb1⟩)); refine ⟨rfl, orFault_of ?_ HF.out⟩; exact ⟨rfl, hb1⟩
def numF (x0 mk z : Int) (xs : List Int) (pos : Nat) : Option (Int × Nat) :=
 if x0 ≠ 48 then some (digsB xs 10 xs.length pos 0) else if mk = 39 then chrI xs (pos + 2) else if digI z < baseI mk then some (digsB xs (baseI mk) xs.length (pos + 2) 0) else some (digsB xs 10 xs.length pos 0)
def numI (xs : List Int) (pos : Nat) : Option (Int × Nat) := numF (byteI xs pos) (byteI xs (pos + 1)) (byteI xs (pos + 2)) xs pos
theorem baseI_rng (m : Int) : 0 ≤ baseI m ∧ baseI m ≤ 16 := by
 unfold baseI
 repeat' split
 all_goals omega
theorem numeral_any (S b n c pos : Nat) (xs : List Int) (w : World) (E : Env w S b n c pos xs) (hp : pos ≤ 10000) :
 Calls Tryz.prog 92 #[.pointer (some ⟨S, 0, none⟩)] w fun e w' => OrFault w pos (numI xs pos) e w' := by
 have HE : Hid (Env w S b n c pos xs) := E; have h1 := E.at1; have hr0 := byteI_rng E.bytes pos; have hr1 := byteI_rng E.bytes (pos + 1); have hr2 := byteI_rng E.bytes (pos + 2)
 obtain ⟨x, ex⟩ : ∃ x, x = byteI xs pos := ⟨_, rfl⟩
 obtain ⟨y, ey⟩ : ∃ y, y = byteI xs (pos + 1) := ⟨_, rfl⟩
 obtain ⟨z, ez⟩ : ∃ z, z = byteI xs (pos + 2) := ⟨_, rfl⟩
 have HI : Hid (numI xs pos = numF x y z xs pos) := by show _ = _; rw [ex, ey, ez]; rfl
 rw [← ex] at hr0; rw [← ey] at hr1; rw [← ez] at hr2; have HX : Hid (byteI xs pos = x) := ex.symm; have HY : Hid (byteI xs (pos + 1) = y) := ey.symm; have HZ : Hid (byteI xs (pos + 2) = z) := ez.symm
 obtain ⟨v, q, er⟩ : ∃ v q, digsB xs 10 xs.length pos 0 = (v, q) := ⟨_, _, rfl⟩
 have HR : Hid (digsB xs 10 xs.length pos 0 = (v, q)) := er; clear E ex ey ez er; have tok0 : True := trivial; have tok1 : True := trivial; have tok2 : True := trivial
 by_cases t0 : x = 48
 ·by_cases t1 : y = 39
  ·have HF : Hid (numI xs pos = chrI xs (pos + 2)) := by show _ = _; rw [HI.out]; unfold numF; rw [if_neg (by omega), if_pos t1]
   have HH := character_any S b n c pos xs (pos + 2) w HE.out (by omega)
   have s0 : (x != 48) = false := by simp [t0]
   subst t0; subst t1; clear HI
   cases hh : chrI xs (pos + 2) with
   | none =>
     rw [hh] at HH; have HG : Hid (numI xs pos = none) := HF.out.trans hh; clear hh HF
     go_enter Tryz.func92, Tryz.ntmps92
     go_wp2_with (first | (go_at_call 67; have _t := tok0; refine (byteAt_any S b n c xs pos _ HE.out.bytes HE.out.len (by have := HE.out.small; omega) (by omega) HE.out.src HE.out.row).mono ?_; rintro e w' ⟨rfl, rfl⟩; rw [HX.out]; clear tok0) | (go_at_call 67; have _t := tok1; refine (byteAt_any S b n c xs (pos + 1) _ HE.out.bytes HE.out.len (by have := HE.out.small; omega) (by omega) HE.out.src HE.out.row).mono ?_; rintro e w' ⟨rfl, rfl⟩; rw [HY.out]; clear tok1) | (go_at_call 111; refine HH.mono ?_; rintro e w1 ⟨rfl, hb1⟩)); refine ⟨rfl, orFault_of ?_ HG.out⟩; exact ⟨rfl, hb1⟩
   | some r =>
     obtain ⟨v', q'⟩ := r; rw [hh] at HH; have HG : Hid (numI xs pos = some (v', q')) := HF.out.trans hh; clear hh HF
     go_enter Tryz.func92, Tryz.ntmps92
     go_wp2_with (first | (go_at_call 67; have _t := tok0; refine (byteAt_any S b n c xs pos _ HE.out.bytes HE.out.len (by have := HE.out.small; omega) (by omega) HE.out.src HE.out.row).mono ?_; rintro e w' ⟨rfl, rfl⟩; rw [HX.out]; clear tok0) | (go_at_call 67; have _t := tok1; refine (byteAt_any S b n c xs (pos + 1) _ HE.out.bytes HE.out.len (by have := HE.out.small; omega) (by omega) HE.out.src HE.out.row).mono ?_; rintro e w' ⟨rfl, rfl⟩; rw [HY.out]; clear tok1) | (go_at_call 111; refine HH.mono ?_; rintro e w1 ⟨rfl, rfl⟩))
     go_ret2
     refine orFault_of ?_ HG.out; exact ⟨rfl, rfl⟩
  have s1 : (y == 39) = false := by simpa using t1
  have hbr := baseI_rng y
  obtain ⟨bs, eb⟩ : ∃ bs, bs = baseI y := ⟨_, rfl⟩
  obtain ⟨d, ed⟩ : ∃ d, d = digI z := ⟨_, rfl⟩
  have hd := digI_rng z; rw [← eb] at hbr; rw [← ed] at hd; have HB : Hid (baseI y = bs) := eb.symm; have HD : Hid (digI z = d) := ed.symm
  by_cases t2 : d < bs
  ·obtain ⟨v2, q2, er2⟩ : ∃ v q, digsB xs bs xs.length (pos + 2) 0 = (v, q) := ⟨_, _, rfl⟩
   have HR2 : Hid (digsB xs bs xs.length (pos + 2) 0 = (v2, q2)) := er2
   have HF : Hid (numI xs pos = some (v2, q2)) := by show _ = _; rw [HI.out]; unfold numF; rw [if_neg (by omega), if_neg t1, ← eb, ← ed, if_pos t2, er2]
   subst t0; clear HI t1 eb ed er2
   go_enter Tryz.func92, Tryz.ntmps92
   go_wp2_with (first | (go_at_call 67; have _t := tok0; refine (byteAt_any S b n c xs pos _ HE.out.bytes HE.out.len (by have := HE.out.small; omega) (by omega) HE.out.src HE.out.row).mono ?_; rintro e w' ⟨rfl, rfl⟩; rw [HX.out]; clear tok0) | (go_at_call 67; have _t := tok1; refine (byteAt_any S b n c xs (pos + 1) _ HE.out.bytes HE.out.len (by have := HE.out.small; omega) (by omega) HE.out.src HE.out.row).mono ?_; rintro e w' ⟨rfl, rfl⟩; rw [HY.out]; clear tok1) | (go_at_call 67; have _t := tok2; refine (byteAt_any S b n c xs (pos + 2) _ HE.out.bytes HE.out.len (by have := HE.out.small; omega) (by omega) HE.out.src HE.out.row).mono ?_; rintro e w' ⟨rfl, rfl⟩; rw [HZ.out]; clear tok2) | (go_at_call 112; refine (baseOf_any _ _ hr1.1 hr1.2).mono ?_; rintro e w' ⟨rfl, rfl⟩; rw [HB.out]) | (go_at_call 113; refine (digitValue_any _ _ hr2.1 hr2.2).mono ?_; rintro e w' ⟨rfl, rfl⟩; rw [HD.out]) | (go_at_call 110; refine (digits_any S b n c xs (pos + 2) bs _ HE.out.bytes HE.out.len (by have := HE.out.small; omega) (by omega) hbr.1 hbr.2 HE.out.src HE.out.row).mono ?_; rintro e w' ⟨rfl, rfl⟩; rw [HR2.out]))
   go_ret2
   refine orFault_of ?_ HF.out; exact ⟨rfl, rfl⟩
  ·have HF : Hid (numI xs pos = some (v, q)) := by show _ = _; rw [HI.out]; unfold numF; rw [if_neg (by omega), if_neg t1, ← eb, ← ed, if_neg t2, HR.out]
   subst t0; clear HI t1 eb ed
   go_enter Tryz.func92, Tryz.ntmps92
   go_wp2_with (first | (go_at_call 67; have _t := tok0; refine (byteAt_any S b n c xs pos _ HE.out.bytes HE.out.len (by have := HE.out.small; omega) (by omega) HE.out.src HE.out.row).mono ?_; rintro e w' ⟨rfl, rfl⟩; rw [HX.out]; clear tok0) | (go_at_call 67; have _t := tok1; refine (byteAt_any S b n c xs (pos + 1) _ HE.out.bytes HE.out.len (by have := HE.out.small; omega) (by omega) HE.out.src HE.out.row).mono ?_; rintro e w' ⟨rfl, rfl⟩; rw [HY.out]; clear tok1) | (go_at_call 67; have _t := tok2; refine (byteAt_any S b n c xs (pos + 2) _ HE.out.bytes HE.out.len (by have := HE.out.small; omega) (by omega) HE.out.src HE.out.row).mono ?_; rintro e w' ⟨rfl, rfl⟩; rw [HZ.out]; clear tok2) | (go_at_call 112; refine (baseOf_any _ _ hr1.1 hr1.2).mono ?_; rintro e w' ⟨rfl, rfl⟩; rw [HB.out]) | (go_at_call 113; refine (digitValue_any _ _ hr2.1 hr2.2).mono ?_; rintro e w' ⟨rfl, rfl⟩; rw [HD.out]) | (go_at_call 110; refine (digits_any S b n c xs pos 10 _ HE.out.bytes HE.out.len (by have := HE.out.small; omega) (by omega) (by decide) (by decide) HE.out.src HE.out.row).mono ?_; rintro e w' ⟨rfl, rfl⟩; rw [HR.out]))
   go_ret2
   refine orFault_of ?_ HF.out; exact ⟨rfl, rfl⟩
 ·have HF : Hid (numI xs pos = some (v, q)) := by show _ = _; rw [HI.out]; unfold numF; rw [if_pos t0, HR.out]
  have s0 : (x != 48) = true := by simp [t0]
  clear HI t0
  go_enter Tryz.func92, Tryz.ntmps92
  go_wp2_with (first | (go_at_call 67; have _t := tok0; refine (byteAt_any S b n c xs pos _ HE.out.bytes HE.out.len (by have := HE.out.small; omega) (by omega) HE.out.src HE.out.row).mono ?_; rintro e w' ⟨rfl, rfl⟩; rw [HX.out]; clear tok0) | (go_at_call 110; refine (digits_any S b n c xs pos 10 _ HE.out.bytes HE.out.len (by have := HE.out.small; omega) (by omega) (by decide) (by decide) HE.out.src HE.out.row).mono ?_; rintro e w' ⟨rfl, rfl⟩; rw [HR.out]))
  go_ret2
  refine orFault_of ?_ HF.out; exact ⟨rfl, rfl⟩
end Go.Proofs.YtfgmenkoeflhaaaGreatDoor
