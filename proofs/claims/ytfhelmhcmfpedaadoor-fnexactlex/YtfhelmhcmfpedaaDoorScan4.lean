/- The scanner: runs of characters. Own work of the verifier. -/
import Derived.Test.YtfhelmhcmfpedaaDoorScan3
namespace Go.Proofs.YtfhelmhcmfpedaaDoor
open Go Go.RowKit
set_option linter.unusedVariables false
set_option linter.unusedSimpArgs false

/-- The characters of a class from a place on. -/
def runI (k : Int) (xs : List Int) (pos : Nat) : Nat := runLen (isOfB · k) (xs.drop pos)
theorem runI_le (k : Int) (xs : List Int) (pos : Nat) (h : pos ≤ xs.length) : pos + runI k xs pos ≤ xs.length := by
  have := runLen_le (isOfB · k) (xs.drop pos)
  unfold runI
  simp at this
  omega
theorem byteI_drop {xs : List Int} {pos j : Nat} (h : pos + j < xs.length) : byteI xs (pos + j) = (xs.drop pos).getD j 0 := by
  rw [byteI_lt h]; simp [List.getD, List.getElem?_drop]

/-- What is handed back of a token with a text: it, and the scanner moved; or CodeLimit. -/
def Taken (w : World) (S : Nat) (kind : Int) (pos len : Nat) (ys : List Int) (e : Ending) (w' : World) : Prop :=
  (ys.length ≤ 100 ∧ ∃ p n c, e = .returned (tokV kind pos len p n c 0) ∧ OwnS w' w.heap.size p n c ys ∧ Moved w w' S (pos + len)) ∨
  (100 < ys.length ∧ Faults 3 pos e ∧ w.grownBy w' (some S))

set_option maxHeartbeats 1000000 in
set_option maxRecDepth 100000 in
theorem run_any (S b n c pos : Nat) (kind k : Int) (xs : List Int) (w : World) (hb : Bytes xs) (hn : n = xs.length) (hnc : n ≤ c) (hm0 : n ≤ 100000) (hp : pos < xs.length) (hk : isOfB (byteI xs pos) k = true)
    (h0 : w.cell? ⟨S, 0, none⟩ = some (.slice (some ⟨b, 0, none⟩) n c)) (h1 : w.cell? ⟨S, 1, none⟩ = some (.int .i64 pos)) (hf : w.frozen? ⟨S, 1, none⟩ = false) (hS : S < w.heap.size)
    (hc : ∀ i, i < xs.length → w.cell? ⟨b, i, none⟩ = some (.int .u8 (xs.getD i 0))) (hT : Tab w) :
    Calls Tryd.prog 55 #[.pointer (some ⟨S, 0, none⟩), .int .i64 kind, .int .u8 k] w fun e w' => Taken w S kind pos (runI k xs pos) ((xs.drop pos).take (runI k xs pos)) e w' := by
  have HC : Hid (∀ o i, i < xs.length → (w.alloc o).cell? ⟨b, i, none⟩ = some (.int .u8 (xs.getD i 0))) := fun o i hi => Lib.cell?_alloc_marked o (hc i hi)
  have HT : Hid (∀ o, Tab (w.alloc o)) := fun o i hi => Lib.cell?_alloc_marked o (hT i hi)
  have HN : Hid (n = xs.length) := hn
  have HK : Hid (isOfB (byteI xs pos) k = true) := hk
  have a0 : (w.alloc tokO).cell? ⟨S, 0, none⟩ = some (.slice (some ⟨b, 0, none⟩) n c) := Lib.cell?_alloc_marked _ h0
  have a1 : (w.alloc tokO).cell? ⟨S, 1, none⟩ = some (.int .i64 pos) := Lib.cell?_alloc_marked _ h1
  have hlen : pos < n := by omega
  clear hc hT hn hk
  go_enter Tryd.func55, Tryd.ntmps55
  go_wp2
  go_loop [7] (fun i => ∃ m : Nat, pos + m ≤ n ∧ i = .int .i64 ((pos + m : Nat) : Int) ∧ Hid (∀ j, j < m → isOfB ((xs.drop pos).getD j 0) k = true)) (fun i => n - (intOf i).toNat)
  case atStart => exact ⟨0, by omega, by simp, fun _ h => absurd h (Nat.not_lt_zero _)⟩
  case round =>
    obtain ⟨m, hm, rfl, HM⟩ := hrel
    have hr := byteI_rng hb (pos + m)
    obtain ⟨x, ex⟩ : ∃ x, x = byteI xs (pos + m) := ⟨_, rfl⟩
    rw [← ex] at hr
    have HX : Hid (byteI xs (pos + m) = x) := ex.symm
    clear ex
    cases ht : isOfB x k
    · have HE : Hid (runI k xs pos = m) := runLen_stop _ _ _ (by simp; have := HN.out; omega) HM.out (by
        by_cases h : pos + m < xs.length
        · right; have := byteI_drop h; rw [HX.out] at this; rw [← this]; exact ht
        · left; simp; have := HN.out; omega)
      have HP : Hid (0 < m) := by
        rcases Nat.eq_zero_or_pos m with h | h
        · subst h; have h2 := HX.out; rw [Nat.add_zero] at h2; have := HK.out; rw [h2, ht] at this; cases this
        · exact h
      have hmp : 0 < m := HP.out
      go_wp2_with (first | (go_at_call 52; refine (byteAt_any S b n c xs (pos + m) _ hb HN.out (by omega) (by omega) a0 (HC.out _)).mono ?_; rintro e w' ⟨rfl, rfl⟩; rw [HX.out]) | (go_at_call 21; refine (isOf_any _ _ _ (by omega) (by omega) (HT.out _)).mono ?_; rintro e w' ⟨rfl, rfl⟩))
      have hS0 : ((w.alloc tokO).drew.cell? ⟨S, 0, none⟩ = some (.slice (some ⟨b, 0, none⟩) n c) ∧ (w.alloc tokO).drew.cell? ⟨S, 1, none⟩ = some (.int .i64 pos)) := ⟨a0, a1⟩
      have b1 : ¬ c = pos := by omega
      have b2 : pos + m ≤ c := by omega
      have b3 : (0 : Int) ≤ (pos : Int) := by omega
      have b4 : (pos : Int) + m ≤ c := by omega
      have b5 : pos + m - pos = m := by omega
      have b6 : (0 : Int) ≤ (pos : Int) + m := by omega
      have b7 : ((pos : Int) + m).toNat = pos + m := by omega
      have hZ : n ≤ 100000 := hm0
      refine wp_region_until (S := fun w' => w'.cell? ⟨S, 0, none⟩ = some (.slice (some ⟨b, 0, none⟩) n c) ∧ w'.cell? ⟨S, 1, none⟩ = some (.int .i64 pos)) (c := 14) (by kernel_rfl) ?_
      refine wpAnyU_take (i := 0) (v := .pointer (some ⟨S, 0, none⟩)) (D := [14, 15]) (some 19) (by kernel_rfl) (by kernel_rfl) (by kernel_rfl) (by kernel_rfl) (by kernel_rfl) (by rfl) (by kernel_rfl) (fun _ _ _ h => h) (fun o ho => ?y0) (hS0) ?_
      case y0 =>
        cases ho
        refine .inl ⟨by kernel_rfl, fun w' hw => ?_⟩
        simp [execOp, go_sem, Act.eval, Act.put]
      refine wpAnyU_take (i := 1) (v := .int .i64 kind) (D := [14, 15]) (some 20) (by kernel_rfl) (by kernel_rfl) (by kernel_rfl) (by kernel_rfl) (by kernel_rfl) (by rfl) (by kernel_rfl) (fun _ _ _ h => h) (fun o ho => ?y1) (hS0) ?_
      case y1 =>
        cases ho
        refine .inl ⟨by kernel_rfl, fun w' hw => ?_⟩
        simp [execOp, go_sem, Act.eval, Act.put]
      refine wpAnyU_take (i := 2) (v := .int .i64 ((pos + m : Nat) : Int)) (D := [14, 15]) (some 21) (by kernel_rfl) (by kernel_rfl) (by kernel_rfl) (by kernel_rfl) (by kernel_rfl) (by rfl) (by kernel_rfl) (fun _ _ _ h => h) (fun o ho => ?y2) (hS0) ?_
      case y2 =>
        cases ho
        refine .inl ⟨by kernel_rfl, fun w' hw => ?_⟩
        simp [execOp, go_sem, Act.eval, Act.put]
      refine wpAnyU_take (i := 3) (v := .pointer (some ⟨S, 0, none⟩)) (D := [4, 5, 6, 12, 13, 14, 15]) (some 22) (by kernel_rfl) (by kernel_rfl) (by kernel_rfl) (by kernel_rfl) (by kernel_rfl) (by rfl) (by kernel_rfl) (fun _ _ _ h => h) (fun o ho => ?y3) (hS0) ?_
      case y3 =>
        cases ho
        refine .inl ⟨by kernel_rfl, fun w' hw => ?_⟩
        simp [execOp, go_sem, Act.eval, Act.put]
      refine wpAnyU_take (i := 4) (v := .pointer (some ⟨S, 0, none⟩)) (D := [5, 6, 12, 13, 14, 15]) (some 23) (by kernel_rfl) (by kernel_rfl) (by kernel_rfl) (by kernel_rfl) (by kernel_rfl) (by rfl) (by kernel_rfl) (fun _ _ _ h => h) (fun o ho => ?y4) (hS0) ?_
      case y4 =>
        cases ho
        refine .inl ⟨by kernel_rfl, fun w' hw => ?_⟩
        simp [execOp, go_sem, Act.eval, Act.put]
      refine wpAnyU_take (i := 5) (v := .pointer (some ⟨S, 0, none⟩)) (D := [6, 12, 13, 14, 15]) (some 24) (by kernel_rfl) (by kernel_rfl) (by kernel_rfl) (by kernel_rfl) (by kernel_rfl) (by rfl) (by kernel_rfl) (fun _ _ _ h => h) (fun o ho => ?y5) (hS0) ?_
      case y5 =>
        cases ho
        refine .inl ⟨by kernel_rfl, fun w' hw => ?_⟩
        simp [execOp, go_sem, Act.eval, Act.put]
      refine wpAnyU_take (i := 6) (v := .slice (some ⟨b, 0, none⟩) n c) (D := [12, 13, 14, 15]) (some 25) (by kernel_rfl) (by kernel_rfl) (by kernel_rfl) (by kernel_rfl) (by kernel_rfl) (by rfl) (by kernel_rfl) (fun _ _ _ h => h) (fun o ho => ?y6) (hS0) ?_
      case y6 =>
        cases ho
        refine .inl ⟨by kernel_rfl, fun w' hw => ?_⟩
        simp [execOp, go_sem, Act.eval, Act.put, hw.1]
      refine wpAnyU_take (i := 7) (v := .pointer (some ⟨S, 0, none⟩)) (D := [8, 9, 10, 12, 13, 14, 15]) (some 26) (by kernel_rfl) (by kernel_rfl) (by kernel_rfl) (by kernel_rfl) (by kernel_rfl) (by rfl) (by kernel_rfl) (fun _ _ _ h => h) (fun o ho => ?y7) (hS0) ?_
      case y7 =>
        cases ho
        refine .inl ⟨by kernel_rfl, fun w' hw => ?_⟩
        simp [execOp, go_sem, Act.eval, Act.put]
      refine wpAnyU_take (i := 8) (v := .pointer (some ⟨S, 0, none⟩)) (D := [9, 10, 12, 13, 14, 15]) (some 27) (by kernel_rfl) (by kernel_rfl) (by kernel_rfl) (by kernel_rfl) (by kernel_rfl) (by rfl) (by kernel_rfl) (fun _ _ _ h => h) (fun o ho => ?y8) (hS0) ?_
      case y8 =>
        cases ho
        refine .inl ⟨by kernel_rfl, fun w' hw => ?_⟩
        simp [execOp, go_sem, Act.eval, Act.put]
      refine wpAnyU_take (i := 9) (v := .pointer (some ⟨S, 1, none⟩)) (D := [10, 12, 13, 14, 15]) (some 28) (by kernel_rfl) (by kernel_rfl) (by kernel_rfl) (by kernel_rfl) (by kernel_rfl) (by rfl) (by kernel_rfl) (fun _ _ _ h => h) (fun o ho => ?y9) (hS0) ?_
      case y9 =>
        cases ho
        refine .inl ⟨by kernel_rfl, fun w' hw => ?_⟩
        simp [execOp, go_sem, Act.eval, Act.put]
      refine wpAnyU_take (i := 10) (v := .int .i64 pos) (D := [12, 13, 14, 15]) (some 29) (by kernel_rfl) (by kernel_rfl) (by kernel_rfl) (by kernel_rfl) (by kernel_rfl) (by rfl) (by kernel_rfl) (fun _ _ _ h => h) (fun o ho => ?y10) (hS0) ?_
      case y10 =>
        cases ho
        refine .inl ⟨by kernel_rfl, fun w' hw => ?_⟩
        simp [execOp, go_sem, Act.eval, Act.put, hw.2]
      refine wpAnyU_take (i := 11) (v := .int .i64 ((pos + m : Nat) : Int)) (D := [12, 13, 14, 15]) (some 30) (by kernel_rfl) (by kernel_rfl) (by kernel_rfl) (by kernel_rfl) (by kernel_rfl) (by rfl) (by kernel_rfl) (fun _ _ _ h => h) (fun o ho => ?y11) (hS0) ?_
      case y11 =>
        cases ho
        refine .inl ⟨by kernel_rfl, fun w' hw => ?_⟩
        simp [execOp, go_sem, Act.eval, Act.put]
      refine wpAnyU_take (i := 12) (v := .slice (some ⟨b, pos, none⟩) m (c - pos)) (D := [13, 14, 15]) (some 31) (by kernel_rfl) (by kernel_rfl) (by kernel_rfl) (by kernel_rfl) (by kernel_rfl) (by rfl) (by kernel_rfl) (fun _ _ _ h => h) (fun o ho => ?y12) (hS0) ?_
      case y12 =>
        cases ho
        refine .inl ⟨by kernel_rfl, fun w' hw => ?_⟩
        simp [execOp, go_sem, Act.eval, Act.put, b1, b2, b3, b4, b5, b6, b7]
      have hcl : ∀ i, i < ((xs.drop pos).take m).length → (w.alloc tokO).drew.cell? ⟨b, pos + i, none⟩ = some (.int .u8 (((xs.drop pos).take m).getD i 0)) := fun i hi => by
        have h2 : i < m := by simp at hi; omega
        have := HC.out tokO (pos + i) (by have := HN.out; omega)
        rw [show (w.alloc tokO).drew.cell? ⟨b, pos + i, none⟩ = (w.alloc tokO).cell? ⟨b, pos + i, none⟩ from rfl, this]
        simp [List.getD, List.getElem?_take, h2, List.getElem?_drop]
      have hml : m = ((xs.drop pos).take m).length := by simp; have := HN.out; omega
      have hblk0 : (w.alloc tokO).drew.heap[w.heap.size]? = some tokO := by show (w.heap.push tokO)[w.heap.size]? = _; simp
      refine wpAnyU_all (rs := [13]) (by kernel_rfl) (by decide) ?_
      intro i hi
      obtain rfl : i = 13 := by simpa using hi
      clear hi
      refine wpOp_enter (some 32) (by kernel_rfl) (by kernel_rfl) (f := 26) (args := #[.slice (some ⟨b, pos, none⟩) m (c - pos)]) (w' := (w.alloc tokO).drew) (fun o ho => ?r13)
        (clone_any b pos m (c - pos) ((xs.drop pos).take m) (w.alloc tokO).drew hml hmp (by omega) hcl) ?k13 (fun ch w'' h => by obtain ⟨_, _, _, h, _⟩ := h; cases h) (fun w'' h => by obtain ⟨_, _, _, h, _⟩ := h; cases h)
      case r13 =>
        cases ho
        simp [execOp, go_sem, Act.eval, Act.put]
        rfl
      case k13 =>
        rintro u w1 ⟨p2, n2, c2, hu, hown2, hb2⟩
        cases hu
        have e0 : w1.cell? ⟨S, 0, none⟩ = some (.slice (some ⟨b, 0, none⟩) n c) := cell_later hb2 a0
        have e1 : w1.cell? ⟨S, 1, none⟩ = some (.int .i64 pos) := cell_later hb2 a1
        have ef : w1.frozen? ⟨S, 1, none⟩ = false := by
          rw [hb2.frozen (p := ⟨S, 1, none⟩) (by show S < (w.alloc tokO).heap.size; simp; omega)]
          show (w.alloc tokO).frozen? _ = _
          rw [World.frozen?_alloc_past (hn := hS)]; exact hf
        have eS : S < w1.heap.size := Nat.lt_of_lt_of_le (by show S < (w.alloc tokO).heap.size; simp; omega) hb2.size
        have hn2 : n2 = m := by rw [hown2.1, ← hml]
        have hblk1 : w1.heap[w.heap.size]? = some tokO := (hb2.block w.heap.size (by show _ < (w.alloc tokO).heap.size; simp)).trans hblk0
        have hsz1 : w.heap.size + 1 ≤ w1.heap.size := by have := hb2.size; simp at this; omega
        have hB1 : Below w.heap.size w w1 := (((Below.refl _ w).alloc (Nat.le_refl _) tokO).drew).trans (hb2.mono (by simp))
        refine ⟨fun _ => ⟨e0, e1⟩, ?_⟩
        by_cases hlong : 100 < m
        · refine wpAnyU_all (rs := [14]) (by kernel_rfl) (by decide) ?_
          intro i hi
          obtain rfl : i = 14 := by simpa using hi
          clear hi
          refine wpOp_enter (some 33) (by kernel_rfl) (by kernel_rfl) (f := 58) (args := #[.pointer (some ⟨S, 0, none⟩), .int .i64 kind, .int .i64 ((pos + m : Nat) : Int), .slice p2 n2 c2]) (w' := w1) (fun o ho => ?r14)
            (take_long S pos kind (pos + m) p2 n2 c2 w1 e1 eS (by omega) (by omega)) (fun u w2 h => by cases h.1) ?k14 (fun w'' h => by cases h.1)
          case r14 =>
            cases ho
            simp [execOp, go_sem, Act.eval, Act.put]
          case k14 =>
            rintro ch w2 ⟨hfa, hbl⟩
            exact ⟨rfl, .inr ⟨by rw [HE.out, ← hml]; exact hlong, hfa, grown_of_below (Below.on hB1 hbl) _⟩⟩
        · refine wpAnyU_all (rs := [14]) (by kernel_rfl) (by decide) ?_
          intro i hi
          obtain rfl : i = 14 := by simpa using hi
          clear hi
          refine wpOp_enter (some 33) (by kernel_rfl) (by kernel_rfl) (f := 58) (args := #[.pointer (some ⟨S, 0, none⟩), .int .i64 kind, .int .i64 ((pos + m : Nat) : Int), .slice p2 n2 c2]) (w' := w1) (fun o ho => ?r14)
            (take_fits S pos kind (pos + m) p2 n2 c2 w1 e1 ef eS (by omega) (by omega) (by omega)) ?k14 (fun ch w'' h => by cases h.1) (fun w'' h => by cases h.1)
          case r14 =>
            cases ho
            simp [execOp, go_sem, Act.eval, Act.put]
          case k14 =>
            rintro u w2 ⟨hu, M⟩
            cases hu
            refine ⟨(fun h => by cases h), ?_⟩
            refine wpAnyU_all (rs := [15]) (by kernel_rfl) (by decide) ?_
            intro i hi
            obtain rfl : i = 15 := by simpa using hi
            clear hi
            have hblk : w2.heap[w.heap.size]? = some tokO := (M.grown.block w.heap.size (by omega) (by simp; omega)).trans hblk1
            have c0 : ∀ j, w2.cell? ⟨w.heap.size, j, none⟩ = (#[.int .i64 0, .int .i64 0, .int .i64 0, .slice none 0 0, .int .i64 0] : Array Value)[j]? := fun j => cell_of_row w2 w.heap.size j _ _ (0, 0) hblk
            have f0 : ∀ j, w2.frozen? ⟨w.heap.size, j, none⟩ = false := fun j => frozen_of_row w2 w.heap.size j _ _ hblk
            refine wpOp_skip none (by kernel_rfl) (by kernel_rfl) (w' := w2.setCells w.heap.size 0 [.int .i64 kind, .int .i64 pos, .int .i64 (((pos + m : Nat) : Int) - pos), .slice p2 n2 c2, .int .i64 0]) (fun o ho => ?r15) ⟨(fun h => by cases h), ?_⟩
            case r15 =>
              cases ho
              simp [execOp, go_sem, Act.eval, Act.put, c0, f0]
              rfl
            refine wpAnyU_done (by kernel_rfl) ?_ _
            have hG := grown_set5 w2 w.heap.size (.int .i64 kind) (.int .i64 pos) (.int .i64 (((pos + m : Nat) : Int) - pos)) (.slice p2 n2 c2) (.int .i64 0)
            have hsz2 : w.heap.size ≤ w2.heap.size := by have := M.grown.size; omega
            have hM : Moved w _ S (pos + m) := Moved.onto hB1 M (Below.of_grown hG hsz2 (fun k e => by cases e; exact Nat.le_refl _)) hS
            have hform : ∀ g, p2 = some ⟨g, 0, none⟩ → w.heap.size + 1 ≤ g := fun g e => by
              rcases hown2.form with ⟨e', _⟩ | ⟨g', e', h, _⟩
              · rw [e'] at e; cases e
              · rw [e'] at e; cases e; simp at h; exact h
            have hO2 : OwnS w1 w.heap.size p2 n2 c2 ((xs.drop pos).take m) := ⟨hown2.1, hown2.2.1, hown2.2.2.imp id fun ⟨g, c, cur, a1, a2, a3⟩ => ⟨g, c, cur, a1, by simp at a2; omega, a3⟩⟩
            have hO3 := (hO2.kept M.grown (fun g e e' => by have := hform g e; simp only [Option.some.injEq] at e'; omega)).kept hG (fun g e e' => by have := hform g e; simp only [Option.some.injEq] at e'; omega)
            have HC0 : Hid (∀ j, w2.cell? ⟨w.heap.size, j, none⟩ = (#[.int .i64 0, .int .i64 0, .int .i64 0, .slice none 0 0, .int .i64 0] : Array Value)[j]?) := c0
            have HO3 : Hid (OwnS _ _ _ _ _ _) := hO3
            have HMV : Hid (Moved _ _ _ _) := hM
            have HLN : Hid (((xs.drop pos).take m).length ≤ 100) := by rw [← hml]; show _ ≤ _; omega
            clear hO2 M hG hO3 hM c0 f0 hblk hblk0 hblk1 hS0 e0 e1 ef eS a0 a1 h0 h1 hf hsz1 hsz2 hB1 hb2 hown2 hcl b1 b2 b3 b4 b5 b6 b7 hform hml hn2
            simp only [Act.put, List.setIfInBounds_toArray, List.set_cons_zero, List.set_cons_succ]
            go_wp2
            refine bodyPost_ret (v := tokV kind pos m p2 n2 c2 0) (by simp [results, Tryd.results55, go_sem, World.setCells, HC0.out]; omega) rfl ?_
            unfold Taken
            rw [HE.out]
            exact .inl ⟨HLN.out, _, _, _, rfl, HO3.out, HMV.out⟩
    · have HL : Hid (pos + m < n) := by
        rcases Nat.lt_or_ge (pos + m) n with h | h
        · exact h
        · have := HX.out; rw [byteI_ge (by have := HN.out; omega)] at this; rw [← this, isOf_lo (by decide)] at ht; cases ht
      have hlt : pos + m < n := HL.out
      go_wp2_with (first | (go_at_call 52; refine (byteAt_any S b n c xs (pos + m) _ hb HN.out (by omega) (by omega) a0 (HC.out _)).mono ?_; rintro e w' ⟨rfl, rfl⟩; rw [HX.out]) | (go_at_call 21; refine (isOf_any _ _ _ (by omega) (by omega) (HT.out _)).mono ?_; rintro e w' ⟨rfl, rfl⟩))
      go_round
      case rel => exact ⟨m + 1, by omega, by go_num, fun j hj => by
        by_cases e : j = m
        · subst e; rw [← byteI_drop (by have := HN.out; omega), HX.out]; exact ht
        · exact HM.out j (by omega)⟩
      case measure => simp [intOf]; omega

end Go.Proofs.YtfhelmhcmfpedaaDoor
