/- The scanner: tokens of one byte. Own work of the verifier. -/
import Derived.Test.YtfhelmhcmfpedaaDoorScan2
import Derived.Test.YtfhelmhcmfpedaaDoorClone
import Derived.Test.YtfhelmhcmfpedaaDoorQuote2
import Derived.Test.YtfhelmhcmfpedaaDoorLawQuote
import Derived.Test.YtfhelmhcmfpedaaDoorUntil
namespace Go.Proofs.YtfhelmhcmfpedaaDoor
open Go Go.RowKit
set_option linter.unusedVariables false
set_option linter.unusedSimpArgs false

/-- A token as a value. -/
abbrev tokV (kind at_ len : Int) (p : Option Addr) (n c : Nat) (v : Int) : Value := .agg #[.int .i64 kind, .int .i64 at_, .int .i64 len, .slice p n c, .int .i64 v]

/-- A new variable of the type Token. -/
abbrev tokO : Obj := .cells #[.int .i64 0, .int .i64 0, .int .i64 0, .slice none 0 0, .int .i64 0] 39
set_option maxHeartbeats 1000000 in
set_option maxRecDepth 100000 in
theorem single_any (S b n c pos : Nat) (kind : Int) (xs : List Int) (w : World) (hb : Bytes xs) (hn : n = xs.length) (hm : n ≤ 100000) (hp : pos < xs.length)
    (h0 : w.cell? ⟨S, 0, none⟩ = some (.slice (some ⟨b, 0, none⟩) n c)) (h1 : w.cell? ⟨S, 1, none⟩ = some (.int .i64 pos)) (hf : w.frozen? ⟨S, 1, none⟩ = false) (hS : S < w.heap.size)
    (hc : ∀ i, i < xs.length → w.cell? ⟨b, i, none⟩ = some (.int .u8 (xs.getD i 0))) :
    Calls Tryd.prog 59 #[.pointer (some ⟨S, 0, none⟩), .int .i64 kind] w fun e w' => ∃ p' n' c', e = .returned (tokV kind pos 1 p' n' c' 0) ∧ OwnS w' w.heap.size p' n' c' [xs.getD pos 0] ∧ Moved w w' S (pos + 1) := by
  have hx := hc pos hp
  obtain ⟨x, ex⟩ : ∃ x, x = xs.getD pos 0 := ⟨_, rfl⟩
  rw [← ex] at hx ⊢
  have hlt : (pos : Int) < n := by omega
  have hps : (pos : Int) + 1 ≤ 1000000 := by omega
  have hwr : IntKind.i64.wrap ((pos : Int) + 1) = (pos : Int) + 1 := by rw [IntKind.wrap_i64]; omega
  clear ex hc hn
  go_enter Tryd.func59, Tryd.ntmps59
  go_wp2
  refine wp_region_noPanic ?_
  refine wp_region_until (S := fun w' => w'.cell? ⟨S, 0, none⟩ = some (.slice (some ⟨b, 0, none⟩) n c) ∧ w'.cell? ⟨S, 1, none⟩ = some (.int .i64 pos) ∧ w'.cell? ⟨b, pos, none⟩ = some (.int .u8 x)) (c := 18) (by kernel_rfl) ?_
  have hS0 : ∀ o, ((w.alloc o).drew.cell? ⟨S, 0, none⟩ = some (.slice (some ⟨b, 0, none⟩) n c) ∧ (w.alloc o).drew.cell? ⟨S, 1, none⟩ = some (.int .i64 pos) ∧ (w.alloc o).drew.cell? ⟨b, pos, none⟩ = some (.int .u8 x)) := fun o => ⟨Lib.cell?_alloc_marked o h0, Lib.cell?_alloc_marked o h1, Lib.cell?_alloc_marked o hx⟩
  refine wpAnyU_take (i := 0) (v := .pointer (some ⟨S, 0, none⟩)) (D := [18, 19]) (some 5) (by kernel_rfl) (by kernel_rfl) (by kernel_rfl) (by kernel_rfl) (by kernel_rfl) (by rfl) (by kernel_rfl) (fun _ _ _ h => h) (fun o ho => ?y0) (hS0 _) ?_
  case y0 =>
    cases ho
    refine .inl ⟨by kernel_rfl, fun w' hw => ?_⟩
    simp [execOp, go_sem, Act.eval, Act.put]
  refine wpAnyU_take (i := 1) (v := .int .i64 kind) (D := [18, 19]) (some 6) (by kernel_rfl) (by kernel_rfl) (by kernel_rfl) (by kernel_rfl) (by kernel_rfl) (by rfl) (by kernel_rfl) (fun _ _ _ h => h) (fun o ho => ?y1) (hS0 _) ?_
  case y1 =>
    cases ho
    refine .inl ⟨by kernel_rfl, fun w' hw => ?_⟩
    simp [execOp, go_sem, Act.eval, Act.put]
  refine wpAnyU_take (i := 2) (v := .pointer (some ⟨S, 0, none⟩)) (D := [3, 4, 5, 6, 18, 19]) (some 7) (by kernel_rfl) (by kernel_rfl) (by kernel_rfl) (by kernel_rfl) (by kernel_rfl) (by rfl) (by kernel_rfl) (fun _ _ _ h => h) (fun o ho => ?y2) (hS0 _) ?_
  case y2 =>
    cases ho
    refine .inl ⟨by kernel_rfl, fun w' hw => ?_⟩
    simp [execOp, go_sem, Act.eval, Act.put]
  refine wpAnyU_take (i := 3) (v := .pointer (some ⟨S, 0, none⟩)) (D := [4, 5, 6, 18, 19]) (some 8) (by kernel_rfl) (by kernel_rfl) (by kernel_rfl) (by kernel_rfl) (by kernel_rfl) (by rfl) (by kernel_rfl) (fun _ _ _ h => h) (fun o ho => ?y3) (hS0 _) ?_
  case y3 =>
    cases ho
    refine .inl ⟨by kernel_rfl, fun w' hw => ?_⟩
    simp [execOp, go_sem, Act.eval, Act.put]
  refine wpAnyU_take (i := 4) (v := .pointer (some ⟨S, 1, none⟩)) (D := [5, 6, 18, 19]) (some 9) (by kernel_rfl) (by kernel_rfl) (by kernel_rfl) (by kernel_rfl) (by kernel_rfl) (by rfl) (by kernel_rfl) (fun _ _ _ h => h) (fun o ho => ?y4) (hS0 _) ?_
  case y4 =>
    cases ho
    refine .inl ⟨by kernel_rfl, fun w' hw => ?_⟩
    simp [execOp, go_sem, Act.eval, Act.put]
  refine wpAnyU_take (i := 5) (v := .int .i64 pos) (D := [6, 18, 19]) (some 10) (by kernel_rfl) (by kernel_rfl) (by kernel_rfl) (by kernel_rfl) (by kernel_rfl) (by rfl) (by kernel_rfl) (fun _ _ _ h => h) (fun o ho => ?y5) (hS0 _) ?_
  case y5 =>
    cases ho
    refine .inl ⟨by kernel_rfl, fun w' hw => ?_⟩
    simp [execOp, go_sem, hw.1, hw.2.1, hw.2.2, Act.eval, Act.put]
  refine wpAnyU_take (i := 6) (v := .int .i64 (pos + 1)) (D := [18, 19]) (some 11) (by kernel_rfl) (by kernel_rfl) (by kernel_rfl) (by kernel_rfl) (by kernel_rfl) (by rfl) (by kernel_rfl) (fun _ _ _ h => h) (fun o ho => ?y6) (hS0 _) ?_
  case y6 =>
    cases ho
    refine .inl ⟨by kernel_rfl, fun w' hw => ?_⟩
    simp [execOp, go_sem, Act.eval, Act.put, hwr]
  refine wpAnyU_take (i := 7) (v := .pointer (some ⟨S, 0, none⟩)) (D := [8, 9, 10, 15, 16, 17, 18, 19]) (some 12) (by kernel_rfl) (by kernel_rfl) (by kernel_rfl) (by kernel_rfl) (by kernel_rfl) (by rfl) (by kernel_rfl) (fun _ _ _ h => h) (fun o ho => ?y7) (hS0 _) ?_
  case y7 =>
    cases ho
    refine .inl ⟨by kernel_rfl, fun w' hw => ?_⟩
    simp [execOp, go_sem, Act.eval, Act.put]
  refine wpAnyU_take (i := 8) (v := .pointer (some ⟨S, 0, none⟩)) (D := [9, 10, 15, 16, 17, 18, 19]) (some 13) (by kernel_rfl) (by kernel_rfl) (by kernel_rfl) (by kernel_rfl) (by kernel_rfl) (by rfl) (by kernel_rfl) (fun _ _ _ h => h) (fun o ho => ?y8) (hS0 _) ?_
  case y8 =>
    cases ho
    refine .inl ⟨by kernel_rfl, fun w' hw => ?_⟩
    simp [execOp, go_sem, Act.eval, Act.put]
  refine wpAnyU_take (i := 9) (v := .pointer (some ⟨S, 0, none⟩)) (D := [10, 15, 16, 17, 18, 19]) (some 14) (by kernel_rfl) (by kernel_rfl) (by kernel_rfl) (by kernel_rfl) (by kernel_rfl) (by rfl) (by kernel_rfl) (fun _ _ _ h => h) (fun o ho => ?y9) (hS0 _) ?_
  case y9 =>
    cases ho
    refine .inl ⟨by kernel_rfl, fun w' hw => ?_⟩
    simp [execOp, go_sem, Act.eval, Act.put]
  refine wpAnyU_take (i := 10) (v := .slice (some ⟨b, 0, none⟩) n c) (D := [15, 16, 17, 18, 19]) (some 15) (by kernel_rfl) (by kernel_rfl) (by kernel_rfl) (by kernel_rfl) (by kernel_rfl) (by rfl) (by kernel_rfl) (fun _ _ _ h => h) (fun o ho => ?y10) (hS0 _) ?_
  case y10 =>
    cases ho
    refine .inl ⟨by kernel_rfl, fun w' hw => ?_⟩
    simp [execOp, go_sem, hw.1, hw.2.1, hw.2.2, Act.eval, Act.put]
  refine wpAnyU_take (i := 11) (v := .pointer (some ⟨S, 0, none⟩)) (D := [12, 13, 14, 15, 16, 17, 18, 19]) (some 16) (by kernel_rfl) (by kernel_rfl) (by kernel_rfl) (by kernel_rfl) (by kernel_rfl) (by rfl) (by kernel_rfl) (fun _ _ _ h => h) (fun o ho => ?y11) (hS0 _) ?_
  case y11 =>
    cases ho
    refine .inl ⟨by kernel_rfl, fun w' hw => ?_⟩
    simp [execOp, go_sem, Act.eval, Act.put]
  refine wpAnyU_take (i := 12) (v := .pointer (some ⟨S, 0, none⟩)) (D := [13, 14, 15, 16, 17, 18, 19]) (some 17) (by kernel_rfl) (by kernel_rfl) (by kernel_rfl) (by kernel_rfl) (by kernel_rfl) (by rfl) (by kernel_rfl) (fun _ _ _ h => h) (fun o ho => ?y12) (hS0 _) ?_
  case y12 =>
    cases ho
    refine .inl ⟨by kernel_rfl, fun w' hw => ?_⟩
    simp [execOp, go_sem, Act.eval, Act.put]
  refine wpAnyU_take (i := 13) (v := .pointer (some ⟨S, 1, none⟩)) (D := [14, 15, 16, 17, 18, 19]) (some 18) (by kernel_rfl) (by kernel_rfl) (by kernel_rfl) (by kernel_rfl) (by kernel_rfl) (by rfl) (by kernel_rfl) (fun _ _ _ h => h) (fun o ho => ?y13) (hS0 _) ?_
  case y13 =>
    cases ho
    refine .inl ⟨by kernel_rfl, fun w' hw => ?_⟩
    simp [execOp, go_sem, Act.eval, Act.put]
  refine wpAnyU_take (i := 14) (v := .int .i64 pos) (D := [15, 16, 17, 18, 19]) (some 19) (by kernel_rfl) (by kernel_rfl) (by kernel_rfl) (by kernel_rfl) (by kernel_rfl) (by rfl) (by kernel_rfl) (fun _ _ _ h => h) (fun o ho => ?y14) (hS0 _) ?_
  case y14 =>
    cases ho
    refine .inl ⟨by kernel_rfl, fun w' hw => ?_⟩
    simp [execOp, go_sem, hw.1, hw.2.1, hw.2.2, Act.eval, Act.put]
  refine wpAnyU_take (i := 15) (v := .pointer (some ⟨b, pos, none⟩)) (D := [16, 17, 18, 19]) (some 20) (by kernel_rfl) (by kernel_rfl) (by kernel_rfl) (by kernel_rfl) (by kernel_rfl) (by rfl) (by kernel_rfl) (fun _ _ _ h => h) (fun o ho => ?y15) (hS0 _) ?_
  case y15 =>
    cases ho
    refine .inl ⟨by kernel_rfl, fun w' hw => ?_⟩
    simp [execOp, go_sem, Act.eval, Act.put, hlt]
  refine wpAnyU_take (i := 16) (v := .int .u8 x) (D := [17, 18, 19]) (some 21) (by kernel_rfl) (by kernel_rfl) (by kernel_rfl) (by kernel_rfl) (by kernel_rfl) (by rfl) (by kernel_rfl) (fun _ _ _ h => h) (fun o ho => ?y16) (hS0 _) ?_
  case y16 =>
    cases ho
    refine .inl ⟨by kernel_rfl, fun w' hw => ?_⟩
    simp [execOp, go_sem, hw.1, hw.2.1, hw.2.2, Act.eval, Act.put]
  have hSW : S < (w.alloc tokO).heap.size := by simp; omega
  have k1 : (((w.alloc tokO).alloc (.cells #[.int .u8 x] 5)).drew).cell? ⟨S, 1, none⟩ = some (.int .i64 pos) := Lib.cell?_alloc_marked _ (Lib.cell?_alloc_marked _ h1)
  have k0 : (((w.alloc tokO).alloc (.cells #[.int .u8 x] 5)).drew).cell? ⟨S, 0, none⟩ = some (.slice (some ⟨b, 0, none⟩) n c) := Lib.cell?_alloc_marked _ (Lib.cell?_alloc_marked _ h0)
  have kx : (((w.alloc tokO).alloc (.cells #[.int .u8 x] 5)).drew).cell? ⟨b, pos, none⟩ = some (.int .u8 x) := Lib.cell?_alloc_marked _ (Lib.cell?_alloc_marked _ hx)
  have kf : (((w.alloc tokO).alloc (.cells #[.int .u8 x] 5)).drew).frozen? ⟨S, 1, none⟩ = false := by
    show ((w.alloc tokO).alloc _).frozen? _ = _
    rw [World.frozen?_alloc_past (hn := hSW), World.frozen?_alloc_past (hn := hS)]; exact hf
  refine wpAnyU_all (rs := [17]) (by kernel_rfl) (by decide) ?_
  intro i hi
  obtain rfl : i = 17 := by simpa using hi
  clear hi
  refine wpOp_value (some 22) (by kernel_rfl) (by kernel_rfl) (v := .slice (some ⟨w.heap.size + 1, 0, none⟩) 1 1) (w' := ((w.alloc tokO).alloc (.cells #[.int .u8 x] 5)).drew) (fun o ho => ?r17) ⟨fun _ => ⟨k0, k1, kx⟩, ?_⟩
  case r17 =>
    cases ho
    simp [execOp, go_sem, Act.eval, Act.put, tokO]
    rfl
  refine wpAnyU_all (rs := [18]) (by kernel_rfl) (by decide) ?_
  intro i hi
  obtain rfl : i = 18 := by simpa using hi
  clear hi
  refine wpOp_enter (some 23) (by kernel_rfl) (by kernel_rfl) (f := 58) (args := #[.pointer (some ⟨S, 0, none⟩), .int .i64 kind, .int .i64 ((pos + 1 : Nat) : Int), .slice (some ⟨w.heap.size + 1, 0, none⟩) 1 1]) (w' := ((w.alloc tokO).alloc (.cells #[.int .u8 x] 5)).drew) (fun o ho => ?r18)
    (take_fits S pos kind (pos + 1) (some ⟨w.heap.size + 1, 0, none⟩) 1 1 _ k1 kf (by show S < ((w.alloc tokO).alloc _).heap.size; simp; omega) (by decide) (by omega) (by omega)) ?k18 (fun ch w'' h => by cases h.1) (fun w'' h => by cases h.1)
  case r18 =>
    cases ho
    simp [execOp, go_sem, Act.eval, Act.put]
  case k18 =>
    rintro u w1 ⟨hu, M⟩
    cases hu
    refine ⟨(fun h => by cases h), ?_⟩
    refine wpAnyU_all (rs := [19]) (by kernel_rfl) (by decide) ?_
    intro i hi
    obtain rfl : i = 19 := by simpa using hi
    clear hi
    have hN : S ≠ w.heap.size := by omega
    have hblk : w1.heap[w.heap.size]? = some tokO := by
      rw [M.grown.block w.heap.size (by show _ < ((w.alloc tokO).alloc _).heap.size; simp; omega) (by simp; omega)]
      show ((w.heap.push tokO).push _)[w.heap.size]? = _
      simp [Array.getElem?_push]
    have c0 : ∀ j, w1.cell? ⟨w.heap.size, j, none⟩ = (#[.int .i64 0, .int .i64 0, .int .i64 0, .slice none 0 0, .int .i64 0] : Array Value)[j]? := fun j => cell_of_row w1 w.heap.size j _ _ (0, 0) hblk
    have f0 : ∀ j, w1.frozen? ⟨w.heap.size, j, none⟩ = false := fun j => frozen_of_row w1 w.heap.size j _ _ hblk
    refine wpOp_skip none (by kernel_rfl) (by kernel_rfl) (w' := w1.setCells w.heap.size 0 [.int .i64 kind, .int .i64 pos, .int .i64 (((pos + 1 : Nat) : Int) - pos), .slice (some ⟨w.heap.size + 1, 0, none⟩) 1 1, .int .i64 0]) (fun o ho => ?r19) ⟨(fun h => by cases h), ?_⟩
    case r19 =>
      cases ho
      simp [execOp, go_sem, Act.eval, Act.put, c0, f0]
      rfl
    refine wpAnyU_done (by kernel_rfl) ?_ _
    refine NoPanic.normal ?_
    have hG := grown_set5 w1 w.heap.size (.int .i64 kind) (.int .i64 pos) (.int .i64 (((pos + 1 : Nat) : Int) - pos)) (.slice (some ⟨w.heap.size + 1, 0, none⟩) 1 1) (.int .i64 0)
    have hsz1 : w.heap.size ≤ w1.heap.size := by have := M.grown.size; simp at this; omega
    have hM : Moved w _ S (pos + 1) := Moved.onto (((Below.refl _ w).alloc (Nat.le_refl _) tokO).alloc (by simp) (.cells #[.int .u8 x] 5)).drew M (Below.of_grown hG hsz1 (fun k e => by cases e; exact Nat.le_refl _)) hS
    have hO2 : OwnS ((w.alloc tokO).alloc (.cells #[.int .u8 x] 5)).drew w.heap.size (some ⟨w.heap.size + 1, 0, none⟩) 1 1 [x] := by
      have := own1 (w.alloc tokO) x
      simp only [World.size_alloc] at this
      exact ⟨this.1, this.2.1, this.2.2.imp id fun ⟨g, c, cur, a1, a2, a3⟩ => ⟨g, c, cur, a1, by omega, a3⟩⟩
    have hO3 := (hO2.kept M.grown (fun g e e' => by simp only [Option.some.injEq, Addr.mk.injEq, and_true] at e; simp only [Option.some.injEq] at e'; omega)).kept hG (fun g e e' => by simp only [Option.some.injEq, Addr.mk.injEq, and_true] at e; simp only [Option.some.injEq] at e'; omega)
    have HC0 : Hid (∀ j, w1.cell? ⟨w.heap.size, j, none⟩ = (#[.int .i64 0, .int .i64 0, .int .i64 0, .slice none 0 0, .int .i64 0] : Array Value)[j]?) := c0
    have HO3 : Hid (OwnS _ _ _ _ _ _) := hO3
    have HM : Hid (Moved _ _ _ _) := hM
    clear hO2 M hG hO3 hM c0 f0 hblk k0 k1 kx kf hS0 h0 h1 hx hf hlt hps hwr hN hSW hsz1
    simp only [Act.put, List.setIfInBounds_toArray, List.set_cons_zero, List.set_cons_succ]
    go_wp2
    exact bodyPost_ret (v := tokV kind pos 1 (some ⟨w.heap.size + 1, 0, none⟩) 1 1 0) (by simp [results, Tryd.results59, go_sem, World.setCells, HC0.out]; omega) rfl ⟨_, _, _, rfl, HO3.out, HM.out⟩

end Go.Proofs.YtfhelmhcmfpedaaDoor
