/- Texts of Lx7, Lx8, Lx9, LxA, LxB. Own work of the verifier. -/
import Derived.Test.YtfhelmhcmfpedaaDoorLx5
import Derived.Test.YtfhelmhcmfpedaaDoorLx6
import Derived.Test.YtfhelmhcmfpedaaDoorL1c
import Derived.Test.YtfhelmhcmfpedaaDoorCelB
namespace Go.Proofs.YtfhelmhcmfpedaaDoor
open Go Go.RowKit
set_option linter.unusedVariables false

theorem cls_all : (List.range 256).all (fun c => (isOfB c 1 == smallB c) && (isOfB c 4 == digitB c) && (isOfB c 2 == (alnumB c && !smallB c && !digitB c)) && (isOfB c 8 == symbolB c) && (isOfB c 32 == (decide ((c : Int) = 33) || decide ((c : Int) = 59))) &&
    (isOfB c 64 == (decide ((c : Int) = 40) || decide ((c : Int) = 41) || decide ((c : Int) = 91) || decide ((c : Int) = 93) || decide ((c : Int) = 123) || decide ((c : Int) = 125) || decide ((c : Int) = 44) || decide ((c : Int) = 124))) && (isOfB c 7 == alnumB c)) = true := by decide +kernel
theorem cls_at {c : Int} (h0 : 0 ≤ c) (h1 : c < 256) : isOfB c 1 = smallB c ∧ isOfB c 4 = digitB c ∧ isOfB c 2 = (alnumB c && !smallB c && !digitB c) ∧ isOfB c 8 = symbolB c ∧ isOfB c 32 = (decide (c = 33) || decide (c = 59)) ∧
    isOfB c 64 = (decide (c = 40) || decide (c = 41) || decide (c = 91) || decide (c = 93) || decide (c = 123) || decide (c = 125) || decide (c = 44) || decide (c = 124)) ∧ isOfB c 7 = alnumB c := by
  have h := List.all_eq_true.1 cls_all c.toNat (by simp; omega)
  rw [show ((c.toNat : Nat) : Int) = c by omega] at h
  simp only [Bool.and_eq_true, beq_iff_eq] at h
  obtain ⟨⟨⟨⟨⟨⟨h1, h2⟩, h3⟩, h4⟩, h5⟩, h6⟩, h7⟩ := h
  exact ⟨h1, h2, h3, h4, h5, h6, h7⟩
theorem runLen_congr {f g : Int → Bool} : ∀ (xs : List Int), (∀ x ∈ xs, f x = g x) → runLen f xs = runLen g xs
  | [], _ => rfl
  | x :: r, h => by
    unfold runLen
    rw [h x (List.mem_cons_self ..), runLen_congr r (fun y hy => h y (List.mem_cons_of_mem _ hy))]
theorem runI_alnum {xs : List Int} (hb : Bytes xs) (pos : Nat) : runI 7 xs pos = runLen (clsB false) (xs.drop pos) := runLen_congr _ (fun x hx => by
  have := hb x (List.mem_of_mem_drop hx)
  exact (cls_at this.1 this.2).2.2.2.2.2.2)
theorem runI_symbol {xs : List Int} (hb : Bytes xs) (pos : Nat) : runI 8 xs pos = runLen (clsB true) (xs.drop pos) := runLen_congr _ (fun x hx => by
  have := hb x (List.mem_of_mem_drop hx)
  exact (cls_at this.1 this.2).2.2.2.1)
/-- A token, or its fault, of the specification. -/
def TokSOut (w : World) (pos : Nat) (r : TokR) (e : Ending) (w' : World) : Prop :=
  match r with
  | .ok (kind, len, ys, v) => ∃ p n c, e = .returned (.tuple #[tokV kind pos len p n c v, .int .i64 0]) ∧ OwnS w' w.heap.size p n c ys ∧ Below w.heap.size w w'
  | .error code => ∃ k a l v, e = .returned (.tuple #[tokV k a l none 0 0 v, .int .i64 code]) ∧ Below w.heap.size w w'
theorem tokSOut_of {w w' : World} {pos : Nat} {e : Ending} {r r' : TokR} (h : TokSOut w pos r e w') (er : r' = r) : TokSOut w pos r' e w' := er ▸ h

set_option maxRecDepth 100000 in
set_option maxHeartbeats 8000000 in
theorem tokBad_any (b cap pos : Nat) (call : Bool) (xs : List Int) (w : World) (hb : Bytes xs) (hn : xs.length ≤ 10000) (hp : pos < xs.length) (hc : ∀ m, m < xs.length → w.cell? ⟨b, m, none⟩ = some (.int .u8 (xs.getD m 0)))
    (hd : digitB (xs.getD pos 0) = false) (ha : alnumB (xs.getD pos 0) = false) (hs : symbolB (xs.getD pos 0) = false) (h32 : isOfB (xs.getD pos 0) 32 = false) (h64 : isOfB (xs.getD pos 0) 64 = false) (h39 : xs.getD pos 0 ≠ 39) (h34 : xs.getD pos 0 ≠ 34) :
    Calls Tryd.prog 29 #[.slice (some ⟨b, 0, none⟩) xs.length cap, .int .i64 pos, .bool call] w (TokSOut w pos (.error 2)) := by
  obtain ⟨n, en⟩ : ∃ n, n = xs.length := ⟨_, rfl⟩
  have hx := hc pos hp
  have hr := hb.at pos
  obtain ⟨x, ex⟩ : ∃ x, x = xs.getD pos 0 := ⟨_, rfl⟩
  rw [← ex] at hx hr hd ha hs h32 h64 h39 h34
  obtain ⟨q1, q2, q3, q4, q5, q6, q7⟩ := cls_at hr.1 hr.2
  rw [h32] at q5
  rw [h64] at q6
  simp only [Bool.or_eq_false_iff, decide_eq_false_iff_not, eq_comm (a := false)] at q5 q6
  have HD := fun W => digit_any x W hr.1 hr.2
  have HA := fun W => alnum_any x W hr.1 hr.2
  have HS := fun W => symbol_any x W hr.1 hr.2
  rw [hd] at HD
  rw [ha] at HA
  rw [hs] at HS
  rw [← en] at hp hn ⊢
  have b33 : (x == 33) = false := by simpa using q5.1
  have b59 : (x == 59) = false := by simpa using q5.2
  have b39 : (x == 39) = false := by simpa using h39
  have b34 : (x == 34) = false := by simpa using h34
  have b46 : (x == 46) = false := by
    cases hh : (x == 46) with
    | false => rfl
    | true => simp at hh; subst hh; exact absurd hs (by decide)
  have b40 : (x == 40) = false := by simpa using q6.1.1.1.1.1.1.1
  have b41 : (x == 41) = false := by simpa using q6.1.1.1.1.1.1.2
  have b91 : (x == 91) = false := by simpa using q6.1.1.1.1.1.2
  have b93 : (x == 93) = false := by simpa using q6.1.1.1.1.2
  have b123 : (x == 123) = false := by simpa using q6.1.1.1.2
  have b125 : (x == 125) = false := by simpa using q6.1.1.2
  have b44 : (x == 44) = false := by simpa using q6.1.2
  have b124 : (x == 124) = false := by simpa using q6.2
  have hxa : ((w.alloc tokO).alloc tokO).cell? ⟨b, pos, none⟩ = some (.int .u8 x) := Lib.cell?_alloc_marked _ (Lib.cell?_alloc_marked _ hx)
  have hbl : b < w.heap.size := World.block_lt_of_cell? _ _ hx
  clear hb hc ex q1 q2 q3 q4 q5 q6 q7 h32 h64 hd ha hs h39 h34 en
  go_enter Tryd.func29, Tryd.ntmps29
  go_wp2_with (first | (go_at_call 38; refine (HD _).mono ?_; rintro e w' ⟨rfl, rfl⟩) | (go_at_call 35; refine (HA _).mono ?_; rintro e w' ⟨rfl, rfl⟩) | (go_at_call 34; refine (HS _).mono ?_; rintro e w' ⟨rfl, rfl⟩))
  refine bodyPost_ret (v := .tuple #[tokV 0 0 0 none 0 0 0, .int .i64 2]) (by simp [results, Tryd.results29, go_sem]) rfl ?_
  exact ⟨0, 0, 0, 0, rfl, ((Below.refl _ _).alloc (Nat.le_refl _) _).alloc (by simp) _⟩

end Go.Proofs.YtfhelmhcmfpedaaDoor

namespace Go.Proofs.YtfhelmhcmfpedaaDoor
open Go Go.RowKit
set_option linter.unusedVariables false

abbrev tokB (k a l : Int) : Obj := .cells #[.int .i64 k, .int .i64 a, .int .i64 l, .slice none 0 0, .int .i64 0] 39
theorem five_cells {w : World} {g : Nat} {u0 u1 u2 u3 u4 : Value} (h : w.heap[g]? = some (.cells #[u0, u1, u2, u3, u4] 39)) : (w.cell? ⟨g, 0, none⟩ = some u0 ∧ w.cell? ⟨g, 1, none⟩ = some u1 ∧ w.cell? ⟨g, 2, none⟩ = some u2 ∧ w.cell? ⟨g, 3, none⟩ = some u3 ∧ w.cell? ⟨g, 4, none⟩ = some u4) ∧ ∀ i, w.frozen? ⟨g, i, none⟩ = false :=
  ⟨⟨by unfold World.cell?; rw [h]; rfl, by unfold World.cell?; rw [h]; rfl, by unfold World.cell?; rw [h]; rfl, by unfold World.cell?; rw [h]; rfl, by unfold World.cell?; rw [h]; rfl⟩, fun i => frozen_of_row _ _ _ _ _ h⟩
/-- A part of the text. -/
theorem bin_part {w : World} {b pos l : Nat} {xs : List Int} (hc : ∀ m, m < xs.length → w.cell? ⟨b, m, none⟩ = some (.int .u8 (xs.getD m 0))) (hl : pos + l ≤ xs.length) : BIn w (some ⟨b, pos, none⟩) ((xs.drop pos).take l) := fun _ => ⟨b, pos, rfl, fun i hi => by
  have hi' : i < l := by simp at hi; omega
  rw [hc (pos + i) (by omega), List.getD, List.getD, List.getElem?_take_of_lt hi', List.getElem?_drop]⟩

theorem OwnS.mono' {w : World} {B B' : Nat} {p : Option Addr} {n c : Nat} {ys : List Int} (h : OwnS w B p n c ys) (hB : B' ≤ B) : OwnS w B' p n c ys := h.mono hB
theorem OwnS.setLow {w : World} {B : Nat} {p : Option Addr} {n c : Nat} {ys : List Int} (h : OwnS w B p n c ys) {a : Addr} (ha : a.block < B) (u : Value) : OwnS (w.setCell a u) B p n c ys := by
  refine ⟨h.1, ownsRow_setCell_other h.2 (fun e => ?_) u⟩
  have := (h.2.lt a.block e).1
  omega
/-- What the last stores leave. -/
theorem tok_fin {w W2 w5 : World} {p5 : Option Addr} {n5 c5 : Nat} {ys : List Int} (hB2 : Below w.heap.size w W2) (hs2 : W2.heap.size = w.heap.size + 1 + 1) (hb5 : Below W2.heap.size W2 w5) (ho5 : OwnS w5 W2.heap.size p5 n5 c5 ys) (u u0 u1 u2 u3 u4 : Value) :
    OwnS ((((((w5.setCell ⟨w.heap.size + 1, 3, none⟩ u).setCell ⟨w.heap.size, 0, none⟩ u0).setCell ⟨w.heap.size, 1, none⟩ u1).setCell ⟨w.heap.size, 2, none⟩ u2).setCell ⟨w.heap.size, 3, none⟩ u3).setCell ⟨w.heap.size, 4, none⟩ u4) w.heap.size p5 n5 c5 ys ∧
    Below w.heap.size w ((((((w5.setCell ⟨w.heap.size + 1, 3, none⟩ u).setCell ⟨w.heap.size, 0, none⟩ u0).setCell ⟨w.heap.size, 1, none⟩ u1).setCell ⟨w.heap.size, 2, none⟩ u2).setCell ⟨w.heap.size, 3, none⟩ u3).setCell ⟨w.heap.size, 4, none⟩ u4) := by
  have h0 : ∀ j, (⟨w.heap.size, j, none⟩ : Addr).block < W2.heap.size := fun j => by show w.heap.size < _; omega
  refine ⟨((((((ho5.setLow (a := ⟨w.heap.size + 1, 3, none⟩) (by show w.heap.size + 1 < _; omega) u).setLow (h0 0) u0).setLow (h0 1) u1).setLow (h0 2) u2).setLow (h0 3) u3).setLow (h0 4) u4).mono' (by omega), ?_⟩
  have hb : Below w.heap.size w w5 := Below.on hB2 hb5
  exact (((((hb.setCell (p := ⟨w.heap.size + 1, 3, none⟩) (by show w.heap.size ≤ w.heap.size + 1; omega) u).setCell (p := ⟨w.heap.size, 0, none⟩) (Nat.le_refl _) u0).setCell (p := ⟨w.heap.size, 1, none⟩) (Nat.le_refl _) u1).setCell (p := ⟨w.heap.size, 2, none⟩) (Nat.le_refl _) u2).setCell (p := ⟨w.heap.size, 3, none⟩) (Nat.le_refl _) u3).setCell (p := ⟨w.heap.size, 4, none⟩) (Nat.le_refl _) u4

set_option maxRecDepth 100000 in
set_option maxHeartbeats 8000000 in
theorem tokOne_any (b cap pos : Nat) (call : Bool) (xs : List Int) (w : World) (hb : Bytes xs) (hn : xs.length ≤ 10000) (hcap : xs.length ≤ cap) (hp : pos < xs.length) (hc : ∀ m, m < xs.length → w.cell? ⟨b, m, none⟩ = some (.int .u8 (xs.getD m 0)))
    (hone : xs.getD pos 0 = 33 ∨ xs.getD pos 0 = 59) :
    Calls Tryd.prog 29 #[.slice (some ⟨b, 0, none⟩) xs.length cap, .int .i64 pos, .bool call] w (TokSOut w pos (.ok (1, 1, [xs.getD pos 0], 0))) := by
  obtain ⟨n, en⟩ : ∃ n, n = xs.length := ⟨_, rfl⟩
  have hx := hc pos hp
  have hr := hb.at pos
  have hys : (xs.drop pos).take 1 = [xs.getD pos 0] := by
    rw [List.getD, List.getElem?_eq_getElem hp, List.drop_eq_getElem_cons hp]; rfl
  have HB2 : Below w.heap.size w ((w.alloc tokO).alloc (tokB 1 pos 1)) := ((Below.refl _ _).alloc (Nat.le_refl _) _).alloc (by simp) _
  have HCP := l1copy_all (some ⟨b, pos, none⟩) 1 (cap - pos) ((xs.drop pos).take 1) ((w.alloc tokO).alloc (tokB 1 pos 1)) (by simp; omega) (by simp) ((bin_part hc (by omega)).below HB2)
  rw [hys] at HCP
  obtain ⟨x, ex⟩ : ∃ x, x = xs.getD pos 0 := ⟨_, rfl⟩
  rw [← ex] at hx hr hone HCP ⊢
  rw [← en] at hn hcap hp ⊢
  have hd : digitB x = false := by rcases hone with rfl | rfl <;> decide
  have ha : alnumB x = false := by rcases hone with rfl | rfl <;> decide
  have hs : symbolB x = false := by rcases hone with rfl | rfl <;> decide
  have b46 : (x == 46) = false := by rcases hone with rfl | rfl <;> decide
  have HD := fun W => digit_any x W hr.1 hr.2
  have HA := fun W => alnum_any x W hr.1 hr.2
  have HS := fun W => symbol_any x W hr.1 hr.2
  rw [hd] at HD
  rw [ha] at HA
  rw [hs] at HS
  have hbl : b < w.heap.size := World.block_lt_of_cell? _ _ hx
  have hcp1 : ¬ cap = pos := by omega
  have hp0 : (0 : Int) ≤ (pos : Int) := by omega
  have hp1 : (0 : Int) ≤ (pos : Int) + 1 := by omega
  have hp2 : (pos : Int) + 1 ≤ (cap : Int) := by omega
  have hp3 : (pos : Int) ≤ (pos : Int) + 1 := by omega
  have hto : ((pos : Int) + 1).toNat = pos + 1 := by omega
  have hsub : pos + 1 - pos = 1 := by omega
  have G1 : ((w.alloc tokO).alloc (tokB 1 pos 1)).heap[w.heap.size]? = some tokO := (Below.heap_alloc _ _ _ (by simp)).trans (heap_alloc_new _ _)
  have G2 : ((w.alloc tokO).alloc (tokB 1 pos 1)).heap[w.heap.size + 1]? = some (tokB 1 pos 1) := by
    have := heap_alloc_new (w.alloc tokO) (tokB 1 pos 1)
    rwa [World.size_alloc] at this
  have HG1 : Hid _ := G1
  have HG2 : Hid _ := G2
  have HBB : Hid _ := HB2
  clear hb hc ex hd ha hs en hys HB2 G1 G2
  rcases hone with rfl | rfl
  all_goals
    go_enter Tryd.func29, Tryd.ntmps29
    go_wp2_with (first | (go_at_call 38; refine (HD _).mono ?_; rintro e w' ⟨rfl, rfl⟩) | (go_at_call 35; refine (HA _).mono ?_; rintro e w' ⟨rfl, rfl⟩) | (go_at_call 34; refine (HS _).mono ?_; rintro e w' ⟨rfl, rfl⟩))
    refine HCP.mono ?_
    rintro e w5 ⟨p5, n5, c5, rfl, ho5, hb5⟩
    obtain ⟨⟨a0, a1, a2, a3, a4⟩, af⟩ := five_cells ((hb5.block _ (by simp; omega)).trans HG1.out)
    obtain ⟨⟨e0, e1, e2, e3, e4⟩, ef⟩ := five_cells ((hb5.block _ (by simp)).trans HG2.out)
    have HO5 : Hid _ := ho5
    have HB5 : Hid _ := hb5
    have hn5 : n5 = 1 := ho5.1
    subst hn5
    clear ho5 hb5 HCP
    go_wp2_with fail
    refine bodyPost_ret (v := .tuple #[tokV 1 pos 1 p5 1 c5 0, .int .i64 0]) (by simp [results, Tryd.results29, go_sem, a0, a1, a2, a3, a4]) rfl ?_
    have hf := tok_fin HBB.out (by simp) HB5.out HO5.out (.slice p5 1 c5) (.int .i64 1) (.int .i64 pos) (.int .i64 1) (.slice p5 1 c5) (.int .i64 0)
    exact ⟨p5, 1, c5, rfl, hf.1, hf.2⟩

end Go.Proofs.YtfhelmhcmfpedaaDoor

namespace Go.Proofs.YtfhelmhcmfpedaaDoor
open Go Go.RowKit
set_option linter.unusedVariables false

set_option maxRecDepth 100000 in
set_option maxHeartbeats 8000000 in
theorem tokSmall_any (b cap pos : Nat) (call : Bool) (xs : List Int) (w : World) (hb : Bytes xs) (hn : xs.length ≤ 10000) (hcap : xs.length ≤ cap) (hp : pos < xs.length) (hc : ∀ m, m < xs.length → w.cell? ⟨b, m, none⟩ = some (.int .u8 (xs.getD m 0))) (hd : digitB (xs.getD pos 0) = false) (ha : alnumB (xs.getD pos 0) = true) (hs : smallB (xs.getD pos 0) = true) :
    Calls Tryd.prog 29 #[.slice (some ⟨b, 0, none⟩) xs.length cap, .int .i64 pos, .bool call] w (TokSOut w pos (runR xs pos 1 7)) := by
  have hrun := runI_alnum hb pos
  have hle := runLen_le (clsB false) (xs.drop pos)
  rw [List.length_drop] at hle
  have HB1 : Below w.heap.size w ((w.alloc tokO).alloc (tokB 1 pos 0)) := ((Below.refl _ _).alloc (Nat.le_refl _) _).alloc (by simp) _
  have HRUN := l1run_any b cap xs pos false ((w.alloc tokO).alloc (tokB 1 pos 0)) hb (by omega) (by omega) (fun i hi => (HB1.cell (World.block_lt_of_cell? _ _ (hc i hi))).trans (hc i hi))
  have hrr : runR xs pos 1 7 = if 100 < runI 7 xs pos then .error 3 else .ok (1, runI 7 xs pos, (xs.drop pos).take (runI 7 xs pos), 0) := rfl
  rw [hrun] at hrr
  obtain ⟨L, eL⟩ : ∃ L, L = runLen (clsB false) (xs.drop pos) := ⟨_, rfl⟩
  rw [← eL] at hle HRUN hrr
  have HRR : Hid _ := hrr
  have HB2 : Below w.heap.size w ((w.alloc tokO).alloc (tokB 1 pos L)) := ((Below.refl _ _).alloc (Nat.le_refl _) _).alloc (by simp) _
  have hLn : pos + L ≤ xs.length := by omega
  have hlen : ((xs.drop pos).take L).length = L := by simp; omega
  have HCP := l1copy_all (some ⟨b, pos, none⟩) L (cap - pos) ((xs.drop pos).take L) ((w.alloc tokO).alloc (tokB 1 pos L)) hlen.symm (by omega) ((bin_part hc hLn).below HB2)
  have HLEN : Hid (((xs.drop pos).take L).length = L) := hlen
  have hx := hc pos hp
  have hr := hb.at pos
  obtain ⟨ys, eys⟩ : ∃ ys, ys = (xs.drop pos).take L := ⟨_, rfl⟩
  rw [← eys] at HCP HLEN HRR
  obtain ⟨n, en⟩ : ∃ n, n = xs.length := ⟨_, rfl⟩
  obtain ⟨x, ex⟩ : ∃ x, x = xs.getD pos 0 := ⟨_, rfl⟩
  rw [← ex] at hx hr hd ha hs
  have HD := fun W => digit_any x W hr.1 hr.2
  have HA := fun W => alnum_any x W hr.1 hr.2
  have HS := fun W => symbol_any x W hr.1 hr.2
  have HSM := fun W => small_any x W hr.1 hr.2
  rw [← en] at hn hcap hp HRUN ⊢
  have hbl : b < w.heap.size := World.block_lt_of_cell? _ _ hx
  have hL3 : L ≤ 10000 := by omega
  have hcp1 : ¬ cap = pos := by omega
  have hp0 : (0 : Int) ≤ (pos : Int) := by omega
  have hp1 : (0 : Int) ≤ (pos : Int) + L := by omega
  have hp2 : (pos : Int) + L ≤ (cap : Int) := by omega
  have hp3 : (pos : Int) ≤ (pos : Int) + L := by omega
  have hto : ((pos : Int) + L).toNat = pos + L := by omega
  have hsub : pos + L - pos = L := by omega
  have G1 : ((w.alloc tokO).alloc (tokB 1 pos L)).heap[w.heap.size]? = some tokO := (Below.heap_alloc _ _ _ (by simp)).trans (heap_alloc_new _ _)
  have G2 : ((w.alloc tokO).alloc (tokB 1 pos L)).heap[w.heap.size + 1]? = some (tokB 1 pos L) := by
    have := heap_alloc_new (w.alloc tokO) (tokB 1 pos L)
    rwa [World.size_alloc] at this
  have HG1 : Hid _ := G1
  have HG2 : Hid _ := G2
  have HBB : Hid _ := HB2
  clear hb hc ex en HB1 HB2 G1 G2 eys eL hle hrun hrr hlen hLn
  rw [hd] at HD
  rw [ha] at HA
  rw [hs] at HSM
  clear hd ha hs
  go_enter Tryd.func29, Tryd.ntmps29
  go_wp2_with (first | (go_at_call 38; refine (HD _).mono ?_; rintro e w' ⟨rfl, rfl⟩) | (go_at_call 35; refine (HA _).mono ?_; rintro e w' ⟨rfl, rfl⟩) | (go_at_call 34; refine (HS _).mono ?_; rintro e w' ⟨rfl, rfl⟩) | (go_at_call 20; refine HRUN.mono ?_; rintro e w' ⟨rfl, rfl⟩) | (go_at_call 19; refine (HSM _).mono ?_; rintro e w' ⟨rfl, rfl⟩))
  refine HCP.mono ?_
  rintro e w5 ⟨p5, n5, c5, rfl, ho5, hb5⟩
  obtain ⟨⟨a0, a1, a2, a3, a4⟩, af⟩ := five_cells ((hb5.block _ (by simp; omega)).trans HG1.out)
  obtain ⟨⟨e0, e1, e2, e3, e4⟩, ef⟩ := five_cells ((hb5.block _ (by simp)).trans HG2.out)
  have HO5 : Hid _ := ho5
  have HB5 : Hid _ := hb5
  have hn5 : n5 = L := ho5.1.trans HLEN.out
  subst hn5
  clear ho5 hb5 HCP
  by_cases h100 : 100 < n5
  · have h100I : (100 : Int) < n5 := by omega
    have hrr := HRR.out
    rw [if_pos h100] at hrr
    have HR3 : Hid _ := hrr
    clear hrr HRR
    go_wp2_with fail
    refine bodyPost_ret (v := .tuple #[tokV 0 0 0 none 0 0 0, .int .i64 3]) (by simp [results, Tryd.results29, go_sem, a0, a1, a2, a3, a4]) rfl ?_
    have hf := tok_fin HBB.out (by simp) HB5.out HO5.out (.slice p5 n5 c5) (.int .i64 0) (.int .i64 0) (.int .i64 0) (.slice none 0 0) (.int .i64 0)
    exact tokSOut_of (r := .error 3) ⟨0, 0, 0, 0, rfl, hf.2⟩ HR3.out
  · have h100I : ¬ (100 : Int) < n5 := by omega
    have hrr := HRR.out
    rw [if_neg h100] at hrr
    have HR3 : Hid _ := hrr
    clear hrr HRR
    go_wp2_with fail
    refine bodyPost_ret (v := .tuple #[tokV 1 pos n5 p5 n5 c5 0, .int .i64 0]) (by simp [results, Tryd.results29, go_sem, a0, a1, a2, a3, a4]) rfl ?_
    have hf := tok_fin HBB.out (by simp) HB5.out HO5.out (.slice p5 n5 c5) (.int .i64 1) (.int .i64 pos) (.int .i64 n5) (.slice p5 n5 c5) (.int .i64 0)
    exact tokSOut_of (r := .ok (1, n5, _, 0)) ⟨p5, n5, c5, rfl, hf.1, hf.2⟩ HR3.out

set_option maxRecDepth 100000 in
set_option maxHeartbeats 8000000 in
theorem tokLarge_any (b cap pos : Nat) (call : Bool) (xs : List Int) (w : World) (hb : Bytes xs) (hn : xs.length ≤ 10000) (hcap : xs.length ≤ cap) (hp : pos < xs.length) (hc : ∀ m, m < xs.length → w.cell? ⟨b, m, none⟩ = some (.int .u8 (xs.getD m 0))) (hd : digitB (xs.getD pos 0) = false) (ha : alnumB (xs.getD pos 0) = true) (hs : smallB (xs.getD pos 0) = false) :
    Calls Tryd.prog 29 #[.slice (some ⟨b, 0, none⟩) xs.length cap, .int .i64 pos, .bool call] w (TokSOut w pos (runR xs pos 2 7)) := by
  have hrun := runI_alnum hb pos
  have hle := runLen_le (clsB false) (xs.drop pos)
  rw [List.length_drop] at hle
  have HB1 : Below w.heap.size w ((w.alloc tokO).alloc (tokB 1 pos 0)) := ((Below.refl _ _).alloc (Nat.le_refl _) _).alloc (by simp) _
  have HRUN := l1run_any b cap xs pos false ((w.alloc tokO).alloc (tokB 1 pos 0)) hb (by omega) (by omega) (fun i hi => (HB1.cell (World.block_lt_of_cell? _ _ (hc i hi))).trans (hc i hi))
  have hrr : runR xs pos 2 7 = if 100 < runI 7 xs pos then .error 3 else .ok (2, runI 7 xs pos, (xs.drop pos).take (runI 7 xs pos), 0) := rfl
  rw [hrun] at hrr
  obtain ⟨L, eL⟩ : ∃ L, L = runLen (clsB false) (xs.drop pos) := ⟨_, rfl⟩
  rw [← eL] at hle HRUN hrr
  have HRR : Hid _ := hrr
  have HB2 : Below w.heap.size w ((w.alloc tokO).alloc (tokB 2 pos L)) := ((Below.refl _ _).alloc (Nat.le_refl _) _).alloc (by simp) _
  have hLn : pos + L ≤ xs.length := by omega
  have hlen : ((xs.drop pos).take L).length = L := by simp; omega
  have HCP := l1copy_all (some ⟨b, pos, none⟩) L (cap - pos) ((xs.drop pos).take L) ((w.alloc tokO).alloc (tokB 2 pos L)) hlen.symm (by omega) ((bin_part hc hLn).below HB2)
  have HLEN : Hid (((xs.drop pos).take L).length = L) := hlen
  have hx := hc pos hp
  have hr := hb.at pos
  obtain ⟨ys, eys⟩ : ∃ ys, ys = (xs.drop pos).take L := ⟨_, rfl⟩
  rw [← eys] at HCP HLEN HRR
  obtain ⟨n, en⟩ : ∃ n, n = xs.length := ⟨_, rfl⟩
  obtain ⟨x, ex⟩ : ∃ x, x = xs.getD pos 0 := ⟨_, rfl⟩
  rw [← ex] at hx hr hd ha hs
  have HD := fun W => digit_any x W hr.1 hr.2
  have HA := fun W => alnum_any x W hr.1 hr.2
  have HS := fun W => symbol_any x W hr.1 hr.2
  have HSM := fun W => small_any x W hr.1 hr.2
  rw [← en] at hn hcap hp HRUN ⊢
  have hbl : b < w.heap.size := World.block_lt_of_cell? _ _ hx
  have hL3 : L ≤ 10000 := by omega
  have hcp1 : ¬ cap = pos := by omega
  have hp0 : (0 : Int) ≤ (pos : Int) := by omega
  have hp1 : (0 : Int) ≤ (pos : Int) + L := by omega
  have hp2 : (pos : Int) + L ≤ (cap : Int) := by omega
  have hp3 : (pos : Int) ≤ (pos : Int) + L := by omega
  have hto : ((pos : Int) + L).toNat = pos + L := by omega
  have hsub : pos + L - pos = L := by omega
  have G1 : ((w.alloc tokO).alloc (tokB 2 pos L)).heap[w.heap.size]? = some tokO := (Below.heap_alloc _ _ _ (by simp)).trans (heap_alloc_new _ _)
  have G2 : ((w.alloc tokO).alloc (tokB 2 pos L)).heap[w.heap.size + 1]? = some (tokB 2 pos L) := by
    have := heap_alloc_new (w.alloc tokO) (tokB 2 pos L)
    rwa [World.size_alloc] at this
  have HG1 : Hid _ := G1
  have HG2 : Hid _ := G2
  have HBB : Hid _ := HB2
  clear hb hc ex en HB1 HB2 G1 G2 eys eL hle hrun hrr hlen hLn
  rw [hd] at HD
  rw [ha] at HA
  rw [hs] at HSM
  clear hd ha hs
  go_enter Tryd.func29, Tryd.ntmps29
  go_wp2_with (first | (go_at_call 38; refine (HD _).mono ?_; rintro e w' ⟨rfl, rfl⟩) | (go_at_call 35; refine (HA _).mono ?_; rintro e w' ⟨rfl, rfl⟩) | (go_at_call 34; refine (HS _).mono ?_; rintro e w' ⟨rfl, rfl⟩) | (go_at_call 20; refine HRUN.mono ?_; rintro e w' ⟨rfl, rfl⟩) | (go_at_call 19; refine (HSM _).mono ?_; rintro e w' ⟨rfl, rfl⟩))
  refine HCP.mono ?_
  rintro e w5 ⟨p5, n5, c5, rfl, ho5, hb5⟩
  obtain ⟨⟨a0, a1, a2, a3, a4⟩, af⟩ := five_cells ((hb5.block _ (by simp; omega)).trans HG1.out)
  obtain ⟨⟨e0, e1, e2, e3, e4⟩, ef⟩ := five_cells ((hb5.block _ (by simp)).trans HG2.out)
  have HO5 : Hid _ := ho5
  have HB5 : Hid _ := hb5
  have hn5 : n5 = L := ho5.1.trans HLEN.out
  subst hn5
  clear ho5 hb5 HCP
  by_cases h100 : 100 < n5
  · have h100I : (100 : Int) < n5 := by omega
    have hrr := HRR.out
    rw [if_pos h100] at hrr
    have HR3 : Hid _ := hrr
    clear hrr HRR
    go_wp2_with fail
    refine bodyPost_ret (v := .tuple #[tokV 0 0 0 none 0 0 0, .int .i64 3]) (by simp [results, Tryd.results29, go_sem, a0, a1, a2, a3, a4]) rfl ?_
    have hf := tok_fin HBB.out (by simp) HB5.out HO5.out (.slice p5 n5 c5) (.int .i64 0) (.int .i64 0) (.int .i64 0) (.slice none 0 0) (.int .i64 0)
    exact tokSOut_of (r := .error 3) ⟨0, 0, 0, 0, rfl, hf.2⟩ HR3.out
  · have h100I : ¬ (100 : Int) < n5 := by omega
    have hrr := HRR.out
    rw [if_neg h100] at hrr
    have HR3 : Hid _ := hrr
    clear hrr HRR
    go_wp2_with fail
    refine bodyPost_ret (v := .tuple #[tokV 2 pos n5 p5 n5 c5 0, .int .i64 0]) (by simp [results, Tryd.results29, go_sem, a0, a1, a2, a3, a4]) rfl ?_
    have hf := tok_fin HBB.out (by simp) HB5.out HO5.out (.slice p5 n5 c5) (.int .i64 2) (.int .i64 pos) (.int .i64 n5) (.slice p5 n5 c5) (.int .i64 0)
    exact tokSOut_of (r := .ok (2, n5, _, 0)) ⟨p5, n5, c5, rfl, hf.1, hf.2⟩ HR3.out

end Go.Proofs.YtfhelmhcmfpedaaDoor

namespace Go.Proofs.YtfhelmhcmfpedaaDoor
open Go Go.RowKit
set_option linter.unusedVariables false

set_option maxRecDepth 100000 in
set_option maxHeartbeats 8000000 in
theorem tokSym_any (b cap pos : Nat) (call : Bool) (xs : List Int) (w : World) (hb : Bytes xs) (hn : xs.length ≤ 10000) (hcap : xs.length ≤ cap) (hp : pos < xs.length) (hc : ∀ m, m < xs.length → w.cell? ⟨b, m, none⟩ = some (.int .u8 (xs.getD m 0))) (hd : digitB (xs.getD pos 0) = false) (ha : alnumB (xs.getD pos 0) = false) (hs : symbolB (xs.getD pos 0) = true) (h46 : xs.getD pos 0 ≠ 46) :
    Calls Tryd.prog 29 #[.slice (some ⟨b, 0, none⟩) xs.length cap, .int .i64 pos, .bool call] w (TokSOut w pos (runR xs pos 1 8)) := by
  have hrun := runI_symbol hb pos
  have hle := runLen_le (clsB true) (xs.drop pos)
  rw [List.length_drop] at hle
  have HB1 : Below w.heap.size w ((w.alloc tokO).alloc (tokB 1 pos 0)) := ((Below.refl _ _).alloc (Nat.le_refl _) _).alloc (by simp) _
  have HRUN := l1run_any b cap xs pos true ((w.alloc tokO).alloc (tokB 1 pos 0)) hb (by omega) (by omega) (fun i hi => (HB1.cell (World.block_lt_of_cell? _ _ (hc i hi))).trans (hc i hi))
  have hrr : runR xs pos 1 8 = if 100 < runI 8 xs pos then .error 3 else .ok (1, runI 8 xs pos, (xs.drop pos).take (runI 8 xs pos), 0) := rfl
  rw [hrun] at hrr
  obtain ⟨L, eL⟩ : ∃ L, L = runLen (clsB true) (xs.drop pos) := ⟨_, rfl⟩
  rw [← eL] at hle HRUN hrr
  have HRR : Hid _ := hrr
  have HB2 : Below w.heap.size w ((w.alloc tokO).alloc (tokB 1 pos L)) := ((Below.refl _ _).alloc (Nat.le_refl _) _).alloc (by simp) _
  have hLn : pos + L ≤ xs.length := by omega
  have hlen : ((xs.drop pos).take L).length = L := by simp; omega
  have HCP := l1copy_all (some ⟨b, pos, none⟩) L (cap - pos) ((xs.drop pos).take L) ((w.alloc tokO).alloc (tokB 1 pos L)) hlen.symm (by omega) ((bin_part hc hLn).below HB2)
  have HLEN : Hid (((xs.drop pos).take L).length = L) := hlen
  have hx := hc pos hp
  have hr := hb.at pos
  obtain ⟨ys, eys⟩ : ∃ ys, ys = (xs.drop pos).take L := ⟨_, rfl⟩
  rw [← eys] at HCP HLEN HRR
  obtain ⟨n, en⟩ : ∃ n, n = xs.length := ⟨_, rfl⟩
  obtain ⟨x, ex⟩ : ∃ x, x = xs.getD pos 0 := ⟨_, rfl⟩
  rw [← ex] at hx hr hd ha hs h46
  have HD := fun W => digit_any x W hr.1 hr.2
  have HA := fun W => alnum_any x W hr.1 hr.2
  have HS := fun W => symbol_any x W hr.1 hr.2
  have HSM := fun W => small_any x W hr.1 hr.2
  rw [← en] at hn hcap hp HRUN ⊢
  have hbl : b < w.heap.size := World.block_lt_of_cell? _ _ hx
  have hL3 : L ≤ 10000 := by omega
  have hcp1 : ¬ cap = pos := by omega
  have hp0 : (0 : Int) ≤ (pos : Int) := by omega
  have hp1 : (0 : Int) ≤ (pos : Int) + L := by omega
  have hp2 : (pos : Int) + L ≤ (cap : Int) := by omega
  have hp3 : (pos : Int) ≤ (pos : Int) + L := by omega
  have hto : ((pos : Int) + L).toNat = pos + L := by omega
  have hsub : pos + L - pos = L := by omega
  have G1 : ((w.alloc tokO).alloc (tokB 1 pos L)).heap[w.heap.size]? = some tokO := (Below.heap_alloc _ _ _ (by simp)).trans (heap_alloc_new _ _)
  have G2 : ((w.alloc tokO).alloc (tokB 1 pos L)).heap[w.heap.size + 1]? = some (tokB 1 pos L) := by
    have := heap_alloc_new (w.alloc tokO) (tokB 1 pos L)
    rwa [World.size_alloc] at this
  have HG1 : Hid _ := G1
  have HG2 : Hid _ := G2
  have HBB : Hid _ := HB2
  clear hb hc ex en HB1 HB2 G1 G2 eys eL hle hrun hrr hlen hLn
  rw [hd] at HD
  rw [ha] at HA
  rw [hs] at HS
  have b46 : (x == 46) = false := by simpa using h46
  clear hd ha hs h46 HSM
  go_enter Tryd.func29, Tryd.ntmps29
  go_wp2_with (first | (go_at_call 38; refine (HD _).mono ?_; rintro e w' ⟨rfl, rfl⟩) | (go_at_call 35; refine (HA _).mono ?_; rintro e w' ⟨rfl, rfl⟩) | (go_at_call 34; refine (HS _).mono ?_; rintro e w' ⟨rfl, rfl⟩) | (go_at_call 20; refine HRUN.mono ?_; rintro e w' ⟨rfl, rfl⟩))
  refine HCP.mono ?_
  rintro e w5 ⟨p5, n5, c5, rfl, ho5, hb5⟩
  obtain ⟨⟨a0, a1, a2, a3, a4⟩, af⟩ := five_cells ((hb5.block _ (by simp; omega)).trans HG1.out)
  obtain ⟨⟨e0, e1, e2, e3, e4⟩, ef⟩ := five_cells ((hb5.block _ (by simp)).trans HG2.out)
  have HO5 : Hid _ := ho5
  have HB5 : Hid _ := hb5
  have hn5 : n5 = L := ho5.1.trans HLEN.out
  subst hn5
  clear ho5 hb5 HCP
  by_cases h100 : 100 < n5
  · have h100I : (100 : Int) < n5 := by omega
    have hrr := HRR.out
    rw [if_pos h100] at hrr
    have HR3 : Hid _ := hrr
    clear hrr HRR
    go_wp2_with fail
    refine bodyPost_ret (v := .tuple #[tokV 0 0 0 none 0 0 0, .int .i64 3]) (by simp [results, Tryd.results29, go_sem, a0, a1, a2, a3, a4]) rfl ?_
    have hf := tok_fin HBB.out (by simp) HB5.out HO5.out (.slice p5 n5 c5) (.int .i64 0) (.int .i64 0) (.int .i64 0) (.slice none 0 0) (.int .i64 0)
    exact tokSOut_of (r := .error 3) ⟨0, 0, 0, 0, rfl, hf.2⟩ HR3.out
  · have h100I : ¬ (100 : Int) < n5 := by omega
    have hrr := HRR.out
    rw [if_neg h100] at hrr
    have HR3 : Hid _ := hrr
    clear hrr HRR
    go_wp2_with fail
    refine bodyPost_ret (v := .tuple #[tokV 1 pos n5 p5 n5 c5 0, .int .i64 0]) (by simp [results, Tryd.results29, go_sem, a0, a1, a2, a3, a4]) rfl ?_
    have hf := tok_fin HBB.out (by simp) HB5.out HO5.out (.slice p5 n5 c5) (.int .i64 1) (.int .i64 pos) (.int .i64 n5) (.slice p5 n5 c5) (.int .i64 0)
    exact tokSOut_of (r := .ok (1, n5, _, 0)) ⟨p5, n5, c5, rfl, hf.1, hf.2⟩ HR3.out

set_option maxRecDepth 100000 in
set_option maxHeartbeats 8000000 in
theorem tokPoint_any (b cap pos : Nat) (call : Bool) (xs : List Int) (w : World) (hb : Bytes xs) (hn : xs.length ≤ 10000) (hcap : xs.length ≤ cap) (hp : pos < xs.length) (hc : ∀ m, m < xs.length → w.cell? ⟨b, m, none⟩ = some (.int .u8 (xs.getD m 0))) (h46 : xs.getD pos 0 = 46) (h1 : pos + 1 < xs.length) (hbk : blankB (xs.getD (pos + 1) 0) = false) (h37 : xs.getD (pos + 1) 0 ≠ 37) :
    Calls Tryd.prog 29 #[.slice (some ⟨b, 0, none⟩) xs.length cap, .int .i64 pos, .bool call] w (TokSOut w pos (runR xs pos 1 8)) := by
  have hrun := runI_symbol hb pos
  have hle := runLen_le (clsB true) (xs.drop pos)
  rw [List.length_drop] at hle
  have HB1 : Below w.heap.size w ((w.alloc tokO).alloc (tokB 1 pos 0)) := ((Below.refl _ _).alloc (Nat.le_refl _) _).alloc (by simp) _
  have HRUN := l1run_any b cap xs pos true ((w.alloc tokO).alloc (tokB 1 pos 0)) hb (by omega) (by omega) (fun i hi => (HB1.cell (World.block_lt_of_cell? _ _ (hc i hi))).trans (hc i hi))
  have hrr : runR xs pos 1 8 = if 100 < runI 8 xs pos then .error 3 else .ok (1, runI 8 xs pos, (xs.drop pos).take (runI 8 xs pos), 0) := rfl
  rw [hrun] at hrr
  obtain ⟨L, eL⟩ : ∃ L, L = runLen (clsB true) (xs.drop pos) := ⟨_, rfl⟩
  rw [← eL] at hle HRUN hrr
  have HRR : Hid _ := hrr
  have HB2 : Below w.heap.size w ((w.alloc tokO).alloc (tokB 1 pos L)) := ((Below.refl _ _).alloc (Nat.le_refl _) _).alloc (by simp) _
  have hLn : pos + L ≤ xs.length := by omega
  have hlen : ((xs.drop pos).take L).length = L := by simp; omega
  have HCP := l1copy_all (some ⟨b, pos, none⟩) L (cap - pos) ((xs.drop pos).take L) ((w.alloc tokO).alloc (tokB 1 pos L)) hlen.symm (by omega) ((bin_part hc hLn).below HB2)
  have HLEN : Hid (((xs.drop pos).take L).length = L) := hlen
  have hx := hc pos hp
  have hr := hb.at pos
  obtain ⟨ys, eys⟩ : ∃ ys, ys = (xs.drop pos).take L := ⟨_, rfl⟩
  rw [← eys] at HCP HLEN HRR
  have hy := hc (pos + 1) h1
  have hry := hb.at (pos + 1)
  obtain ⟨y, ey⟩ : ∃ y, y = xs.getD (pos + 1) 0 := ⟨_, rfl⟩
  rw [← ey] at hy hry hbk h37
  obtain ⟨n, en⟩ : ∃ n, n = xs.length := ⟨_, rfl⟩
  obtain ⟨x, ex⟩ : ∃ x, x = xs.getD pos 0 := ⟨_, rfl⟩
  rw [← ex] at hx hr h46
  have HD := fun W => digit_any x W hr.1 hr.2
  have HA := fun W => alnum_any x W hr.1 hr.2
  have HS := fun W => symbol_any x W hr.1 hr.2
  have HSM := fun W => small_any x W hr.1 hr.2
  rw [← en] at hn hcap hp HRUN ⊢
  have hbl : b < w.heap.size := World.block_lt_of_cell? _ _ hx
  have hL3 : L ≤ 10000 := by omega
  have hcp1 : ¬ cap = pos := by omega
  have hp0 : (0 : Int) ≤ (pos : Int) := by omega
  have hp1 : (0 : Int) ≤ (pos : Int) + L := by omega
  have hp2 : (pos : Int) + L ≤ (cap : Int) := by omega
  have hp3 : (pos : Int) ≤ (pos : Int) + L := by omega
  have hto : ((pos : Int) + L).toNat = pos + L := by omega
  have hsub : pos + L - pos = L := by omega
  have G1 : ((w.alloc tokO).alloc (tokB 1 pos L)).heap[w.heap.size]? = some tokO := (Below.heap_alloc _ _ _ (by simp)).trans (heap_alloc_new _ _)
  have G2 : ((w.alloc tokO).alloc (tokB 1 pos L)).heap[w.heap.size + 1]? = some (tokB 1 pos L) := by
    have := heap_alloc_new (w.alloc tokO) (tokB 1 pos L)
    rwa [World.size_alloc] at this
  have HG1 : Hid _ := G1
  have HG2 : Hid _ := G2
  have HBB : Hid _ := HB2
  rw [← en] at h1
  clear hb hc ex en HB1 HB2 G1 G2 eys eL hle hrun hrr hlen hLn
  subst h46
  have HBK := fun W => blank_any y W hry.1 hry.2
  rw [hbk] at HBK
  rw [show digitB 46 = false from by decide] at HD
  rw [show alnumB 46 = false from by decide] at HA
  rw [show symbolB 46 = true from by decide] at HS
  have y37 : (y == 37) = false := by simpa using h37
  have h1n : ¬ ((pos : Int) + 1 = n) := by omega
  have h1b : (((pos : Int) + 1) == (n : Int)) = false := by simp; omega
  have h1I : (pos : Int) + 1 < n := by omega
  clear hbk h37 HSM ey
  go_enter Tryd.func29, Tryd.ntmps29
  go_wp2_with (first | (go_at_call 38; refine (HD _).mono ?_; rintro e w' ⟨rfl, rfl⟩) | (go_at_call 35; refine (HA _).mono ?_; rintro e w' ⟨rfl, rfl⟩) | (go_at_call 34; refine (HS _).mono ?_; rintro e w' ⟨rfl, rfl⟩) | (go_at_call 20; refine HRUN.mono ?_; rintro e w' ⟨rfl, rfl⟩) | (go_at_call 37; refine (HBK _).mono ?_; rintro e w' ⟨rfl, rfl⟩))
  refine HCP.mono ?_
  rintro e w5 ⟨p5, n5, c5, rfl, ho5, hb5⟩
  obtain ⟨⟨a0, a1, a2, a3, a4⟩, af⟩ := five_cells ((hb5.block _ (by simp; omega)).trans HG1.out)
  obtain ⟨⟨e0, e1, e2, e3, e4⟩, ef⟩ := five_cells ((hb5.block _ (by simp)).trans HG2.out)
  have HO5 : Hid _ := ho5
  have HB5 : Hid _ := hb5
  have hn5 : n5 = L := ho5.1.trans HLEN.out
  subst hn5
  clear ho5 hb5 HCP
  by_cases h100 : 100 < n5
  · have h100I : (100 : Int) < n5 := by omega
    have hrr := HRR.out
    rw [if_pos h100] at hrr
    have HR3 : Hid _ := hrr
    clear hrr HRR
    go_wp2_with fail
    refine bodyPost_ret (v := .tuple #[tokV 0 0 0 none 0 0 0, .int .i64 3]) (by simp [results, Tryd.results29, go_sem, a0, a1, a2, a3, a4]) rfl ?_
    have hf := tok_fin HBB.out (by simp) HB5.out HO5.out (.slice p5 n5 c5) (.int .i64 0) (.int .i64 0) (.int .i64 0) (.slice none 0 0) (.int .i64 0)
    exact tokSOut_of (r := .error 3) ⟨0, 0, 0, 0, rfl, hf.2⟩ HR3.out
  · have h100I : ¬ (100 : Int) < n5 := by omega
    have hrr := HRR.out
    rw [if_neg h100] at hrr
    have HR3 : Hid _ := hrr
    clear hrr HRR
    go_wp2_with fail
    refine bodyPost_ret (v := .tuple #[tokV 1 pos n5 p5 n5 c5 0, .int .i64 0]) (by simp [results, Tryd.results29, go_sem, a0, a1, a2, a3, a4]) rfl ?_
    have hf := tok_fin HBB.out (by simp) HB5.out HO5.out (.slice p5 n5 c5) (.int .i64 1) (.int .i64 pos) (.int .i64 n5) (.slice p5 n5 c5) (.int .i64 0)
    exact tokSOut_of (r := .ok (1, n5, _, 0)) ⟨p5, n5, c5, rfl, hf.1, hf.2⟩ HR3.out

set_option maxRecDepth 100000 in
set_option maxHeartbeats 8000000 in
theorem tokEnd_any (b cap pos : Nat) (call : Bool) (xs : List Int) (w : World) (hb : Bytes xs) (hn : xs.length ≤ 10000) (hcap : xs.length ≤ cap) (hp : pos < xs.length) (hc : ∀ m, m < xs.length → w.cell? ⟨b, m, none⟩ = some (.int .u8 (xs.getD m 0))) (h46 : xs.getD pos 0 = 46) (hend : endsI (byteI xs (pos + 1)) = true) :
    Calls Tryd.prog 29 #[.slice (some ⟨b, 0, none⟩) xs.length cap, .int .i64 pos, .bool call] w (TokSOut w pos (.ok (7, 1, [], 0))) := by
  have hx := hc pos hp
  obtain ⟨n, en⟩ : ∃ n, n = xs.length := ⟨_, rfl⟩
  rw [h46] at hx
  have HN : Hid (n = xs.length) := en
  have HBY : Hid (Bytes xs) := hb
  have HC : Hid (∀ m, m < n → w.cell? ⟨b, m, none⟩ = some (.int .u8 (xs.getD m 0))) := by rw [en]; exact hc
  rw [← en] at hn hcap hp ⊢
  have hbl : b < w.heap.size := World.block_lt_of_cell? _ _ hx
  have HD := fun W => digit_any 46 W (by decide) (by decide)
  have HA := fun W => alnum_any 46 W (by decide) (by decide)
  rw [show digitB 46 = false from by decide] at HD
  rw [show alnumB 46 = false from by decide] at HA
  have HBB : Hid (Below w.heap.size w ((w.alloc (.cells #[.int .i64 7, .int .i64 pos, .int .i64 1, .slice none 0 0, .int .i64 0] 39)).alloc (tokB 1 pos 0))) := ((Below.refl _ _).alloc (Nat.le_refl _) _).alloc (by simp) _
  clear hb hc en h46
  by_cases h1 : pos + 1 < n
  · have hy := HC.out (pos + 1) h1
    have hry := HBY.out.at (pos + 1)
    have hby : byteI xs (pos + 1) = xs.getD (pos + 1) 0 := byteI_lt (by rw [← HN.out]; exact h1)
    obtain ⟨y, ey⟩ : ∃ y, y = xs.getD (pos + 1) 0 := ⟨_, rfl⟩
    rw [← ey] at hy hry hby
    rw [hby] at hend
    have HBK := fun W => blank_any y W hry.1 hry.2
    have h1b : (((pos : Int) + 1) == (n : Int)) = false := by simp; omega
    have h1n : ¬ ((pos : Int) + 1 = n) := by omega
    have h1I : (pos : Int) + 1 < n := by omega
    clear hby ey HC HBY
    cases hbk : blankB y with
    | true =>
      rw [hbk] at HBK
      clear hend hbk
      go_enter Tryd.func29, Tryd.ntmps29
      go_wp2_with (first | (go_at_call 38; refine (HD _).mono ?_; rintro e w' ⟨rfl, rfl⟩) | (go_at_call 35; refine (HA _).mono ?_; rintro e w' ⟨rfl, rfl⟩) | (go_at_call 37; refine (HBK _).mono ?_; rintro e w' ⟨rfl, rfl⟩))
      refine bodyPost_ret (v := .tuple #[tokV 7 pos 1 none 0 0 0, .int .i64 0]) (by simp [results, Tryd.results29, go_sem]) rfl ?_
      exact ⟨none, 0, 0, rfl, OwnS.nil _ _, HBB.out⟩
    | false =>
      have h37 : y = 37 := by
        have hb' : ¬ (endsI y = true ∧ y ≠ -1 ∧ y ≠ 37) := fun h => by rw [(blank_ends hry.1).2 h] at hbk; cases hbk
        rcases Int.decEq y 37 with h | h
        · exact absurd ⟨hend, by omega, h⟩ hb'
        · exact h
      rw [hbk] at HBK
      subst h37
      clear hend hbk
      go_enter Tryd.func29, Tryd.ntmps29
      go_wp2_with (first | (go_at_call 38; refine (HD _).mono ?_; rintro e w' ⟨rfl, rfl⟩) | (go_at_call 35; refine (HA _).mono ?_; rintro e w' ⟨rfl, rfl⟩) | (go_at_call 37; refine (HBK _).mono ?_; rintro e w' ⟨rfl, rfl⟩))
      refine bodyPost_ret (v := .tuple #[tokV 7 pos 1 none 0 0 0, .int .i64 0]) (by simp [results, Tryd.results29, go_sem]) rfl ?_
      exact ⟨none, 0, 0, rfl, OwnS.nil _ _, HBB.out⟩
  · have h1e : (pos : Int) + 1 = n := by omega
    have h1b : (((pos : Int) + 1) == (n : Int)) = true := by simp; omega
    clear hend HC HBY
    go_enter Tryd.func29, Tryd.ntmps29
    go_wp2_with (first | (go_at_call 38; refine (HD _).mono ?_; rintro e w' ⟨rfl, rfl⟩) | (go_at_call 35; refine (HA _).mono ?_; rintro e w' ⟨rfl, rfl⟩))
    refine bodyPost_ret (v := .tuple #[tokV 7 pos 1 none 0 0 0, .int .i64 0]) (by simp [results, Tryd.results29, go_sem]) rfl ?_
    exact ⟨none, 0, 0, rfl, OwnS.nil _ _, HBB.out⟩

end Go.Proofs.YtfhelmhcmfpedaaDoor

namespace Go.Proofs.YtfhelmhcmfpedaaDoor
open Go Go.RowKit
set_option linter.unusedVariables false

set_option maxRecDepth 100000 in
set_option maxHeartbeats 8000000 in
theorem tokPunct_any (b cap pos : Nat) (call : Bool) (xs : List Int) (w : World) (hb : Bytes xs) (hn : xs.length ≤ 10000) (hcap : xs.length ≤ cap) (hp : pos < xs.length) (hc : ∀ m, m < xs.length → w.cell? ⟨b, m, none⟩ = some (.int .u8 (xs.getD m 0)))
    (hone : xs.getD pos 0 = 41 ∨ xs.getD pos 0 = 91 ∨ xs.getD pos 0 = 93 ∨ xs.getD pos 0 = 123 ∨ xs.getD pos 0 = 125 ∨ xs.getD pos 0 = 44 ∨ xs.getD pos 0 = 124) :
    Calls Tryd.prog 29 #[.slice (some ⟨b, 0, none⟩) xs.length cap, .int .i64 pos, .bool call] w (TokSOut w pos (.ok (5, 1, [xs.getD pos 0], 0))) := by
  obtain ⟨n, en⟩ : ∃ n, n = xs.length := ⟨_, rfl⟩
  have hx := hc pos hp
  have hr := hb.at pos
  have hys : (xs.drop pos).take 1 = [xs.getD pos 0] := by
    rw [List.getD, List.getElem?_eq_getElem hp, List.drop_eq_getElem_cons hp]; rfl
  have HB2 : Below w.heap.size w ((w.alloc tokO).alloc (tokB 5 pos 1)) := ((Below.refl _ _).alloc (Nat.le_refl _) _).alloc (by simp) _
  have HCP := l1copy_all (some ⟨b, pos, none⟩) 1 (cap - pos) ((xs.drop pos).take 1) ((w.alloc tokO).alloc (tokB 5 pos 1)) (by simp; omega) (by simp) ((bin_part hc (by omega)).below HB2)
  rw [hys] at HCP
  obtain ⟨x, ex⟩ : ∃ x, x = xs.getD pos 0 := ⟨_, rfl⟩
  rw [← ex] at hx hr hone HCP ⊢
  rw [← en] at hn hcap hp ⊢
  have hd : digitB x = false := by rcases hone with rfl | rfl | rfl | rfl | rfl | rfl | rfl <;> decide
  have ha : alnumB x = false := by rcases hone with rfl | rfl | rfl | rfl | rfl | rfl | rfl <;> decide
  have hs : symbolB x = false := by rcases hone with rfl | rfl | rfl | rfl | rfl | rfl | rfl <;> decide
  have b46 : (x == 46) = false := by rcases hone with rfl | rfl | rfl | rfl | rfl | rfl | rfl <;> decide
  have HD := fun W => digit_any x W hr.1 hr.2
  have HA := fun W => alnum_any x W hr.1 hr.2
  have HS := fun W => symbol_any x W hr.1 hr.2
  rw [hd] at HD
  rw [ha] at HA
  rw [hs] at HS
  have hbl : b < w.heap.size := World.block_lt_of_cell? _ _ hx
  have hcp1 : ¬ cap = pos := by omega
  have hp0 : (0 : Int) ≤ (pos : Int) := by omega
  have hp1 : (0 : Int) ≤ (pos : Int) + 1 := by omega
  have hp2 : (pos : Int) + 1 ≤ (cap : Int) := by omega
  have hp3 : (pos : Int) ≤ (pos : Int) + 1 := by omega
  have hto : ((pos : Int) + 1).toNat = pos + 1 := by omega
  have hsub : pos + 1 - pos = 1 := by omega
  have G1 : ((w.alloc tokO).alloc (tokB 5 pos 1)).heap[w.heap.size]? = some tokO := (Below.heap_alloc _ _ _ (by simp)).trans (heap_alloc_new _ _)
  have G2 : ((w.alloc tokO).alloc (tokB 5 pos 1)).heap[w.heap.size + 1]? = some (tokB 5 pos 1) := by
    have := heap_alloc_new (w.alloc tokO) (tokB 5 pos 1)
    rwa [World.size_alloc] at this
  have HG1 : Hid _ := G1
  have HG2 : Hid _ := G2
  have HBB : Hid _ := HB2
  clear hb hc ex hd ha hs en hys HB2 G1 G2
  rcases hone with rfl | rfl | rfl | rfl | rfl | rfl | rfl
  all_goals
    go_enter Tryd.func29, Tryd.ntmps29
    go_wp2_with (first | (go_at_call 38; refine (HD _).mono ?_; rintro e w' ⟨rfl, rfl⟩) | (go_at_call 35; refine (HA _).mono ?_; rintro e w' ⟨rfl, rfl⟩) | (go_at_call 34; refine (HS _).mono ?_; rintro e w' ⟨rfl, rfl⟩))
    refine HCP.mono ?_
    rintro e w5 ⟨p5, n5, c5, rfl, ho5, hb5⟩
    obtain ⟨⟨a0, a1, a2, a3, a4⟩, af⟩ := five_cells ((hb5.block _ (by simp; omega)).trans HG1.out)
    obtain ⟨⟨e0, e1, e2, e3, e4⟩, ef⟩ := five_cells ((hb5.block _ (by simp)).trans HG2.out)
    have HO5 : Hid _ := ho5
    have HB5 : Hid _ := hb5
    have hn5 : n5 = 1 := ho5.1
    subst hn5
    clear ho5 hb5 HCP
    go_wp2_with fail
    refine bodyPost_ret (v := .tuple #[tokV 5 pos 1 p5 1 c5 0, .int .i64 0]) (by simp [results, Tryd.results29, go_sem, a0, a1, a2, a3, a4]) rfl ?_
    have hf := tok_fin HBB.out (by simp) HB5.out HO5.out (.slice p5 1 c5) (.int .i64 5) (.int .i64 pos) (.int .i64 1) (.slice p5 1 c5) (.int .i64 0)
    exact ⟨p5, 1, c5, rfl, hf.1, hf.2⟩

set_option maxRecDepth 100000 in
set_option maxHeartbeats 8000000 in
theorem tokParen_any (b cap pos : Nat) (call : Bool) (xs : List Int) (w : World) (hb : Bytes xs) (hn : xs.length ≤ 10000) (hcap : xs.length ≤ cap) (hp : pos < xs.length) (hc : ∀ m, m < xs.length → w.cell? ⟨b, m, none⟩ = some (.int .u8 (xs.getD m 0)))
    (hone : xs.getD pos 0 = 40) (hcl : call = false) :
    Calls Tryd.prog 29 #[.slice (some ⟨b, 0, none⟩) xs.length cap, .int .i64 pos, .bool call] w (TokSOut w pos (.ok (5, 1, [xs.getD pos 0], 0))) := by
  subst hcl
  obtain ⟨n, en⟩ : ∃ n, n = xs.length := ⟨_, rfl⟩
  have hx := hc pos hp
  have hr := hb.at pos
  have hys : (xs.drop pos).take 1 = [xs.getD pos 0] := by
    rw [List.getD, List.getElem?_eq_getElem hp, List.drop_eq_getElem_cons hp]; rfl
  have HB2 : Below w.heap.size w ((w.alloc tokO).alloc (tokB 5 pos 1)) := ((Below.refl _ _).alloc (Nat.le_refl _) _).alloc (by simp) _
  have HCP := l1copy_all (some ⟨b, pos, none⟩) 1 (cap - pos) ((xs.drop pos).take 1) ((w.alloc tokO).alloc (tokB 5 pos 1)) (by simp; omega) (by simp) ((bin_part hc (by omega)).below HB2)
  rw [hys] at HCP
  obtain ⟨x, ex⟩ : ∃ x, x = xs.getD pos 0 := ⟨_, rfl⟩
  rw [← ex] at hx hr hone HCP ⊢
  rw [← en] at hn hcap hp ⊢
  have hd : digitB x = false := by rw [hone]; decide
  have ha : alnumB x = false := by rw [hone]; decide
  have hs : symbolB x = false := by rw [hone]; decide
  have b46 : (x == 46) = false := by rw [hone]; decide
  have HD := fun W => digit_any x W hr.1 hr.2
  have HA := fun W => alnum_any x W hr.1 hr.2
  have HS := fun W => symbol_any x W hr.1 hr.2
  rw [hd] at HD
  rw [ha] at HA
  rw [hs] at HS
  have hbl : b < w.heap.size := World.block_lt_of_cell? _ _ hx
  have hcp1 : ¬ cap = pos := by omega
  have hp0 : (0 : Int) ≤ (pos : Int) := by omega
  have hp1 : (0 : Int) ≤ (pos : Int) + 1 := by omega
  have hp2 : (pos : Int) + 1 ≤ (cap : Int) := by omega
  have hp3 : (pos : Int) ≤ (pos : Int) + 1 := by omega
  have hto : ((pos : Int) + 1).toNat = pos + 1 := by omega
  have hsub : pos + 1 - pos = 1 := by omega
  have G1 : ((w.alloc tokO).alloc (tokB 5 pos 1)).heap[w.heap.size]? = some tokO := (Below.heap_alloc _ _ _ (by simp)).trans (heap_alloc_new _ _)
  have G2 : ((w.alloc tokO).alloc (tokB 5 pos 1)).heap[w.heap.size + 1]? = some (tokB 5 pos 1) := by
    have := heap_alloc_new (w.alloc tokO) (tokB 5 pos 1)
    rwa [World.size_alloc] at this
  have HG1 : Hid _ := G1
  have HG2 : Hid _ := G2
  have HBB : Hid _ := HB2
  clear hb hc ex hd ha hs en hys HB2 G1 G2
  subst hone
  all_goals
    go_enter Tryd.func29, Tryd.ntmps29
    go_wp2_with (first | (go_at_call 38; refine (HD _).mono ?_; rintro e w' ⟨rfl, rfl⟩) | (go_at_call 35; refine (HA _).mono ?_; rintro e w' ⟨rfl, rfl⟩) | (go_at_call 34; refine (HS _).mono ?_; rintro e w' ⟨rfl, rfl⟩))
    refine HCP.mono ?_
    rintro e w5 ⟨p5, n5, c5, rfl, ho5, hb5⟩
    obtain ⟨⟨a0, a1, a2, a3, a4⟩, af⟩ := five_cells ((hb5.block _ (by simp; omega)).trans HG1.out)
    obtain ⟨⟨e0, e1, e2, e3, e4⟩, ef⟩ := five_cells ((hb5.block _ (by simp)).trans HG2.out)
    have HO5 : Hid _ := ho5
    have HB5 : Hid _ := hb5
    have hn5 : n5 = 1 := ho5.1
    subst hn5
    clear ho5 hb5 HCP
    go_wp2_with fail
    refine bodyPost_ret (v := .tuple #[tokV 5 pos 1 p5 1 c5 0, .int .i64 0]) (by simp [results, Tryd.results29, go_sem, a0, a1, a2, a3, a4]) rfl ?_
    have hf := tok_fin HBB.out (by simp) HB5.out HO5.out (.slice p5 1 c5) (.int .i64 5) (.int .i64 pos) (.int .i64 1) (.slice p5 1 c5) (.int .i64 0)
    exact ⟨p5, 1, c5, rfl, hf.1, hf.2⟩

set_option maxRecDepth 100000 in
set_option maxHeartbeats 8000000 in
theorem tokCall_any (b cap pos : Nat) (call : Bool) (xs : List Int) (w : World) (hb : Bytes xs) (hn : xs.length ≤ 10000) (hcap : xs.length ≤ cap) (hp : pos < xs.length) (hc : ∀ m, m < xs.length → w.cell? ⟨b, m, none⟩ = some (.int .u8 (xs.getD m 0)))
    (hone : xs.getD pos 0 = 40) (hcl : call = true) :
    Calls Tryd.prog 29 #[.slice (some ⟨b, 0, none⟩) xs.length cap, .int .i64 pos, .bool call] w (TokSOut w pos (.ok (6, 1, [xs.getD pos 0], 0))) := by
  subst hcl
  obtain ⟨n, en⟩ : ∃ n, n = xs.length := ⟨_, rfl⟩
  have hx := hc pos hp
  have hr := hb.at pos
  have hys : (xs.drop pos).take 1 = [xs.getD pos 0] := by
    rw [List.getD, List.getElem?_eq_getElem hp, List.drop_eq_getElem_cons hp]; rfl
  have HB2 : Below w.heap.size w ((w.alloc tokO).alloc (tokB 6 pos 1)) := ((Below.refl _ _).alloc (Nat.le_refl _) _).alloc (by simp) _
  have HCP := l1copy_all (some ⟨b, pos, none⟩) 1 (cap - pos) ((xs.drop pos).take 1) ((w.alloc tokO).alloc (tokB 6 pos 1)) (by simp; omega) (by simp) ((bin_part hc (by omega)).below HB2)
  rw [hys] at HCP
  obtain ⟨x, ex⟩ : ∃ x, x = xs.getD pos 0 := ⟨_, rfl⟩
  rw [← ex] at hx hr hone HCP ⊢
  rw [← en] at hn hcap hp ⊢
  have hd : digitB x = false := by rw [hone]; decide
  have ha : alnumB x = false := by rw [hone]; decide
  have hs : symbolB x = false := by rw [hone]; decide
  have b46 : (x == 46) = false := by rw [hone]; decide
  have HD := fun W => digit_any x W hr.1 hr.2
  have HA := fun W => alnum_any x W hr.1 hr.2
  have HS := fun W => symbol_any x W hr.1 hr.2
  rw [hd] at HD
  rw [ha] at HA
  rw [hs] at HS
  have hbl : b < w.heap.size := World.block_lt_of_cell? _ _ hx
  have hcp1 : ¬ cap = pos := by omega
  have hp0 : (0 : Int) ≤ (pos : Int) := by omega
  have hp1 : (0 : Int) ≤ (pos : Int) + 1 := by omega
  have hp2 : (pos : Int) + 1 ≤ (cap : Int) := by omega
  have hp3 : (pos : Int) ≤ (pos : Int) + 1 := by omega
  have hto : ((pos : Int) + 1).toNat = pos + 1 := by omega
  have hsub : pos + 1 - pos = 1 := by omega
  have G1 : ((w.alloc tokO).alloc (tokB 6 pos 1)).heap[w.heap.size]? = some tokO := (Below.heap_alloc _ _ _ (by simp)).trans (heap_alloc_new _ _)
  have G2 : ((w.alloc tokO).alloc (tokB 6 pos 1)).heap[w.heap.size + 1]? = some (tokB 6 pos 1) := by
    have := heap_alloc_new (w.alloc tokO) (tokB 6 pos 1)
    rwa [World.size_alloc] at this
  have HG1 : Hid _ := G1
  have HG2 : Hid _ := G2
  have HBB : Hid _ := HB2
  clear hb hc ex hd ha hs en hys HB2 G1 G2
  subst hone
  all_goals
    go_enter Tryd.func29, Tryd.ntmps29
    go_wp2_with (first | (go_at_call 38; refine (HD _).mono ?_; rintro e w' ⟨rfl, rfl⟩) | (go_at_call 35; refine (HA _).mono ?_; rintro e w' ⟨rfl, rfl⟩) | (go_at_call 34; refine (HS _).mono ?_; rintro e w' ⟨rfl, rfl⟩))
    refine HCP.mono ?_
    rintro e w5 ⟨p5, n5, c5, rfl, ho5, hb5⟩
    obtain ⟨⟨a0, a1, a2, a3, a4⟩, af⟩ := five_cells ((hb5.block _ (by simp; omega)).trans HG1.out)
    obtain ⟨⟨e0, e1, e2, e3, e4⟩, ef⟩ := five_cells ((hb5.block _ (by simp)).trans HG2.out)
    have HO5 : Hid _ := ho5
    have HB5 : Hid _ := hb5
    have hn5 : n5 = 1 := ho5.1
    subst hn5
    clear ho5 hb5 HCP
    go_wp2_with fail
    refine bodyPost_ret (v := .tuple #[tokV 6 pos 1 p5 1 c5 0, .int .i64 0]) (by simp [results, Tryd.results29, go_sem, a0, a1, a2, a3, a4]) rfl ?_
    have hf := tok_fin HBB.out (by simp) HB5.out HO5.out (.slice p5 1 c5) (.int .i64 6) (.int .i64 pos) (.int .i64 1) (.slice p5 1 c5) (.int .i64 0)
    exact ⟨p5, 1, c5, rfl, hf.1, hf.2⟩

theorem num_shape {xs : List Int} {pos : Nat} {k : Int} {l : Nat} {ys : List Int} {v : Int} (h : numR xs pos = .ok (k, l, ys, v)) : k = 3 ∧ ys = [] := by
  unfold numR at h
  split at h
  · cases h
  · split at h
    · cases h
    · split at h
      · cases h
      · cases h; exact ⟨rfl, rfl⟩
theorem tok_fin1 {w W2 w5 : World} (hB2 : Below w.heap.size w W2) (hb5 : Below W2.heap.size W2 w5) (u0 u1 u2 u3 u4 : Value) :
    Below w.heap.size w (((((w5.setCell ⟨w.heap.size, 0, none⟩ u0).setCell ⟨w.heap.size, 1, none⟩ u1).setCell ⟨w.heap.size, 2, none⟩ u2).setCell ⟨w.heap.size, 3, none⟩ u3).setCell ⟨w.heap.size, 4, none⟩ u4) := by
  have hb : Below w.heap.size w w5 := Below.on hB2 hb5
  exact ((((hb.setCell (p := ⟨w.heap.size, 0, none⟩) (Nat.le_refl _) u0).setCell (p := ⟨w.heap.size, 1, none⟩) (Nat.le_refl _) u1).setCell (p := ⟨w.heap.size, 2, none⟩) (Nat.le_refl _) u2).setCell (p := ⟨w.heap.size, 3, none⟩) (Nat.le_refl _) u3).setCell (p := ⟨w.heap.size, 4, none⟩) (Nat.le_refl _) u4
theorem tok_fin2 {w W2 w5 : World} {p5 : Option Addr} {n5 c5 : Nat} {ys : List Int} (hB2 : Below w.heap.size w W2) (hs2 : W2.heap.size = w.heap.size + 1 + 1) (hb5 : Below W2.heap.size W2 w5) (ho5 : OwnS w5 W2.heap.size p5 n5 c5 ys) (u v u0 u1 u2 u3 u4 : Value) :
    OwnS (((((((w5.setCell ⟨w.heap.size + 1, 3, none⟩ u).setCell ⟨w.heap.size + 1, 2, none⟩ v).setCell ⟨w.heap.size, 0, none⟩ u0).setCell ⟨w.heap.size, 1, none⟩ u1).setCell ⟨w.heap.size, 2, none⟩ u2).setCell ⟨w.heap.size, 3, none⟩ u3).setCell ⟨w.heap.size, 4, none⟩ u4) w.heap.size p5 n5 c5 ys ∧
    Below w.heap.size w (((((((w5.setCell ⟨w.heap.size + 1, 3, none⟩ u).setCell ⟨w.heap.size + 1, 2, none⟩ v).setCell ⟨w.heap.size, 0, none⟩ u0).setCell ⟨w.heap.size, 1, none⟩ u1).setCell ⟨w.heap.size, 2, none⟩ u2).setCell ⟨w.heap.size, 3, none⟩ u3).setCell ⟨w.heap.size, 4, none⟩ u4) := by
  have h0 : ∀ j, (⟨w.heap.size, j, none⟩ : Addr).block < W2.heap.size := fun j => by show w.heap.size < _; omega
  have h1 : ∀ j, (⟨w.heap.size + 1, j, none⟩ : Addr).block < W2.heap.size := fun j => by show w.heap.size + 1 < _; omega
  refine ⟨(((((((ho5.setLow (h1 3) u).setLow (h1 2) v).setLow (h0 0) u0).setLow (h0 1) u1).setLow (h0 2) u2).setLow (h0 3) u3).setLow (h0 4) u4).mono' (by omega), ?_⟩
  have hb : Below w.heap.size w w5 := Below.on hB2 hb5
  exact ((((((hb.setCell (p := ⟨w.heap.size + 1, 3, none⟩) (Nat.le_succ _) u).setCell (p := ⟨w.heap.size + 1, 2, none⟩) (Nat.le_succ _) v).setCell (p := ⟨w.heap.size, 0, none⟩) (Nat.le_refl _) u0).setCell (p := ⟨w.heap.size, 1, none⟩) (Nat.le_refl _) u1).setCell (p := ⟨w.heap.size, 2, none⟩) (Nat.le_refl _) u2).setCell (p := ⟨w.heap.size, 3, none⟩) (Nat.le_refl _) u3).setCell (p := ⟨w.heap.size, 4, none⟩) (Nat.le_refl _) u4

set_option maxRecDepth 100000 in
set_option maxHeartbeats 8000000 in
theorem tokNum_any (b cap pos : Nat) (call : Bool) (xs : List Int) (w : World) (hb : Bytes xs) (hn : xs.length ≤ 10000) (hcap : xs.length ≤ cap) (hp : pos < xs.length) (hc : ∀ m, m < xs.length → w.cell? ⟨b, m, none⟩ = some (.int .u8 (xs.getD m 0))) (hd : digitB (xs.getD pos 0) = true) :
    Calls Tryd.prog 29 #[.slice (some ⟨b, 0, none⟩) xs.length cap, .int .i64 pos, .bool call] w (TokSOut w pos (numR xs pos)) := by
  have hx := hc pos hp
  have hr := hb.at pos
  have HB1 : Below w.heap.size w ((w.alloc tokO).alloc (tokB 1 pos 0)) := ((Below.refl _ _).alloc (Nat.le_refl _) _).alloc (by simp) _
  have HNU := numberS_any b cap pos xs ((w.alloc tokO).alloc (tokB 1 pos 0)) hb hn hp (fun i hi => (HB1.cell (World.block_lt_of_cell? _ _ (hc i hi))).trans (hc i hi))
  obtain ⟨n, en⟩ : ∃ n, n = xs.length := ⟨_, rfl⟩
  obtain ⟨x, ex⟩ : ∃ x, x = xs.getD pos 0 := ⟨_, rfl⟩
  rw [← ex] at hx hr hd
  rw [← en] at hn hcap hp HNU ⊢
  have hbl : b < w.heap.size := World.block_lt_of_cell? _ _ hx
  have HD := fun W => digit_any x W hr.1 hr.2
  rw [hd] at HD
  have G1 : ((w.alloc tokO).alloc (tokB 1 pos 0)).heap[w.heap.size]? = some tokO := (Below.heap_alloc _ _ _ (by simp)).trans (heap_alloc_new _ _)
  have HG1 : Hid _ := G1
  have HBB : Hid _ := HB1
  obtain ⟨r, er⟩ : ∃ r, r = numS (numR xs pos) := ⟨_, rfl⟩
  rw [← er] at HNU
  have HR : Hid (r = numS (numR xs pos)) := er
  obtain ⟨v, l, cd⟩ := r
  clear hb hc ex en hd er HB1 G1
  go_enter Tryd.func29, Tryd.ntmps29
  go_wp2_with (first | (go_at_call 38; refine (HD _).mono ?_; rintro e w' ⟨rfl, rfl⟩))
  refine HNU.mono ?_
  rintro e w5 ⟨rfl, hb5⟩
  obtain ⟨⟨a0, a1, a2, a3, a4⟩, af⟩ := five_cells ((hb5.block _ (by simp; omega)).trans HG1.out)
  have HB5 : Hid _ := hb5
  clear hb5 HNU
  simp only
  go_wp2_with fail
  refine bodyPost_ret (v := .tuple #[tokV 3 pos l none 0 0 v, .int .i64 cd]) (by simp [results, Tryd.results29, go_sem, a0, a1, a2, a3, a4]) rfl ?_
  have hf := tok_fin1 HBB.out HB5.out (.int .i64 3) (.int .i64 pos) (.int .i64 l) (.slice none 0 0) (.int .i64 v)
  have hR := HR.out
  cases hn' : numR xs pos with
  | error c =>
    rw [hn'] at hR
    simp only [numS, Prod.mk.injEq] at hR
    obtain ⟨rfl, rfl, rfl⟩ := hR
    exact ⟨3, pos, _, _, rfl, hf⟩
  | ok q =>
    obtain ⟨k, l', ys, v'⟩ := q
    rw [hn'] at hR
    simp only [numS, Prod.mk.injEq] at hR
    obtain ⟨rfl, rfl, rfl⟩ := hR
    obtain ⟨rfl, rfl⟩ := num_shape hn'
    exact ⟨none, 0, 0, rfl, OwnS.nil _ _, hf⟩

set_option maxRecDepth 100000 in
set_option maxHeartbeats 8000000 in
theorem tokQuote_any (b cap pos : Nat) (call : Bool) (xs : List Int) (w : World) (hb : Bytes xs) (hn : xs.length ≤ 10000) (hcap : xs.length ≤ cap) (hp : pos < xs.length) (hc : ∀ m, m < xs.length → w.cell? ⟨b, m, none⟩ = some (.int .u8 (xs.getD m 0))) (hq : xs.getD pos 0 = 39) :
    Calls Tryd.prog 29 #[.slice (some ⟨b, 0, none⟩) xs.length cap, .int .i64 pos, .bool call] w (TokSOut w pos (quoR xs 1 pos)) := by
  have hx := hc pos hp
  have HB1 : Below w.heap.size w ((w.alloc tokO).alloc (tokB 1 pos 0)) := ((Below.refl _ _).alloc (Nat.le_refl _) _).alloc (by simp) _
  have HTX := textS_any b cap pos 39 xs ((w.alloc tokO).alloc (tokB 1 pos 0)) hb hn hp hq (by omega) (fun i hi => (HB1.cell (World.block_lt_of_cell? _ _ (hc i hi))).trans (hc i hi))
  have hqr : quoR xs 1 pos = match txtI xs 39 (pos + 1) [] with
    | none => .error 2
    | some (ys, j) => if 100 < ys.length then .error 3 else .ok (1, j - pos, ys, 0) := by rw [quoR, byteI_lt hp, hq]; rfl
  obtain ⟨n, en⟩ : ∃ n, n = xs.length := ⟨_, rfl⟩
  rw [hq] at hx
  rw [← en] at hn hcap hp HTX ⊢
  have hbl : b < w.heap.size := World.block_lt_of_cell? _ _ hx
  have HD := fun W => digit_any 39 W (by decide) (by decide)
  have HA := fun W => alnum_any 39 W (by decide) (by decide)
  have HS := fun W => symbol_any 39 W (by decide) (by decide)
  rw [show digitB 39 = false from by decide] at HD
  rw [show alnumB 39 = false from by decide] at HA
  rw [show symbolB 39 = false from by decide] at HS
  have G1 : ((w.alloc tokO).alloc (tokB 1 pos 0)).heap[w.heap.size]? = some tokO := (Below.heap_alloc _ _ _ (by simp)).trans (heap_alloc_new _ _)
  have G2 : ((w.alloc tokO).alloc (tokB 1 pos 0)).heap[w.heap.size + 1]? = some (tokB 1 pos 0) := by
    have := heap_alloc_new (w.alloc tokO) (tokB 1 pos 0)
    rwa [World.size_alloc] at this
  have HG1 : Hid _ := G1
  have HG2 : Hid _ := G2
  have HBB : Hid _ := HB1
  clear hb hc en hq HB1 G1 G2
  cases htx : txtI xs 39 (pos + 1) [] with
  | none =>
    rw [htx] at HTX hqr
    have HR : Hid (quoR xs 1 pos = .error 2) := hqr
    clear htx hqr
    go_enter Tryd.func29, Tryd.ntmps29
    go_wp2_with (first | (go_at_call 38; refine (HD _).mono ?_; rintro e w' ⟨rfl, rfl⟩) | (go_at_call 35; refine (HA _).mono ?_; rintro e w' ⟨rfl, rfl⟩) | (go_at_call 34; refine (HS _).mono ?_; rintro e w' ⟨rfl, rfl⟩))
    refine HTX.mono ?_
    rintro e w5 ⟨rfl, hb5⟩
    obtain ⟨⟨a0, a1, a2, a3, a4⟩, af⟩ := five_cells ((hb5.block _ (by simp; omega)).trans HG1.out)
    have HB5 : Hid _ := hb5
    clear hb5 HTX
    go_wp2_with fail
    refine bodyPost_ret (v := .tuple #[tokV 0 0 0 none 0 0 0, .int .i64 2]) (by simp [results, Tryd.results29, go_sem, a0, a1, a2, a3, a4]) rfl ?_
    have hf := tok_fin1 HBB.out HB5.out (.int .i64 0) (.int .i64 0) (.int .i64 0) (.slice none 0 0) (.int .i64 0)
    exact tokSOut_of (r := .error 2) ⟨0, 0, 0, 0, rfl, hf⟩ HR.out
  | some r =>
    obtain ⟨ys, j⟩ := r
    rw [htx] at HTX hqr
    have HR : Hid (quoR xs 1 pos = if 100 < ys.length then .error 3 else .ok (1, j - pos, ys, 0)) := hqr
    clear htx hqr
    go_enter Tryd.func29, Tryd.ntmps29
    go_wp2_with (first | (go_at_call 38; refine (HD _).mono ?_; rintro e w' ⟨rfl, rfl⟩) | (go_at_call 35; refine (HA _).mono ?_; rintro e w' ⟨rfl, rfl⟩) | (go_at_call 34; refine (HS _).mono ?_; rintro e w' ⟨rfl, rfl⟩))
    refine HTX.mono ?_
    rintro e w5 ⟨p5, n5, c5, rfl, ho5, hb5, hj1, hj2⟩
    obtain ⟨⟨a0, a1, a2, a3, a4⟩, af⟩ := five_cells ((hb5.block _ (by simp; omega)).trans HG1.out)
    obtain ⟨⟨e0, e1, e2, e3, e4⟩, ef⟩ := five_cells ((hb5.block _ (by simp)).trans HG2.out)
    have HO5 : Hid _ := ho5
    have HB5 : Hid _ := hb5
    have HN5 : Hid (n5 = ys.length) := ho5.1
    obtain ⟨d, ed⟩ : ∃ d, d = j - pos := ⟨_, rfl⟩
    rw [← ed] at HR ⊢
    have hd1 : 1 ≤ d := by omega
    have hd2 : d ≤ 30001 := by omega
    have hd0 : ((d : Int) == 0) = false := by simp; omega
    have hn5b : n5 ≤ 1000000 ∨ True := .inr trivial
    clear ho5 hb5 HTX ed hj1 hj2 hn5b
    by_cases h100 : 100 < n5
    · have h100I : (100 : Int) < n5 := by omega
      have hrr := HR.out
      rw [if_pos (by rw [← HN5.out]; exact h100)] at hrr
      have HR3 : Hid _ := hrr
      clear hrr HR
      go_wp2_with fail
      refine bodyPost_ret (v := .tuple #[tokV 0 0 0 none 0 0 0, .int .i64 3]) (by simp [results, Tryd.results29, go_sem, a0, a1, a2, a3, a4]) rfl ?_
      have hf := tok_fin2 HBB.out (by simp) HB5.out HO5.out (.slice p5 n5 c5) (.int .i64 d) (.int .i64 0) (.int .i64 0) (.int .i64 0) (.slice none 0 0) (.int .i64 0)
      exact tokSOut_of (r := .error 3) ⟨0, 0, 0, 0, rfl, hf.2⟩ HR3.out
    · have h100I : ¬ (100 : Int) < n5 := by omega
      have hrr := HR.out
      rw [if_neg (by rw [← HN5.out]; exact h100)] at hrr
      have HR3 : Hid _ := hrr
      clear hrr HR
      go_wp2_with fail
      refine bodyPost_ret (v := .tuple #[tokV 1 pos d p5 n5 c5 0, .int .i64 0]) (by simp [results, Tryd.results29, go_sem, a0, a1, a2, a3, a4]) rfl ?_
      have hf := tok_fin2 HBB.out (by simp) HB5.out HO5.out (.slice p5 n5 c5) (.int .i64 d) (.int .i64 1) (.int .i64 pos) (.int .i64 d) (.slice p5 n5 c5) (.int .i64 0)
      exact tokSOut_of (r := .ok (1, d, ys, 0)) ⟨p5, n5, c5, rfl, hf.1, hf.2⟩ HR3.out

set_option maxRecDepth 100000 in
set_option maxHeartbeats 8000000 in
theorem tokString_any (b cap pos : Nat) (call : Bool) (xs : List Int) (w : World) (hb : Bytes xs) (hn : xs.length ≤ 10000) (hcap : xs.length ≤ cap) (hp : pos < xs.length) (hc : ∀ m, m < xs.length → w.cell? ⟨b, m, none⟩ = some (.int .u8 (xs.getD m 0))) (hq : xs.getD pos 0 = 34) :
    Calls Tryd.prog 29 #[.slice (some ⟨b, 0, none⟩) xs.length cap, .int .i64 pos, .bool call] w (TokSOut w pos (quoR xs 4 pos)) := by
  have hx := hc pos hp
  have HB1 : Below w.heap.size w ((w.alloc tokO).alloc (tokB 4 pos 0)) := ((Below.refl _ _).alloc (Nat.le_refl _) _).alloc (by simp) _
  have HTX := textS_any b cap pos 34 xs ((w.alloc tokO).alloc (tokB 4 pos 0)) hb hn hp hq (by omega) (fun i hi => (HB1.cell (World.block_lt_of_cell? _ _ (hc i hi))).trans (hc i hi))
  have hqr : quoR xs 4 pos = match txtI xs 34 (pos + 1) [] with
    | none => .error 2
    | some (ys, j) => if 100 < ys.length then .error 3 else .ok (4, j - pos, ys, 0) := by rw [quoR, byteI_lt hp, hq]; rfl
  obtain ⟨n, en⟩ : ∃ n, n = xs.length := ⟨_, rfl⟩
  rw [hq] at hx
  rw [← en] at hn hcap hp HTX ⊢
  have hbl : b < w.heap.size := World.block_lt_of_cell? _ _ hx
  have HD := fun W => digit_any 34 W (by decide) (by decide)
  have HA := fun W => alnum_any 34 W (by decide) (by decide)
  have HS := fun W => symbol_any 34 W (by decide) (by decide)
  rw [show digitB 34 = false from by decide] at HD
  rw [show alnumB 34 = false from by decide] at HA
  rw [show symbolB 34 = false from by decide] at HS
  have G1 : ((w.alloc tokO).alloc (tokB 4 pos 0)).heap[w.heap.size]? = some tokO := (Below.heap_alloc _ _ _ (by simp)).trans (heap_alloc_new _ _)
  have G2 : ((w.alloc tokO).alloc (tokB 4 pos 0)).heap[w.heap.size + 1]? = some (tokB 4 pos 0) := by
    have := heap_alloc_new (w.alloc tokO) (tokB 4 pos 0)
    rwa [World.size_alloc] at this
  have HG1 : Hid _ := G1
  have HG2 : Hid _ := G2
  have HBB : Hid _ := HB1
  clear hb hc en hq HB1 G1 G2
  cases htx : txtI xs 34 (pos + 1) [] with
  | none =>
    rw [htx] at HTX hqr
    have HR : Hid (quoR xs 4 pos = .error 2) := hqr
    clear htx hqr
    go_enter Tryd.func29, Tryd.ntmps29
    go_wp2_with (first | (go_at_call 38; refine (HD _).mono ?_; rintro e w' ⟨rfl, rfl⟩) | (go_at_call 35; refine (HA _).mono ?_; rintro e w' ⟨rfl, rfl⟩) | (go_at_call 34; refine (HS _).mono ?_; rintro e w' ⟨rfl, rfl⟩))
    refine HTX.mono ?_
    rintro e w5 ⟨rfl, hb5⟩
    obtain ⟨⟨a0, a1, a2, a3, a4⟩, af⟩ := five_cells ((hb5.block _ (by simp; omega)).trans HG1.out)
    have HB5 : Hid _ := hb5
    clear hb5 HTX
    go_wp2_with fail
    refine bodyPost_ret (v := .tuple #[tokV 0 0 0 none 0 0 0, .int .i64 2]) (by simp [results, Tryd.results29, go_sem, a0, a1, a2, a3, a4]) rfl ?_
    have hf := tok_fin1 HBB.out HB5.out (.int .i64 0) (.int .i64 0) (.int .i64 0) (.slice none 0 0) (.int .i64 0)
    exact tokSOut_of (r := .error 2) ⟨0, 0, 0, 0, rfl, hf⟩ HR.out
  | some r =>
    obtain ⟨ys, j⟩ := r
    rw [htx] at HTX hqr
    have HR : Hid (quoR xs 4 pos = if 100 < ys.length then .error 3 else .ok (4, j - pos, ys, 0)) := hqr
    clear htx hqr
    go_enter Tryd.func29, Tryd.ntmps29
    go_wp2_with (first | (go_at_call 38; refine (HD _).mono ?_; rintro e w' ⟨rfl, rfl⟩) | (go_at_call 35; refine (HA _).mono ?_; rintro e w' ⟨rfl, rfl⟩) | (go_at_call 34; refine (HS _).mono ?_; rintro e w' ⟨rfl, rfl⟩))
    refine HTX.mono ?_
    rintro e w5 ⟨p5, n5, c5, rfl, ho5, hb5, hj1, hj2⟩
    obtain ⟨⟨a0, a1, a2, a3, a4⟩, af⟩ := five_cells ((hb5.block _ (by simp; omega)).trans HG1.out)
    obtain ⟨⟨e0, e1, e2, e3, e4⟩, ef⟩ := five_cells ((hb5.block _ (by simp)).trans HG2.out)
    have HO5 : Hid _ := ho5
    have HB5 : Hid _ := hb5
    have HN5 : Hid (n5 = ys.length) := ho5.1
    obtain ⟨d, ed⟩ : ∃ d, d = j - pos := ⟨_, rfl⟩
    rw [← ed] at HR ⊢
    have hd1 : 1 ≤ d := by omega
    have hd2 : d ≤ 30001 := by omega
    have hd0 : ((d : Int) == 0) = false := by simp; omega
    have hn5b : n5 ≤ 1000000 ∨ True := .inr trivial
    clear ho5 hb5 HTX ed hj1 hj2 hn5b
    by_cases h100 : 100 < n5
    · have h100I : (100 : Int) < n5 := by omega
      have hrr := HR.out
      rw [if_pos (by rw [← HN5.out]; exact h100)] at hrr
      have HR3 : Hid _ := hrr
      clear hrr HR
      go_wp2_with fail
      refine bodyPost_ret (v := .tuple #[tokV 0 0 0 none 0 0 0, .int .i64 3]) (by simp [results, Tryd.results29, go_sem, a0, a1, a2, a3, a4]) rfl ?_
      have hf := tok_fin2 HBB.out (by simp) HB5.out HO5.out (.slice p5 n5 c5) (.int .i64 d) (.int .i64 0) (.int .i64 0) (.int .i64 0) (.slice none 0 0) (.int .i64 0)
      exact tokSOut_of (r := .error 3) ⟨0, 0, 0, 0, rfl, hf.2⟩ HR3.out
    · have h100I : ¬ (100 : Int) < n5 := by omega
      have hrr := HR.out
      rw [if_neg (by rw [← HN5.out]; exact h100)] at hrr
      have HR3 : Hid _ := hrr
      clear hrr HR
      go_wp2_with fail
      refine bodyPost_ret (v := .tuple #[tokV 4 pos d p5 n5 c5 0, .int .i64 0]) (by simp [results, Tryd.results29, go_sem, a0, a1, a2, a3, a4]) rfl ?_
      have hf := tok_fin2 HBB.out (by simp) HB5.out HO5.out (.slice p5 n5 c5) (.int .i64 d) (.int .i64 4) (.int .i64 pos) (.int .i64 d) (.slice p5 n5 c5) (.int .i64 0)
      exact tokSOut_of (r := .ok (4, d, ys, 0)) ⟨p5, n5, c5, rfl, hf.1, hf.2⟩ HR3.out

end Go.Proofs.YtfhelmhcmfpedaaDoor

