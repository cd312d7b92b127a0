/- The scanner: escapes. Own work of the verifier. -/
import Derived.Test.YtfhelmhcmfpedaaDoorScan4
namespace Go.Proofs.YtfhelmhcmfpedaaDoor
open Go Go.RowKit
set_option linter.unusedVariables false
set_option linter.unusedSimpArgs false

/-- The scanner as it stands: its text, its place, the table. -/
structure Env (w : World) (S b n c pos : Nat) (xs : List Int) : Prop where
  bytes : Bytes xs
  len : n = xs.length
  cap : n ≤ c
  small : n ≤ 10000
  src : w.cell? ⟨S, 0, none⟩ = some (.slice (some ⟨b, 0, none⟩) n c)
  at1 : w.cell? ⟨S, 1, none⟩ = some (.int .i64 pos)
  fz : ∀ j, w.frozen? ⟨S, j, none⟩ = false
  inH : S < w.heap.size
  row : ∀ i, i < xs.length → w.cell? ⟨b, i, none⟩ = some (.int .u8 (xs.getD i 0))
  tab : Tab w
theorem Env.below {w w' : World} {S b n c pos : Nat} {xs : List Int} (h : Env w S b n c pos xs) (hb : Below w.heap.size w w') : Env w' S b n c pos xs :=
  ⟨h.bytes, h.len, h.cap, h.small, (hb.cell (p := ⟨S, 0, none⟩) h.inH).trans h.src, (hb.cell (p := ⟨S, 1, none⟩) h.inH).trans h.at1, fun j => (hb.frozen (p := ⟨S, j, none⟩) h.inH).trans (h.fz j), Nat.lt_of_lt_of_le h.inH hb.size,
   fun i hi => cell_later hb (h.row i hi), h.tab.below hb⟩
theorem Env.alloc {w : World} {S b n c pos : Nat} {xs : List Int} (h : Env w S b n c pos xs) (o : Obj) : Env (w.alloc o) S b n c pos xs := h.below ((Below.refl _ _).alloc (Nat.le_refl _) o)
theorem Env.drew {w : World} {S b n c pos : Nat} {xs : List Int} (h : Env w S b n c pos xs) : Env w.drew S b n c pos xs := h.below (Below.refl _ _).drew
theorem Env.moved {w w' : World} {S b n c pos q : Nat} {xs : List Int} (h : Env w S b n c pos xs) (M : Moved w w' S q) : Env w' S b n c q xs := by
  have htS : S ≠ 0 := fun e => by have := h.tab 0 (by decide); have h2 := h.src; rw [e] at h2; rw [h2] at this; cases this
  refine ⟨h.bytes, h.len, h.cap, h.small, (M.other 0 (by decide)).trans h.src, M.at1, fun j => (M.frozen j).trans (h.fz j), Nat.lt_of_lt_of_le h.inH M.grown.size, fun i hi => ?_, fun i hi => ?_⟩
  · have hbS : b ≠ S := fun e => by have := h.row 0 (by omega); rw [e, h.src] at this; cases this
    rw [World.cell?_of_block (w := w) (M.grown.block b (World.block_lt_of_cell? _ _ (h.row i hi)) (by simpa using hbS))]
    exact h.row i hi
  · rw [World.cell?_of_block (w := w) (M.grown.block 0 (World.block_lt_of_cell? _ _ (h.tab i hi)) (by simpa using Ne.symm htS))]
    exact h.tab i hi

/-- Handed back, or a fault told at the place where the scanner stands. -/
def OrFault (w : World) (pos : Nat) (r : Option (Int × Nat)) (e : Ending) (w' : World) : Prop :=
  match r with
  | some (v, q) => e = .returned (.tuple #[.int .i64 v, .int .i64 q]) ∧ w' = w
  | none => Faults 2 pos e ∧ Below w.heap.size w w'

def hexI (xs : List Int) (at_ : Nat) : Option (Int × Nat) :=
  let r := digsB xs 16 xs.length at_ 0
  if r.2 = at_ ∨ at_ + 2 < r.2 ∨ byteI xs r.2 ≠ 92 then none else some (r.1, r.2 + 1)

theorem digs_le (xs : List Int) (base : Int) : ∀ (f i : Nat) (v : Int), (digsB xs base f i v).2 ≤ i + f
  | 0, i, v => Nat.le_refl _
  | f + 1, i, v => by
    unfold digsB
    split
    · have := digs_le xs base f (i + 1) (min (v * base + digI (byteI xs i)) 1000000000000001); omega
    · simp
theorem digs_rng (xs : List Int) (base : Int) (hb0 : 0 ≤ base) : ∀ (f i : Nat) (v : Int), 0 ≤ v → v ≤ 1000000000000001 → 0 ≤ (digsB xs base f i v).1 ∧ (digsB xs base f i v).1 ≤ 1000000000000001
  | 0, i, v, h0, h1 => ⟨h0, h1⟩
  | f + 1, i, v, h0, h1 => by
    unfold digsB
    split
    · refine digs_rng xs base hb0 f (i + 1) _ ?_ ?_
      · have := digI_rng (byteI xs i); have := Int.mul_nonneg h0 hb0; omega
      · omega
    · exact ⟨h0, h1⟩

set_option maxRecDepth 100000 in
theorem hexEscape_any (S b n c pos : Nat) (xs : List Int) (at_ : Nat) (w : World) (E : Env w S b n c pos xs) (ha : at_ ≤ 10010) :
    Calls Tryd.prog 79 #[.pointer (some ⟨S, 0, none⟩), .int .i64 at_] w fun e w' => OrFault w pos (hexI xs at_) e w' := by
  have HE : Hid (Env w S b n c pos xs) := E
  have hle := digs_le xs 16 xs.length at_ 0
  have hrg := digs_rng xs 16 (by decide) xs.length at_ 0 (by decide) (by decide)
  have hsm := E.small
  have hln := E.len
  obtain ⟨v, q, er⟩ : ∃ v q, digsB xs 16 xs.length at_ 0 = (v, q) := ⟨_, _, rfl⟩
  have HR : Hid (digsB xs 16 xs.length at_ 0 = (v, q)) := er
  rw [er] at hle hrg
  have hq : q ≤ 20010 := by simp at hle; omega
  have hv0 : 0 ≤ v := hrg.1
  have hv1 : v ≤ 1000000000000001 := hrg.2
  have HI : Hid (hexI xs at_ = if q = at_ ∨ at_ + 2 < q ∨ byteI xs q ≠ 92 then none else some (v, q + 1)) := by unfold hexI; rw [er]; rfl
  have hr := byteI_rng E.bytes q
  obtain ⟨x, ex⟩ : ∃ x, x = byteI xs q := ⟨_, rfl⟩
  rw [← ex] at hr
  have HX : Hid (byteI xs q = x) := ex.symm
  clear E er hle hrg hsm hln ex
  by_cases t1 : q = at_
  · have HF : Hid (hexI xs at_ = none) := by show _ = _; rw [HI.out, if_pos (.inl t1)]
    have t1' : ((q : Int) == (at_ : Int)) = true := by simp; omega
    clear t1
    go_enter Tryd.func79, Tryd.ntmps79
    go_wp2_with (first | (go_at_call 75; refine (digits_any S b n c xs at_ 16 _ HE.out.bytes HE.out.len (by have := HE.out.small; omega) (by omega) (by decide) (by decide) HE.out.src HE.out.row).mono ?_; rintro e w' ⟨rfl, rfl⟩; rw [HR.out]) | (go_at_call 62; refine (fault_any S pos 2 _ HE.out.at1 HE.out.inH).mono ?_; rintro e w1 ⟨rfl, hb1⟩))
    refine ⟨rfl, ?_⟩
    unfold OrFault
    rw [HF.out]
    exact ⟨rfl, hb1⟩
  by_cases t2 : at_ + 2 < q
  · have HF : Hid (hexI xs at_ = none) := by show _ = _; rw [HI.out, if_pos (.inr (.inl t2))]
    have t1' : ((q : Int) == (at_ : Int)) = false := by simp; omega
    have t2' : decide ((at_ : Int) + 2 < (q : Int)) = true := by simp; omega
    clear t1 t2
    go_enter Tryd.func79, Tryd.ntmps79
    go_wp2_with (first | (go_at_call 75; refine (digits_any S b n c xs at_ 16 _ HE.out.bytes HE.out.len (by have := HE.out.small; omega) (by omega) (by decide) (by decide) HE.out.src HE.out.row).mono ?_; rintro e w' ⟨rfl, rfl⟩; rw [HR.out]) | (go_at_call 62; refine (fault_any S pos 2 _ HE.out.at1 HE.out.inH).mono ?_; rintro e w1 ⟨rfl, hb1⟩))
    refine ⟨rfl, ?_⟩
    unfold OrFault
    rw [HF.out]
    exact ⟨rfl, hb1⟩
  have t1' : ((q : Int) == (at_ : Int)) = false := by simp; omega
  have t2' : decide ((at_ : Int) + 2 < (q : Int)) = false := by simp; omega
  by_cases t3 : x = 92
  · have HF : Hid (hexI xs at_ = some (v, q + 1)) := by show _ = _; rw [HI.out, if_neg (by rw [HX.out]; omega)]
    have t3' : (x != 92) = false := by simp [t3]
    subst t3
    clear t1 t2
    go_enter Tryd.func79, Tryd.ntmps79
    go_wp2_with (first | (go_at_call 75; refine (digits_any S b n c xs at_ 16 _ HE.out.bytes HE.out.len (by have := HE.out.small; omega) (by omega) (by decide) (by decide) HE.out.src HE.out.row).mono ?_; rintro e w' ⟨rfl, rfl⟩; rw [HR.out]) | (go_at_call 52; refine (byteAt_any S b n c xs q _ HE.out.bytes HE.out.len (by have := HE.out.small; omega) (by omega) HE.out.src HE.out.row).mono ?_; rintro e w' ⟨rfl, rfl⟩; rw [HX.out]))
    go_ret2
    unfold OrFault
    rw [HF.out]
    exact ⟨by simp, rfl⟩
  · have HF : Hid (hexI xs at_ = none) := by show _ = _; rw [HI.out, if_pos (.inr (.inr (by rw [HX.out]; exact t3)))]
    have t3' : (x != 92) = true := by simp [t3]
    clear t1 t2 t3
    go_enter Tryd.func79, Tryd.ntmps79
    go_wp2_with (first | (go_at_call 75; refine (digits_any S b n c xs at_ 16 _ HE.out.bytes HE.out.len (by have := HE.out.small; omega) (by omega) (by decide) (by decide) HE.out.src HE.out.row).mono ?_; rintro e w' ⟨rfl, rfl⟩; rw [HR.out]) | (go_at_call 52; refine (byteAt_any S b n c xs q _ HE.out.bytes HE.out.len (by have := HE.out.small; omega) (by omega) HE.out.src HE.out.row).mono ?_; rintro e w' ⟨rfl, rfl⟩; rw [HX.out]) | (go_at_call 62; refine (fault_any S pos 2 _ HE.out.at1 HE.out.inH).mono ?_; rintro e w1 ⟨rfl, hb1⟩))
    refine ⟨rfl, ?_⟩
    unfold OrFault
    rw [HF.out]
    exact ⟨rfl, hb1⟩

end Go.Proofs.YtfhelmhcmfpedaaDoor
