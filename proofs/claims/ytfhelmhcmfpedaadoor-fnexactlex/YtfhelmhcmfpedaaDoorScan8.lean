/- The scanner: numbers. Own work of the verifier. -/
import Derived.Test.YtfhelmhcmfpedaaDoorScan7
namespace Go.Proofs.YtfhelmhcmfpedaaDoor
open Go Go.RowKit
set_option linter.unusedVariables false
set_option linter.unusedSimpArgs false

/-- What a place holds: a token (kind, length, text, value), or a code. -/
abbrev TokR := Except Int (Int × Nat × List Int × Int)
/-- A token handed back and the scanner moved behind it; or its fault. -/
def TokOut (w : World) (S pos : Nat) (r : TokR) (e : Ending) (w' : World) : Prop :=
  match r with
  | .ok (kind, len, ys, v) => ∃ p n c, e = .returned (tokV kind pos len p n c v) ∧ OwnS w' w.heap.size p n c ys ∧ Moved w w' S (pos + len)
  | .error code => Faults code pos e ∧ w.grownBy w' (some S)
theorem tokOut_of {w w' : World} {S pos : Nat} {e : Ending} {r r' : TokR} (h : TokOut w S pos r e w') (er : r' = r) : TokOut w S pos r' e w' := er ▸ h

theorem digs_ge (xs : List Int) (base : Int) : ∀ (f i : Nat) (v : Int), i ≤ (digsB xs base f i v).2
  | 0, i, v => Nat.le_refl _
  | f + 1, i, v => by
    unfold digsB
    split
    · have := digs_ge xs base f (i + 1) (min (v * base + digI (byteI xs i)) 1000000000000001); omega
    · simp
theorem hexI_rng {xs : List Int} {at_ q : Nat} {v : Int} (h : hexI xs at_ = some (v, q)) : at_ ≤ q ∧ q ≤ at_ + xs.length + 1 ∧ 0 ≤ v ∧ v ≤ 1000000000000001 := by
  have h1 := digs_ge xs 16 xs.length at_ 0
  have h2 := digs_le xs 16 xs.length at_ 0
  have h3 := digs_rng xs 16 (by decide) xs.length at_ 0 (by decide) (by decide)
  unfold hexI at h
  simp only at h
  split at h
  · cases h
  · simp only [Option.some.injEq, Prod.mk.injEq] at h
    omega
theorem escI_rng {xs : List Int} {at_ q : Nat} {v : Int} (h : escI xs at_ = some (v, q)) : at_ + 2 ≤ q ∧ q ≤ at_ + xs.length + 3 ∧ 0 ≤ v ∧ v ≤ 1000000000000001 := by
  unfold escI escF at h
  repeat' (split at h)
  all_goals first | (simp only [Option.some.injEq, Prod.mk.injEq] at h; omega) | (have := hexI_rng h; omega) | cases h
theorem chrI_rng {xs : List Int} {at_ q : Nat} {v : Int} (hb : Bytes xs) (h : chrI xs at_ = some (v, q)) : at_ ≤ q ∧ q ≤ at_ + xs.length + 3 ∧ 0 ≤ v ∧ v ≤ 1000000000000001 := by
  have hr := byteI_rng hb at_
  unfold chrI chrF at h
  repeat' (split at h)
  all_goals first | (simp only [Option.some.injEq, Prod.mk.injEq] at h; omega) | (have := escI_rng h; omega) | cases h
theorem numI_rng {xs : List Int} {pos q : Nat} {v : Int} (hb : Bytes xs) (h : numI xs pos = some (v, q)) : pos ≤ q ∧ q ≤ pos + xs.length + 5 ∧ 0 ≤ v ∧ v ≤ 1000000000000001 := by
  unfold numI numF at h
  have key : ∀ bs : Int, 0 ≤ bs → ∀ at_ : Nat, pos ≤ at_ → at_ ≤ pos + 2 → some (digsB xs bs xs.length at_ 0) = some (v, q) → pos ≤ q ∧ q ≤ pos + xs.length + 5 ∧ 0 ≤ v ∧ v ≤ 1000000000000001 := fun bs h0 at_ ha hb' e => by
    have h1 := digs_ge xs bs xs.length at_ 0
    have h2 := digs_le xs bs xs.length at_ 0
    have h3 := digs_rng xs bs h0 xs.length at_ 0 (by decide) (by decide)
    simp only [Option.some.injEq] at e
    rw [e] at h1 h2 h3
    simp only at h1 h2 h3
    omega
  repeat' (split at h)
  all_goals first | exact key 10 (by decide) pos (Nat.le_refl _) (by omega) h | exact key _ (baseI_rng _).1 (pos + 2) (by omega) (Nat.le_refl _) h | (have := chrI_rng hb h; omega)

def numR (xs : List Int) (pos : Nat) : TokR :=
  match numI xs pos with
  | none => .error 2
  | some (v, q) => if isOfB (byteI xs q) 7 = true then .error 2 else if 1000000000000000 < v then .error 3 else .ok (3, q - pos, [], v)

theorem five (w : World) (g : Nat) (hb : w.heap[g]? = some tokO) : w.cell? ⟨g, 0, none⟩ = some (.int .i64 0) ∧ w.cell? ⟨g, 1, none⟩ = some (.int .i64 0) ∧ w.cell? ⟨g, 2, none⟩ = some (.int .i64 0) ∧ w.cell? ⟨g, 3, none⟩ = some (.slice none 0 0) ∧ w.cell? ⟨g, 4, none⟩ = some (.int .i64 0) :=
  ⟨cell_of_row w g 0 _ _ (0, 0) hb, cell_of_row w g 1 _ _ (0, 0) hb, cell_of_row w g 2 _ _ (0, 0) hb, cell_of_row w g 3 _ _ (0, 0) hb, cell_of_row w g 4 _ _ (0, 0) hb⟩
theorem fiveF (w : World) (g : Nat) (hb : w.heap[g]? = some tokO) : w.frozen? ⟨g, 0, none⟩ = false ∧ w.frozen? ⟨g, 1, none⟩ = false ∧ w.frozen? ⟨g, 2, none⟩ = false ∧ w.frozen? ⟨g, 3, none⟩ = false ∧ w.frozen? ⟨g, 4, none⟩ = false :=
  ⟨frozen_of_row w g 0 _ _ hb, frozen_of_row w g 1 _ _ hb, frozen_of_row w g 2 _ _ hb, frozen_of_row w g 3 _ _ hb, frozen_of_row w g 4 _ _ hb⟩

set_option maxRecDepth 100000 in
theorem number_any (S b n c pos : Nat) (xs : List Int) (w : World) (E : Env w S b n c pos xs) (hp : pos ≤ 10000) :
    Calls Tryd.prog 56 #[.pointer (some ⟨S, 0, none⟩)] w fun e w' => TokOut w S pos (numR xs pos) e w' := by
  have HE : Hid (Env (w.alloc tokO) S b n c pos xs) := E.alloc _
  have hB0 : Below w.heap.size w (w.alloc tokO) := (Below.refl _ _).alloc (Nat.le_refl _) _
  have HB0 : Hid (Below w.heap.size w (w.alloc tokO)) := hB0
  have HS : Hid (S < w.heap.size) := E.inH
  have hsm := E.small
  have hln := E.len
  have HH := numeral_any S b n c pos xs (w.alloc tokO) (E.alloc _) hp
  have hbytes := E.bytes
  clear E hB0
  cases hh : numI xs pos with
  | none =>
    rw [hh] at HH
    have HG : Hid (numR xs pos = .error 2) := by show _ = _; unfold numR; rw [hh]
    clear hh
    go_enter Tryd.func56, Tryd.ntmps56
    go_wp2_with (go_at_call 68; refine HH.mono ?_; rintro e w1 ⟨rfl, hb1⟩)
    refine ⟨rfl, tokOut_of ?_ HG.out⟩
    exact ⟨rfl, grown_of_below (Below.on HB0.out hb1) _⟩
  | some r =>
    obtain ⟨v, q⟩ := r
    rw [hh] at HH
    obtain ⟨r1, r2, r3, r4⟩ := numI_rng hbytes hh
    have hr := byteI_rng hbytes q
    obtain ⟨x, ex⟩ : ∃ x, x = byteI xs q := ⟨_, rfl⟩
    rw [← ex] at hr
    have HX : Hid (byteI xs q = x) := ex.symm
    have HU : Hid (numR xs pos = if isOfB x 7 = true then .error 2 else if 1000000000000000 < v then .error 3 else .ok (3, q - pos, [], v)) := by show _ = _; unfold numR; rw [hh, ex]
    clear hh ex
    cases t1 : isOfB x 7
    · by_cases t2 : 1000000000000000 < v
      · have HG : Hid (numR xs pos = .error 3) := by show _ = _; rw [HU.out, if_neg (by rw [t1]; decide), if_pos t2]
        clear HU
        go_enter Tryd.func56, Tryd.ntmps56
        go_wp2_with (first | (go_at_call 68; refine HH.mono ?_; rintro e w1 ⟨rfl, rfl⟩) | (go_at_call 52; refine (byteAt_any S b n c xs q _ HE.out.bytes HE.out.len (by omega) (by omega) HE.out.src HE.out.row).mono ?_; rintro e w' ⟨rfl, rfl⟩; rw [HX.out]) | (go_at_call 21; refine (isOf_any _ _ _ (by omega) (by omega) HE.out.tab).mono ?_; rintro e w' ⟨rfl, rfl⟩) | (go_at_call 62; refine (fault_any S pos 3 _ HE.out.at1 HE.out.inH).mono ?_; rintro e w1 ⟨rfl, hb1⟩))
        refine ⟨rfl, tokOut_of ?_ HG.out⟩
        exact ⟨rfl, grown_of_below (Below.on HB0.out hb1) _⟩
      · have HG : Hid (numR xs pos = .ok (3, q - pos, [], v)) := by show _ = _; rw [HU.out, if_neg (by rw [t1]; decide), if_neg t2]
        clear HU
        go_enter Tryd.func56, Tryd.ntmps56
        go_wp2_with (first | (go_at_call 68; refine HH.mono ?_; rintro e w1 ⟨rfl, rfl⟩) | (go_at_call 52; refine (byteAt_any S b n c xs q _ HE.out.bytes HE.out.len (by omega) (by omega) HE.out.src HE.out.row).mono ?_; rintro e w' ⟨rfl, rfl⟩; rw [HX.out]) | (go_at_call 21; refine (isOf_any _ _ _ (by omega) (by omega) HE.out.tab).mono ?_; rintro e w' ⟨rfl, rfl⟩))
        refine (take_fits S pos 3 q none 0 0 _ HE.out.at1 (HE.out.fz 1) HE.out.inH (by decide) r1 (by omega)).mono ?_
        rintro e w1 ⟨rfl, M⟩
        have HM : Hid (Moved (w.alloc tokO) w1 S q) := M
        have hlt0 : w.heap.size < w1.heap.size := by have := M.grown.size; simp only [World.size_alloc] at this; omega
        have hblk : w1.heap[w.heap.size]? = some tokO := (M.grown.block w.heap.size (by simp) (by have := HS.out; simp; omega)).trans (by show (w.heap.push tokO)[w.heap.size]? = _; simp)
        obtain ⟨d0, d1, d2, d3, d4⟩ := five w1 w.heap.size hblk
        obtain ⟨g0, g1, g2, g3, g4⟩ := fiveF w1 w.heap.size hblk
        clear M hblk
        go_wp2
        have hcast : ((q - pos : Nat) : Int) = (q : Int) - pos := by omega
        refine bodyPost_ret (v := tokV 3 pos ((q : Int) - pos) none 0 0 v) (by simp [results, Tryd.results56, go_sem, d0, d1, d2, d3, d4, hlt0]) rfl (tokOut_of ?_ HG.out)
        refine ⟨none, 0, 0, by rw [hcast], OwnS.nil _ _, ?_⟩
        rw [show pos + (q - pos) = q by omega]
        refine Moved.onto HB0.out HM.out ?_ HS.out
        refine Below.alloc ?_ (by simp; omega) _
        exact (((((Below.refl _ _).setCell (p := ⟨w.heap.size, 0, none⟩) (Nat.le_refl _) _).setCell (p := ⟨w.heap.size, 1, none⟩) (Nat.le_refl _) _).setCell (p := ⟨w.heap.size, 2, none⟩) (Nat.le_refl _) _).setCell (p := ⟨w.heap.size, 3, none⟩) (Nat.le_refl _) _).setCell (p := ⟨w.heap.size, 4, none⟩) (Nat.le_refl _) _
    · have HG : Hid (numR xs pos = .error 2) := by show _ = _; rw [HU.out, if_pos t1]
      clear HU
      go_enter Tryd.func56, Tryd.ntmps56
      go_wp2_with (first | (go_at_call 68; refine HH.mono ?_; rintro e w1 ⟨rfl, rfl⟩) | (go_at_call 52; refine (byteAt_any S b n c xs q _ HE.out.bytes HE.out.len (by omega) (by omega) HE.out.src HE.out.row).mono ?_; rintro e w' ⟨rfl, rfl⟩; rw [HX.out]) | (go_at_call 21; refine (isOf_any _ _ _ (by omega) (by omega) HE.out.tab).mono ?_; rintro e w' ⟨rfl, rfl⟩) | (go_at_call 62; refine (fault_any S pos 2 _ HE.out.at1 HE.out.inH).mono ?_; rintro e w1 ⟨rfl, hb1⟩))
      refine ⟨rfl, tokOut_of ?_ HG.out⟩
      exact ⟨rfl, grown_of_below (Below.on HB0.out hb1) _⟩

end Go.Proofs.YtfhelmhcmfpedaaDoor
