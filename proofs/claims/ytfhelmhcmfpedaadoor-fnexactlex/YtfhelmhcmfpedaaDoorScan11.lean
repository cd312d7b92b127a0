/- The scanner: comments to the end of a line. Own work of the verifier. -/
import Derived.Test.YtfhelmhcmfpedaaDoorScan10
import Derived.Lib.BytesEntry
namespace Go.Proofs.YtfhelmhcmfpedaaDoor
open Go Go.RowKit
set_option linter.unusedVariables false
set_option linter.unusedSimpArgs false

/-- How many bytes stand before the next LF, or the end. -/
def lineI (xs : List Int) (pos : Nat) : Nat := runLen (fun c => c != 10) (xs.drop pos)
theorem index10 : ∀ (ys : List Int), Bytes ys → Lib.indexByte (Lib.bytesOf ys) (10 : Int).toNat.toUInt8 = if runLen (fun c => c != 10) ys = ys.length then -1 else (runLen (fun c => c != 10) ys : Int)
  | [], _ => rfl
  | x :: r, h => by
    have hx := h x (List.mem_cons_self ..)
    have ih := index10 r (fun y hy => h y (List.mem_cons_of_mem _ hy))
    have hle := runLen_le (fun c => c != 10) r
    have e : (x.toNat.toUInt8 == (10 : Int).toNat.toUInt8) = decide (x = 10) := by
      rw [Bool.eq_iff_iff, beq_iff_eq, decide_eq_true_iff]
      constructor
      · intro hh
        have := congrArg UInt8.toNat hh
        simp at this
        omega
      · intro hh; rw [hh]
    show (if (x.toNat.toUInt8 == (10 : Int).toNat.toUInt8) = true then (0 : Int) else if Lib.indexByte (Lib.bytesOf r) _ == -1 then -1 else Lib.indexByte (Lib.bytesOf r) _ + 1) = _
    have rl : runLen (fun c => c != 10) (x :: r) = if (x != 10) = true then runLen (fun c => c != 10) r + 1 else 0 := rfl
    rw [e, ih, rl]
    by_cases hx10 : x = 10
    · simp [hx10]
    · have hb : (x != 10) = true := by simpa using hx10
      simp only [hx10, decide_false, Bool.false_eq_true, if_false, hb, if_true, List.length_cons]
      by_cases hr : runLen (fun c => c != 10) r = r.length
      · simp [hr]
      · have h1 : ((if runLen (fun c => c != 10) r = r.length then (-1 : Int) else (runLen (fun c => c != 10) r : Int)) == -1) = false := by
          rw [if_neg hr]; simp
        rw [h1, if_neg hr, if_neg (show ¬ runLen (fun c => c != 10) r + 1 = r.length + 1 by omega)]
        simp

theorem indexByte_any (b o n c : Nat) (ys : List Int) (w : World) (hy : Bytes ys) (hn : ys.length = n) (hc : ∀ i, i < n → w.cell? ⟨b, o + i, none⟩ = some (.int .u8 (ys.getD i 0))) :
    Calls Tryd.prog 66 #[.slice (some ⟨b, o, none⟩) n c, .int .u8 10] w fun e w' => e = .returned (.int .i64 (if runLen (fun c => c != 10) ys = ys.length then -1 else (runLen (fun c => c != 10) ys : Int))) ∧ w' = w := by
  have hx := @run_callFunc_extern Tryd.prog 71 _ Extern.BytealgIndexByte.indexByte Tryd.func71 (by kernel_rfl) (by kernel_rfl) (by kernel_rfl) (by kernel_rfl)
  have hrun := Lib.run_indexByteSlice (P := Tryd.prog) w b o n c ys hn hc 10
  rw [index10 ys hy] at hrun
  obtain ⟨r, er⟩ : ∃ r, r = if runLen (fun c => c != 10) ys = ys.length then -1 else (runLen (fun c => c != 10) ys : Int) := ⟨_, rfl⟩
  rw [← er] at hrun ⊢
  clear er hc
  go_enter Tryd.func66, Tryd.ntmps66
  go_wp2
  go_ret
  exact ⟨rfl, rfl⟩

set_option maxRecDepth 100000 in
theorem skipLine_any (S b n c pos : Nat) (xs : List Int) (w : World) (E : Env w S b n c pos xs) (hp : pos < xs.length) :
    Calls Tryd.prog 53 #[.pointer (some ⟨S, 0, none⟩)] w fun e w' => e = .returned (.tuple #[]) ∧ Moved w w' S (pos + lineI xs pos) := by
  have h0 := E.src
  have h1 := E.at1
  have hf := E.fz 1
  have hsm := E.small
  have hpn : pos < n := by rw [E.len]; exact hp
  have hcn : pos < c := Nat.lt_of_lt_of_le hpn E.cap
  have hne : ¬ c = pos := by omega
  have hpi : (pos : Int) ≤ (n : Nat) := by omega
  have hp0 : (0 : Int) ≤ (pos : Nat) := by omega
  have hnc : n ≤ c := E.cap
  have hle : lineI xs pos ≤ n - pos := by have := runLen_le (fun c => c != 10) (xs.drop pos); unfold lineI; rw [E.len]; simpa using this
  have HI := fun k => indexByte_any b pos (n - pos) (c - pos) (xs.drop pos) (w.drewN k) (E.bytes.drop pos) (by rw [E.len]; simp) (fun i hi => by
    have := E.row (pos + i) (by have := E.len; omega)
    rw [World.cell?_drewN, this]; simp [List.getD, List.getElem?_drop])
  have HL : Hid ((xs.drop pos).length = n - pos) := by rw [E.len]; show _ = _; simp
  have HM : ∀ k q, Hid (Moved w ((w.drewN k).setCell ⟨S, 1, none⟩ (.int .i64 (q : Nat))) S q) := fun k q => Moved.onto (below_drewN (Below.refl _ _) k) (Moved.set pos q (show (w.drewN k).cell? _ = _ from h1)) (Below.refl _ _) E.inH
  have hS := E.inH
  obtain ⟨m, em⟩ : ∃ m, m = lineI xs pos := ⟨_, rfl⟩
  have em2 : runLen (fun c => c != 10) (xs.drop pos) = m := em.symm
  rw [← em] at hle ⊢
  simp only [em2, HL.out] at HI
  clear E em em2
  by_cases t : m = n - pos
  · simp only [if_pos t] at HI
    go_enter Tryd.func53, Tryd.ntmps53
    go_wp2
    go_quiet ((go_at_call 66; exact Calls.quiet_of_same (HI _)))
    go_wp2
    all_goals (try go_quiet (fail))
    all_goals (try go_wp2)
    refine bodyPost_end (v := .tuple #[]) (by simp [results, Tryd.results53, go_sem]) rfl ⟨rfl, ?_⟩
    have e : (pos : Int) + ((n : Int) - pos) = ((pos + m : Nat) : Int) := by omega
    rw [e]
    exact (HM _ _).out
  · simp only [if_neg t] at HI
    go_enter Tryd.func53, Tryd.ntmps53
    go_wp2
    go_quiet ((go_at_call 66; exact Calls.quiet_of_same (HI _)))
    go_wp2
    refine bodyPost_end (v := .tuple #[]) (by simp [results, Tryd.results53, go_sem]) rfl ⟨rfl, ?_⟩
    have hq := (HM nq (pos + m)).out
    simpa using hq

end Go.Proofs.YtfhelmhcmfpedaaDoor
