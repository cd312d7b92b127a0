/- bytes.Index of the end of a comment; skipBlock. Own work of the verifier. -/
import Derived.Test.YtfhelmhcmfpedaaDoorIndexL
import Derived.Test.YtfhelmhcmfpedaaDoorLxP
import Derived.Lib.SlBytesConst
namespace Go.Proofs.YtfhelmhcmfpedaaDoor
open Go Go.RowKit Go.Shelf
set_option linter.unusedVariables false

theorem u8_is {x : Int} (h0 : 0 ≤ x) (h1 : x < 256) (k : Nat) (hk : k < 256) : ((UInt8.ofNat k : UInt8) == UInt8.ofNat x.toNat) = decide (x = k) := by
  rw [Bool.eq_iff_iff, beq_iff_eq, decide_eq_true_iff]
  constructor
  · intro hh
    have := congrArg UInt8.toNat hh
    simp at this
    omega
  · intro hh; rw [hh]; simp
theorem index_blk {xs : List Int} (hb : Bytes xs) : ∀ (f i : Nat), i + f = xs.length → Lib.index (Lib.bytesOf (xs.drop i)) (Lib.bytesOf [42, 47]) = match blkI xs i with
    | none => -1
    | some j => ((j - i : Nat) : Int)
  | 0, i, h => by
    rw [blk_end xs i (by omega), List.drop_eq_nil_of_le (by omega)]; rfl
  | f + 1, i, h => by
    have hi : i < xs.length := by omega
    have ih := index_blk hb f (i + 1) (by omega)
    have hx := hb.at i
    have e0 : xs[i] = xs.getD i 0 := by simp [List.getD, List.getElem?_eq_getElem hi]
    rw [List.drop_eq_getElem_cons hi, e0, blk_step xs i hi, byteI_lt hi]
    show (if (Lib.bytesOf [42, 47]).isPrefixOf (UInt8.ofNat (xs.getD i 0).toNat :: Lib.bytesOf (xs.drop (i + 1))) then (0 : Int) else if Lib.index (Lib.bytesOf (xs.drop (i + 1))) _ == -1 then -1 else Lib.index (Lib.bytesOf (xs.drop (i + 1))) _ + 1) = _
    have hpre : (Lib.bytesOf [42, 47]).isPrefixOf (UInt8.ofNat (xs.getD i 0).toNat :: Lib.bytesOf (xs.drop (i + 1))) = decide (xs.getD i 0 = 42 ∧ byteI xs (i + 1) = 47) := by
      show (((UInt8.ofNat 42 : UInt8) == UInt8.ofNat (xs.getD i 0).toNat) && List.isPrefixOf [UInt8.ofNat 47] (Lib.bytesOf (xs.drop (i + 1)))) = _
      rw [u8_is hx.1 hx.2 42 (by decide)]
      rcases Nat.lt_or_ge (i + 1) xs.length with h1 | h1
      · have hy := hb.at (i + 1)
        have e1 : xs[i + 1] = xs.getD (i + 1) 0 := by simp [List.getD, List.getElem?_eq_getElem h1]
        rw [List.drop_eq_getElem_cons h1, e1, byteI_lt h1]
        show (_ && (((UInt8.ofNat 47 : UInt8) == UInt8.ofNat (xs.getD (i + 1) 0).toNat) && true)) = _
        rw [u8_is hy.1 hy.2 47 (by decide), Bool.and_true, Bool.eq_iff_iff]
        simp
      · rw [List.drop_eq_nil_of_le h1, byteI_ge h1]
        show (_ && false) = _
        simp
    rw [hpre, ih]
    by_cases hc : xs.getD i 0 = 42 ∧ byteI xs (i + 1) = 47
    · rw [if_pos (by simpa using hc), if_pos hc]; simp
    · rw [if_neg (by simpa using hc), if_neg hc]
      cases hblk : blkI xs (i + 1) with
      | none => simp
      | some j =>
        have := blk_rng _ _ _ hblk
        have h9 : (((j - (i + 1) : Nat) : Int) == -1) = false := by simp
        simp only [h9, Bool.false_eq_true, if_false]
        omega

def BlkOut (w : World) (S pos : Nat) (r : Option Nat) (e : Ending) (w' : World) : Prop :=
  match r with
  | none => Faults 2 pos e ∧ w.grownBy w' (some S)
  | some j => e = .returned (.tuple #[]) ∧ Moved w w' S (j + 2)
theorem blkOut_of {w w' : World} {S pos : Nat} {e : Ending} {r r' : Option Nat} (h : BlkOut w S pos r e w') (er : r' = r) : BlkOut w S pos r' e w' := er ▸ h

set_option maxRecDepth 100000 in
set_option maxHeartbeats 4000000 in
theorem skipBlock_any (S b n c pos : Nat) (xs : List Int) (m : Int) (w : World) (E : Env w S b n c pos xs) (hp : pos + 2 ≤ xs.length) (hM : w.cell? ⟨2, 0, none⟩ = some (.int .i64 m)) :
    Calls Tryd.prog 54 #[.pointer (some ⟨S, 0, none⟩)] w (BlkOut w S pos (blkI xs (pos + 2))) := by
  have h0 := E.src
  have h1 := E.at1
  have hf := E.fz 1
  have hS := E.inH
  have hsm := E.small
  have hlen := E.len
  have hnc := E.cap
  have hpn : pos + 2 ≤ n := by omega
  obtain ⟨W, eW⟩ : ∃ W, W = w.alloc (.cells #[.int .u8 42, .int .u8 47] 5 (2, 3)) := ⟨_, rfl⟩
  have hbW : Below w.heap.size w W := by rw [eW]; exact (Below.refl _ _).alloc (Nat.le_refl _) _
  have kc := Lib.run_convert_bytes_const (P := Tryd.prog) w 22 5 #[.int .u8 42, .int .u8 47] 2 2 Tryd.underlying22 Tryd.underlying5
  rw [show ((#[Value.int .u8 42, Value.int .u8 47] : Array Value).size, (#[Value.int .u8 42, Value.int .u8 47] : Array Value).size + 1) = (2, 3) from rfl, ← eW] at kc
  have hG : W.heap[w.heap.size]? = some (.cells #[.int .u8 42, .int .u8 47] 5 (2, 3)) := by rw [eW]; exact heap_alloc_new _ _
  have hc2 : ∀ i, i < 2 → W.cell? ((⟨w.heap.size, 0, none⟩ : Addr).add i) = some (.int .u8 (([42, 47] : List Int).getD i 0)) := fun i hi => by
    have : i = 0 ∨ i = 1 := by omega
    rcases this with rfl | rfl
    · show World.cell? _ ⟨w.heap.size, 0, none⟩ = _; unfold World.cell?; rw [hG]; rfl
    · show World.cell? _ ⟨w.heap.size, 1, none⟩ = _; unfold World.cell?; rw [hG]; rfl
  have hMW : W.cell? ⟨Tryd.indexL_ren.g 1, 0, none⟩ = some (.int .i64 m) := (hbW.cell (p := ⟨2, 0, none⟩) (World.block_lt_of_cell? _ _ hM)).trans hM
  have HIX : ∀ a1 : Addr, (∀ i, i < n - (pos + 2) → W.cell? (a1.add i) = some (.int .u8 ((xs.drop (pos + 2)).getD i 0))) → Calls Tryd.prog 67 #[.slice (some a1) (n - (pos + 2)) (c - (pos + 2)), .slice (some ⟨w.heap.size, 0, none⟩) 2 2] W fun e w' => e = .returned (.int .i64 (Lib.index (Lib.bytesOf (xs.drop (pos + 2))) (Lib.bytesOf [42, 47]))) ∧ ∃ q, w' = W.drewN q := fun a1 hc1 =>
    Any.bytes_Index_at Tryd.indexL a1 ⟨w.heap.size, 0, none⟩ (n - (pos + 2)) (c - (pos + 2)) 2 2 (xs.drop (pos + 2)) [42, 47] m W (by simp; omega) rfl (fun x hx => E.bytes x (List.mem_of_mem_drop hx)) (by decide) hc1 hc2 (by omega) (by omega) (by decide) hMW
  have HBY : Hid (Bytes xs) := E.bytes
  have HLN : Hid (n = xs.length) := hlen
  have HBW : Hid (Below w.heap.size w W) := hbW
  have HF1 : Hid (∀ q, (W.drewN q).cell? ⟨S, 1, none⟩ = some (.int .i64 pos)) := fun q => (hbW.cell (p := ⟨S, 1, none⟩) hS).trans h1
  have HFF : Hid (∀ q, (W.drewN q).frozen? ⟨S, 1, none⟩ = false) := fun q => (hbW.frozen (p := ⟨S, 1, none⟩) hS).trans hf
  have HFS : Hid (∀ q, S < (W.drewN q).heap.size) := fun q => Nat.lt_of_lt_of_le hS hbW.size
  have HMV : Hid (∀ q k : Nat, Hid (Moved w ((W.drewN q).setCell ⟨S, 1, none⟩ (.int .i64 (k : Nat))) S k)) := fun q k => Moved.onto (below_drewN hbW q) (Moved.set pos k (HF1.out q)) (Below.refl _ _) hS
  have hrow : ∀ i, i < n - (pos + 2) → W.cell? ⟨b, pos + 2 + i, none⟩ = some (.int .u8 ((xs.drop (pos + 2)).getD i 0)) := fun i hi => by
    have h9 := E.row (pos + 2 + i) (by omega)
    rw [hbW.cell (p := ⟨b, pos + 2 + i, none⟩) (World.block_lt_of_cell? _ _ h9), h9]
    simp [List.getD, List.getElem?_drop]
  have hp0 : (0 : Int) ≤ (pos : Int) + 2 := by omega
  have hp1 : (pos : Int) + 2 ≤ (n : Int) := by omega
  have hto : ((pos : Int) + 2).toNat = pos + 2 := by omega
  clear hlen hbW E hc2 hMW hM hp eW hG
  by_cases hcc : c = pos + 2
  · have hn2 : n = pos + 2 := by omega
    subst hcc
    subst hn2
    have HI := HIX ⟨b, 0, none⟩ (fun i hi => by omega)
    clear HIX
    have hblk : blkI xs (pos + 2) = none := blk_end xs (pos + 2) (by have := HLN.out; omega)
    rw [index_blk HBY.out 0 (pos + 2) (by have := HLN.out; omega), hblk, Nat.sub_self] at HI
    rw [hblk]
    clear hblk
    go_enter Tryd.func54, Tryd.ntmps54
    go_wp2_with (first | (go_at_call 67; refine HI.mono ?_; rintro e w' ⟨rfl, q, rfl⟩) | (go_at_call 62; refine (fault_any S pos 2 _ (HF1.out _) (HFS.out _)).mono ?_; rintro e w1 ⟨rfl, hb1⟩))
    refine ⟨rfl, ?_⟩
    exact ⟨rfl, grown_of_below (Below.on HBW.out ((below_drewN (Below.refl _ _) _).trans hb1)) _⟩
  · skip
    have HI := HIX ⟨b, pos + 2, none⟩ (fun i hi => by rw [show (⟨b, pos + 2, none⟩ : Addr).add i = ⟨b, pos + 2 + i, none⟩ by unfold Addr.add; split <;> simp_all]; exact hrow i hi)
    clear HIX
    cases hblk : blkI xs (pos + 2) with
    | none =>
      rw [index_blk HBY.out (n - (pos + 2)) (pos + 2) (by have := HLN.out; omega), hblk] at HI
      clear hblk
      go_enter Tryd.func54, Tryd.ntmps54
      go_wp2_with (first | (go_at_call 67; refine HI.mono ?_; rintro e w' ⟨rfl, q, rfl⟩) | (go_at_call 62; refine (fault_any S pos 2 _ (HF1.out _) (HFS.out _)).mono ?_; rintro e w1 ⟨rfl, hb1⟩))
      refine ⟨rfl, ?_⟩
      exact ⟨rfl, grown_of_below (Below.on HBW.out ((below_drewN (Below.refl _ _) _).trans hb1)) _⟩
    | some j =>
      have hrg := blk_rng _ _ _ hblk
      rw [index_blk HBY.out (n - (pos + 2)) (pos + 2) (by have := HLN.out; omega), hblk] at HI
      simp only at HI
      obtain ⟨d, ed⟩ : ∃ d, d = j - (pos + 2) := ⟨_, rfl⟩
      rw [← ed] at HI
      have hd : d ≤ 10000 := by have := HLN.out; omega
      have HJ : Hid (j + 2 = pos + 2 + d + 2) := by show _ = _; omega
      have hd0 : ¬ ((d : Int) < 0) := by omega
      clear hblk hrg ed
      go_enter Tryd.func54, Tryd.ntmps54
      go_wp2_with (first | (go_at_call 67; refine HI.mono ?_; rintro e w' ⟨rfl, q, rfl⟩; have hw1 := HF1.out q; have hwf := HFF.out q))
      refine bodyPost_end (v := .tuple #[]) (by simp [results, Tryd.results54, go_sem]) rfl ⟨rfl, ?_⟩
      have hq := (HMV.out q (j + 2)).out
      rw [HJ.out] at hq ⊢
      simpa using hq

end Go.Proofs.YtfhelmhcmfpedaaDoor
