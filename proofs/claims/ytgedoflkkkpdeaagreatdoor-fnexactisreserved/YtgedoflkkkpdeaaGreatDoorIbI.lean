/- impl.IsBuiltin. Own work of the verifier. -/
import Derived.Test.YtgedoflkkkpdeaaGreatDoorIbN
import Derived.Deep.RegionHeld3
namespace Go.Proofs.YtgedoflkkkpdeaaGreatDoor
open Go Go.RowKit
set_option linter.unusedVariables false

/-- Numbers as bytes. -/
def unU (xs : List Int) : List UInt8 := xs.map fun n => UInt8.ofNat n.toNat
theorem str_unU (xs : List Int) : strOfNums xs = bOf (unU xs) := by
  apply ba_ext
  rw [str_list, bOf_list]; rfl
set_option maxRecDepth 100000 in
set_option maxHeartbeats 1000000 in
theorem implIsBu_any (p : Option Addr) (cap : Nat) (xs : List Int) (a : Int) (w : World) (hn : xs.length ≤ 1048576) (hin : BIn w p xs) (ha : (Lit.int .i64 a).wf = true) :
    Calls Tryz.prog 7 #[.slice p xs.length cap, .int .i64 a] w fun e w' => e = .returned (.bool (isBu (unU xs) a)) ∧ Below w.heap.size w w' := by
  obtain ⟨l, el⟩ : ∃ l, l = xs.length := ⟨_, rfl⟩
  obtain ⟨s, es⟩ : ∃ s, s = strOfNums xs := ⟨_, rfl⟩
  have HCV : Hid (∀ W, Below w.heap.size w W → (convert 22 9 (.slice p l cap)).run Tryz.prog W = .ok (.string s) W) := fun W hW => by rw [es]; exact conv_str (hin.below hW) l cap el 9 Tryz.underlying9
  have hsz : s.size ≤ 1048576 := by rw [es, str_unU, bOf_size]; simpa [unU] using hn
  have hok : okN (s, a) := ⟨by show s.size ≤ _; omega, ha⟩
  have hr : (buTab (s, a)).isSome = isBu (unU xs) a := by rw [es, str_unU, buTab_some]
  have HLK : Hid (∀ (W : World) (b : Nat), BuIn W b 92 buTab → ∃ v, (Instr.lookup 34 (.map (some b)) (.agg #[.string s, .int .i64 a]) true).run Tryz.prog W = .ok (.tuple #[v, .bool (isBu (unU xs) a)]) W ∧ (Instr.lookup 34 (.map (some b)) (.agg #[.string s, .int .i64 a]) true).run Tryz.prog W.drew = .ok (.tuple #[v, .bool (isBu (unU xs) a)]) W.drew) := fun W b hb => by
    have h := hb.look (s, a) hok
    have h2 := (hb.of (w' := W.drew) rfl).look (s, a) hok
    rw [hr] at h h2
    exact ⟨_, h, h2⟩
  obtain ⟨R, eR⟩ : ∃ R, R = isBu (unU xs) a := ⟨_, rfl⟩
  rw [← eR] at HLK ⊢
  rw [← el]
  have kc := HCV.out w.drew (Below.refl _ _).drew
  have HNB : Hid (∀ W, Calls Tryz.prog 12 #[] W fun e w' => ∃ b, e = .returned (.map (some b)) ∧ BuIn w' b 92 buTab ∧ Below W.heap.size W w') := fun W => newBuiltins_any W
  clear hn hin ha el es hsz hok hr eR
  go_enter Tryz.func7, Tryz.ntmps7
  go_wp2_with fail
  go_region_held3 (fun W => (convert 22 9 (.slice p l cap)).run Tryz.prog W = .ok (.string s) W) (first | exact kc | go_keep)
    ((go_at_call 12; refine (HNB.out _).mono ?_; rintro e w1 ⟨b, rfl, hT, hB⟩; have kc := HCV.out w1 ⟨hB.os, hB.tape, hB.output, hB.size, hB.block⟩; obtain ⟨v, hl1, hl2⟩ := HLK.out w1 b hT))
  all_goals
    have HB1 : Hid (Below w.heap.size w w1) := ⟨hB.os, hB.tape, hB.output, hB.size, hB.block⟩
    clear hT hB
    go_wp2_with fail
    go_ret
    exact ⟨rfl, HB1.out⟩

end Go.Proofs.YtgedoflkkkpdeaaGreatDoor
