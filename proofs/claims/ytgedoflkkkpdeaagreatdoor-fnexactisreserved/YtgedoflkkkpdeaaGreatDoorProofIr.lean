/- The row and the card of FnExactIsReserved. Own work of the verifier. -/
import Derived.Test.YtgedoflkkkpdeaaGreatDoorRows
import Derived.Test.YtgedoflkkkpdeaaGreatDoorTie
import Derived.Test.YtgedoflkkkpdeaaGreatDoorCards
import Derived.Test.YtgedoflkkkpdeaaGreatDoorLawIr
import Derived.Test.YtgedoflkkkpdeaaGreatDoorIrFa
import Derived.Test.YtgedoflkkkpdeaaGreatDoorIrFb
import Derived.Test.YtgedoflkkkpdeaaGreatDoorIrFc
import Derived.Test.YtgedoflkkkpdeaaGreatDoorIrFd
import Derived.Test.YtgedoflkkkpdeaaGreatDoorIrFe
import Derived.Test.YtgedoflkkkpdeaaGreatDoorIrFf
import Derived.Test.YtgedoflkkkpdeaaGreatDoorIrFg
import Derived.Test.YtgedoflkkkpdeaaGreatDoorIrFh
import Derived.Test.YtgedoflkkkpdeaaGreatDoorIrFi
import Derived.ProofKit
import Derived.OpenShut
import Derived.OpenVars
import Derived.Stop.Joined
import Derived.Lib.LaidTab
import Derived.Carry
import Derived.SevenTiedAt
import Derived.LaidMore
import Derived.LaidHandle
import Derived.WalkSmall
namespace Go.Proofs.YtgedoflkkkpdeaaGreatDoor
open Go Go.ChangeShapes Go.WideShapes Go.ChangeAt Go.WideMaps Go.WideElems Go.RowKit
set_option linter.unusedVariables false

theorem ownB : ownKnob Tryz.prog.godebug = none := by kernel_rfl
theorem laidOutI : laidOutB Tryz.prog = true := by kernel_rfl
theorem cellsByteB : Tryz.prog.cellsOf 5 = 1 := by kernel_rfl
abbrev laidB : List (String × DataW Unit) := [("math/bits.deBruijn32tab", Rows.laid_math_bits_deBruijn32tab), ("math/bits.deBruijn64tab", Rows.laid_math_bits_deBruijn64tab), ("internal/strconv.uint64pow10", Rows.laid_internal_strconv_uint64pow10), ("errors.errorType", Rows.laid_errors_errorType), ("loop.example/s00095/impl.charKinds", Rows.laid_loop_example_s00095_impl_charKinds), ("loop.example/s00095/impl.errFails", Rows.laid_loop_example_s00095_impl_errFails), ("loop.example/s00095/impl.errBeyond", Rows.laid_loop_example_s00095_impl_errBeyond)]
theorem door_metB (os : Os) (args : Array Value) : laidMetH Tryz.prog laidB ((World.doorLaid Tryz.prog 400 os).forCall (fun _ _ => 0) ⟨#[], args, []⟩).memory :=
  laidMetH_of_parts3 (fuel := 8) (laidMet_of_run' 8 (by kernel_rfl) (by kernel_rfl)) (by kernel_rfl) (by kernel_rfl)
/-- A slice of bytes that came in, opened in one word, nil or not. -/
theorem openedB {H : Type} {enc : TypeId × Value → H} {W : World} {a0 : Option Addr} {len cap : Nat} {d0 : DataW H} {p : List MemPlace}
    (h0 : DataW.Trod enc Tryz.prog W 0 (fun _ => true) true 22 (.slice a0 len cap) d0 p) :
    ∃ xs : List Int, xs.length = len ∧ len ≤ 9223372036854775807 ∧ BIn W a0 xs ∧ Byte xs := by
  obtain ⟨fuel, hf⟩ := h0
  rcases open_ints Tryz.underlying22 Tryz.underlying5 cellsByteB hf with ⟨hcs, hx⟩ | ⟨a, len', cap', zs, hcs, _, hl, hm, hz, hx, hcell, hwz⟩
  · simp [Value.cells] at hcs
    obtain ⟨rfl, rfl, rfl⟩ := hcs
    exact ⟨[], rfl, by decide, fun h => absurd h (Nat.lt_irrefl 0), fun x hx => by cases hx⟩
  · simp [Value.cells] at hcs
    obtain ⟨rfl, rfl, rfl⟩ := hcs
    simp only [if_true] at hz
    unfold maxLen at hm
    refine ⟨zs.take len, by simp; omega, by omega, fun hn => ?_, fun x hx' => ?_⟩
    · have hn' : 0 < zs.length := by simp at hn; omega
      obtain ⟨b, o, s⟩ := a
      obtain rfl : s = none := by simpa [Addr.add] using World.cell?_spot (hcell 0 hn')
      refine ⟨b, o, rfl, fun i hi => ?_⟩
      have hi' : i < len := by simp at hi; omega
      have := hcell i (by omega)
      rw [add_plain] at this
      rw [this]
      simp [List.getD, hi']
    · have h := hwz x (List.mem_of_mem_take hx')
      have h1 : IntKind.u8.min = 0 := rfl
      have h2 : IntKind.u8.max = 255 := rfl
      simp only [Lit.wf, Bool.and_eq_true, decide_eq_true_eq] at h
      omega

set_option maxHeartbeats 800000 in
set_option maxRecDepth 100000 in
theorem ir_lifted (os : Os) (started : os.Started) (H : Type) (enc : TypeId × Value → H) :
    ReturnsInHanded {} Tryz.checked os 4 .any (fun w args => (Rows.fnExactIsReservedSpec.pre enc Tryz.prog Tryz.f4 [] false w args ∧ laidMetH Tryz.prog laidB w) ∧ sizedMet enc Tryz.prog Tryz.f4 (OpenSpec.ofChange Rows.fnExactIsReservedSpec) false w args)
      (Rows.fnExactIsReservedSpec.post enc Tryz.prog Tryz.f4 false true false false) := by
  refine returnsInHanded_of_change_and (C := Tryz.checked) (X := fun w _ => laidMetH Tryz.prog laidB w) (fun _ _ _ hh h => h.of_heap hh) ownB started (by kernel_rfl) Tryz.func4
    (ChangeSpec.witness_shaped (enc := enc) (C := Tryz.checked) (os := os) (X := fun w _ => laidMetH Tryz.prog laidB w) false (World.doorLaid Tryz.prog 400 os) #[.slice none 0 0, .int .i64 0] 8 rfl (World.shaped_of_RefB (by kernel_rfl) (by kernel_rfl)) (by kernel_rfl) (by kernel_rfl) (by kernel_rfl) (door_metB os _)) ?_
  intro W base args ds gs before hval0 hW _ _ hL _
  have hval : ∀ (j : Nat) t v, Tryz.f4.params[j]? = some t → args[j]? = some v → Value.okWide Tryz.prog W .any base t v := hval0
  have hW' := hW
  obtain ⟨p, q, hA0, hV, rfl, hfz, hnd⟩ := hW
  have hA : DataW.TrodAll enc Tryz.prog W 0 (fun _ => true) true Tryz.f4.params.toList args.toList ds p := hA0
  rw [Tryz.params4] at hA hval
  obtain ⟨v0, v1, d0, d1, p0, p1, rfl, rfl, rfl, h0, h1⟩ := trodAll_two hA
  obtain ⟨a0, len, cap, rfl⟩ := okWide_slice Tryz.underlying22 (hval 0 22 v0 rfl rfl)
  obtain ⟨k, rfl, rfl, rfl, hk⟩ := open_int Tryz.underlying3 (hval 1 3 v1 rfl rfl) h1
  have hlt : ∀ x ∈ p0, x.block < W.heap.size := fun x hx => by simpa using hW'.lt x (List.mem_append_left _ (List.mem_append_left _ hx))
  obtain ⟨xs, rfl, hm, hin, hby⟩ := openedB h0
  clear hA0 hval0
  refine (lawIr_any a0 cap xs W hin hby k hk).mono fun e W' ⟨he, hB⟩ => ?_
  subst he
  have hvar := Below.trodVars laidOutI hB (by kernel_rfl) hV
  have harg := Below.trod laidOutI (by kernel_rfl) (of_decide_eq_true (by kernel_rfl)) h0 hB hlt
  obtain ⟨ga, gb, gc, rfl⟩ : ∃ ga gb gc, gs = [ga, gb, gc] := by
    match gs, hV with
    | [], h => exact h.elim
    | [_], ⟨_, _, _, _, _, _, _, _, _, _, h, _⟩ => exact h.elim
    | [_, _], ⟨_, _, _, _, _, _, _, _, _, _, ⟨_, _, _, _, _, _, _, _, _, _, h, _⟩, _⟩ => exact h.elim
    | [a, b, c], _ => exact ⟨a, b, c, rfl⟩
    | _ :: _ :: _ :: _ :: _, ⟨_, _, _, _, _, _, _, _, _, _, ⟨_, _, _, _, _, _, _, _, _, _, ⟨_, _, _, _, _, _, _, _, _, _, h, _⟩, _⟩, _⟩ => exact h.elim
  exact ⟨_, rfl, _, _, _, [], p0 ++ [], q, hW', trodAll_mk1 (shut_bool Tryz.underlying4 _), trodAll_mk2 harg (shut_int Tryz.underlying3 hk), hvar, hB.frame _, fun h => by cases h⟩

theorem and2 {a b : Bool} (ha : a = true) (hb : b = true) : (a && b) = true := by rw [ha, hb]; rfl
set_option maxRecDepth 100000 in
theorem jfAll : joinedFacts Tryz.prog 4 Tryz.f4 Rows.fnExactIsReservedSpec Rows.fnExactIsReservedRow = true := by
  unfold joinedFacts
  exact (and2 (and2 (and2 (and2 (and2 (and2 (and2 (and2 (and2 (and2 (and2 (and2 (and2 (and2 (and2 (and2 (and2 (and2 (and2 (and2 (and2 (and2 (and2 (and2 (and2 (and2 (and2 (and2 (and2 (and2 (and2 jf0 jf1) jf2) jf3) jf4) jf5) jf6) jf7) jf8) jf9) jf10) jf11) jf12) jf13) jf14) jf15) jf16) jf17) jf18) jf19) jf20) jf21) jf22) jf23) jf24) jf25) jf26) jf27) jf28) jf29) jf30) jf31)

set_option maxRecDepth 100000 in
theorem fnExactIsReserved_row : Rows.FnExactIsReservedSaid :=
  OpenClaim.holds_of_wide 4 Tryz.f4 rfl rfl rfl rfl rfl rfl rfl ⟨rfl, rfl, rfl, rfl, rfl⟩ rfl rfl rfl rfl rfl cf5 Tryz.func4 jfAll
    jfi jfw
    (fun os started H enc _ => ir_lifted os started H enc)

set_option maxRecDepth 100000 in
theorem cfHl : ∀ f fn, Tryz.pinned.checked.prog.funcNamed Rows.fnExactIsReservedRow.func = some f → Tryz.pinned.checked.prog.funcs[f]? = some fn → Rows.fnExactIsReservedCard.stood.looks = Tryz.pinned.checked.prog.looks [] ∧ ∀ (j : Nat) t, fn.params[j]? = some t → Tryz.pinned.checked.prog.wantsStandIn t = false := fun f fn hf hfn => by
  obtain rfl : f = 4 := Option.some.inj (cf5.symm.trans hf) |>.symm
  obtain rfl : fn = Tryz.f4 := (Option.some.inj (Tryz.func4.symm.trans hfn)).symm
  exact ⟨cf3, fun j t ht => by
    rw [Tryz.params4] at ht
    have hm : t ∈ [22, 3] := by simpa using Array.mem_of_getElem? ht
    exact (show Tryz.prog.wantsStandIn t = false by simpa using List.all_eq_true.1 jfs t hm)⟩

set_option maxRecDepth 100000 in
theorem fnExactIsReserved_holds : Rows.FnExactIsReservedCardSaid :=
  Claim7.holds_tied_plain_at .later [] [.data, .data, .data, .handle, .data, .sentinel, .sentinel] true Rows.fnExactIsReservedCard.stood.harness Rows.fnExactIsReservedCard.stood.looks
    fnExactIsReserved_row (fun _ h => by cases h) cf1 (fun _ h => by cases h) fnExactIsReserved_row_tie rfl ⟨rfl, rfl⟩ (by kernel_rfl) rfl cfHl cf4
#print axioms fnExactIsReserved_holds

end Go.Proofs.YtgedoflkkkpdeaaGreatDoor
