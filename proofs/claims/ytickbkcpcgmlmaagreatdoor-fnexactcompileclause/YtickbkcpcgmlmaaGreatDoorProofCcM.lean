/- The row and the card of FnExactCompileClause. Own work of the verifier. -/
import Derived.Test.YtickbkcpcgmlmaaGreatDoorCards
import Derived.Test.YtickbkcpcgmlmaaGreatDoorUqbf
import Derived.Test.YtickbkcpcgmlmaaGreatDoorCqTh
import Derived.Test.YtickbkcpcgmlmaaGreatDoorCqFa
import Derived.Test.YtickbkcpcgmlmaaGreatDoorCqFb
import Derived.Test.YtickbkcpcgmlmaaGreatDoorCqFc
import Derived.Test.YtickbkcpcgmlmaaGreatDoorCqFd
import Derived.Test.YtickbkcpcgmlmaaGreatDoorCqFe
import Derived.Test.YtickbkcpcgmlmaaGreatDoorCqFf
import Derived.Test.YtickbkcpcgmlmaaGreatDoorCqFg
import Derived.Test.YtickbkcpcgmlmaaGreatDoorCqFi
import Derived.Test.YtickbkcpcgmlmaaGreatDoorCqFk
import Derived.OpenVars
import Derived.Stop.Joined
import Derived.Lib.LaidTab
import Derived.LaidMore
import Derived.LaidHandle
import Derived.LaidSub
import Derived.Stop.LaidTwo
import Derived.Stop.LaidErr
import Derived.Stop.Texts
import Derived.Shelf.Vars
namespace Go.Proofs.YtickbkcpcgmlmaaGreatDoor
set_option maxRecDepth 100000
open Go Go.ChangeShapes Go.WideShapes Go.ChangeAt Go.WideMaps Go.WideElems Go.RowKit Go.Kit
set_option linter.unusedVariables false
abbrev laidB : List (String × DataW Unit) := laidV
theorem gFails : Tryz.prog.globalNamed "loop.example/s00095/impl.errFails" = some 1 := by kernel_rfl
theorem gBeyond : Tryz.prog.globalNamed "loop.example/s00095/impl.errBeyond" = some 0 := by kernel_rfl
theorem gFailsT : (Tryz.prog.globals[1]?).map (·.type) = some 66 := by kernel_rfl
theorem gBeyondT : (Tryz.prog.globals[0]?).map (·.type) = some 66 := by kernel_rfl
theorem cellsES : Tryz.prog.cellsOf 500 = 1 := by kernel_rfl
theorem cellsSt : Tryz.prog.cellsOf 9 = 1 := by kernel_rfl
theorem starES : "*" ++ "errors.errorString" = "*errors.errorString" := by decide
theorem rowES (u : TypeId) (h : Tryz.prog.typeName? 3 u = some "*errors.errorString") : u = 476 :=
 typeName_ptr_named (nm := "errors.errorString") (by rw [starES]; kernel_rfl) (by kernel_rfl) (by decide) u (by rw [starES]; exact h)
theorem laidNo : (laidB.filter fun x => x.2.handleName?.isNone) = ("loop.example/s00095/impl.errFails", Rows.laid_loop_example_s00095_impl_errFails) :: ("loop.example/s00095/impl.errBeyond", Rows.laid_loop_example_s00095_impl_errBeyond) :: (laidB.filter fun x => x.2.handleName?.isNone).drop 2 := by rfl
theorem err_at {W : World} (h : laidMetH Tryz.prog laidB W) : ∃ a a2, ErrAt W a a2 := by
 have h2 := (laidMetH_iff.1 h).1; rw [laidNo] at h2; obtain ⟨a0, a1, s0, s1, c0, c1, t0, t1, hv0, hv1, hc0, hs0, hz0, hc1, hs1, hz1, hne, hb0, hb1⟩ := laid_sentinels2 h2 gFails gFailsT gBeyond gBeyondT Tryz.underlying66 rowES Tryz.underlying476 Tryz.underlying500 rfl rfl Tryz.underlying9 cellsES cellsSt; exact ⟨a0, a1, by simpa using World.var?_cell gFails hv0 0, by simpa using World.var?_cell gBeyond hv1 0, hne.symm, ⟨c0, t0, hb0⟩, ⟨c1, t1, hb1⟩⟩
theorem door_metB (os : Os) (args : Array Value) : laidMetH Tryz.prog laidB ((World.doorLaid Tryz.prog 400 os).forCall (fun _ _ => 0) ⟨#[], args, []⟩).memory :=
 laidMetH_of_parts3 (fuel := 8) (laidMet_of_run' 8 (by kernel_rfl) (by kernel_rfl)) (by kernel_rfl) (by kernel_rfl)
set_option maxHeartbeats 800000 in
theorem cc_lifted (os : Os) (started : os.Started) (H : Type) (enc : TypeId × Value → H) :
  ReturnsInHanded {} Tryz.checked os 3 .any (fun w args => (Rows.fnExactCompileClauseSpec.pre enc Tryz.prog Tryz.f3 [] false w args ∧ laidMetH Tryz.prog laidB w) ∧ sizedMet enc Tryz.prog Tryz.f3 (OpenSpec.ofChange Rows.fnExactCompileClauseSpec) false w args)
   (Rows.fnExactCompileClauseSpec.post enc Tryz.prog Tryz.f3 false true false false) := by
 refine returnsInHanded_of_change_and (C := Tryz.checked) (X := fun w _ => laidMetH Tryz.prog laidB w) (fun _ _ _ hh h => h.of_heap hh) own started (by kernel_rfl) Tryz.func3
  (ChangeSpec.witness_shaped (enc := enc) (C := Tryz.checked) (os := os) (X := fun w _ => laidMetH Tryz.prog laidB w) false (World.doorLaid Tryz.prog 400 os) #[.slice none 0 0] 8 rfl (World.shaped_of_RefB (by kernel_rfl) (by kernel_rfl)) (by kernel_rfl) (by kernel_rfl) (by kernel_rfl) (door_metB os _)) ?_
 intro W base args ds gs before hval0 hW _ _ hL _
 have hval : ∀ (j : Nat) t v, Tryz.f3.params[j]? = some t → args[j]? = some v → Value.okWide Tryz.prog W .any base t v := hval0; have hW' := hW; obtain ⟨p, q, hA0, hV, rfl, hfz, hnd⟩ := hW; have hA : DataW.TrodAll enc Tryz.prog W 0 (fun _ => true) true Tryz.f3.params.toList args.toList ds p := hA0; rw [Tryz.params3] at hA hval; obtain ⟨v0, d0, rfl, rfl, h0⟩ := trodAll_one hA; obtain ⟨a0, len, cap, rfl⟩ := okWide_slice Tryz.underlying22 (hval 0 22 v0 rfl rfl); obtain ⟨ea, ea2, hE⟩ := err_at hL
 have hlt : ∀ x ∈ p, x.block < W.heap.size := fun x hx => by simpa using hW'.lt x (List.mem_append_left _ hx)
 obtain ⟨cs, rfl, hin⟩ := openedCells h0; clear hA0 hval0
 refine (lawCc_any a0 cap cs W hin ea ea2 hE).mono fun e W' ⟨he, hB⟩ => ?_
 subst he; have hvar := Below.trodVars laidOut hB (by kernel_rfl) hV; have harg := Below.trod laidOut (by kernel_rfl) (of_decide_eq_true (by kernel_rfl)) h0 hB hlt
 obtain ⟨ga, gb, gc, rfl⟩ : ∃ ga gb gc, gs = [ga, gb, gc] := by
  match gs, hV with
  | [], h => exact h.elim
  | [_], ⟨_, _, _, _, _, _, _, _, _, _, h, _⟩ => exact h.elim
  | [_, _], ⟨_, _, _, _, _, _, _, _, _, _, ⟨_, _, _, _, _, _, _, _, _, _, h, _⟩, _⟩ => exact h.elim
  | [a, b, c], _ => exact ⟨a, b, c, rfl⟩
  | _ :: _ :: _ :: _ :: _, ⟨_, _, _, _, _, _, _, _, _, _, ⟨_, _, _, _, _, _, _, _, _, _, ⟨_, _, _, _, _, _, _, _, _, _, h, _⟩, _⟩, _⟩ => exact h.elim
 exact ⟨_, rfl, _, _, _, [], p, q, hW', trodAll_mk1 (shut_bool Tryz.underlying4 _), trodAll_mk1 harg, hvar, hB.frame _, fun h => by cases h⟩
theorem and2 {a b : Bool} (ha : a = true) (hb : b = true) : (a && b) = true := by rw [ha, hb]; rfl
theorem jfAll : joinedFacts Tryz.prog 3 Tryz.f3 Rows.fnExactCompileClauseSpec Rows.fnExactCompileClauseRow = true := by
 unfold joinedFacts
 exact (and2 (and2 (and2 (and2 (and2 (and2 (and2 (and2 (and2 (and2 (and2 (and2 (and2 (and2 (and2 (and2 (and2 (and2 (and2 (and2 (and2 (and2 (and2 (and2 (and2 (and2 (and2 (and2 (and2 (and2 (and2 jf0 jf1) jf2) jf3) jf4) jf5) jf6) jf7) jf8) jf9) jf10) jf11) jf12) jf13) jf14) jf15) jf16) jf17) jf18) jf19) jf20) jf21) jf22) jf23) jf24) jf25) jf26) jf27) jf28) jf29) jf30) jf31)
theorem fnExactCompileClause_row : Rows.FnExactCompileClauseSaid :=
 OpenClaim.holds_of_wide 3 Tryz.f3 rfl rfl rfl rfl rfl rfl rfl ⟨rfl, rfl, rfl, rfl, rfl⟩ rfl rfl rfl rfl rfl cf5 Tryz.func3 jfAll
  jfi jfw
  (fun os started H enc _ => cc_lifted os started H enc)
theorem cfHl : ∀ f fn, Tryz.pinned.checked.prog.funcNamed Rows.fnExactCompileClauseRow.func = some f → Tryz.pinned.checked.prog.funcs[f]? = some fn → Rows.fnExactCompileClauseCard.stood.looks = Tryz.pinned.checked.prog.looks [] ∧ ∀ (j : Nat) t, fn.params[j]? = some t → Tryz.pinned.checked.prog.wantsStandIn t = false := fun f fn hf hfn => by
 obtain rfl : f = 3 := Option.some.inj (cf5.symm.trans hf) |>.symm
 obtain rfl : fn = Tryz.f3 := (Option.some.inj (Tryz.func3.symm.trans hfn)).symm
 exact ⟨cf3, fun j t ht => by
  rw [Tryz.params3] at ht
  have hm : t ∈ [22] := by simpa using Array.mem_of_getElem? ht
  exact (show Tryz.prog.wantsStandIn t = false by simpa using List.all_eq_true.1 jfs t hm)⟩
theorem fnExactCompileClause_holds : Rows.FnExactCompileClauseCardSaid :=
 Claim7.holds_tied_plain_at .later [] kindsV true Rows.fnExactCompileClauseCard.stood.harness Rows.fnExactCompileClauseCard.stood.looks
  fnExactCompileClause_row (fun _ h => by cases h) cf1 (fun _ h => by cases h) fnExactCompileClause_row_tieV rfl ⟨rfl, rfl⟩ (by kernel_rfl) rfl cfHl cf4
#print axioms fnExactCompileClause_holds
end Go.Proofs.YtickbkcpcgmlmaaGreatDoor
