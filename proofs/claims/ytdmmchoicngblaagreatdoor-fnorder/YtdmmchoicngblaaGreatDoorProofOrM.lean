/- The row and the card of FnOrder. Own work of the verifier. -/
import Derived.Test.YtdmmchoicngblaaGreatDoorCards
import Derived.Test.YtdmmchoicngblaaGreatDoorUqaz
import Derived.Test.YtdmmchoicngblaaGreatDoorFwTh
import Derived.Test.YtdmmchoicngblaaGreatDoorFwD
import Derived.Test.YtdmmchoicngblaaGreatDoorFwFa
import Derived.Test.YtdmmchoicngblaaGreatDoorFwFb
import Derived.Test.YtdmmchoicngblaaGreatDoorFwFc
import Derived.Test.YtdmmchoicngblaaGreatDoorFwFd
import Derived.Test.YtdmmchoicngblaaGreatDoorFwFe
import Derived.Test.YtdmmchoicngblaaGreatDoorFwFf
import Derived.Test.YtdmmchoicngblaaGreatDoorFwFg
import Derived.Test.YtdmmchoicngblaaGreatDoorFwFi
import Derived.Test.YtdmmchoicngblaaGreatDoorFwFk
import Derived.Lib.LaidTab
import Derived.Lib.LaidU8
import Derived.Carry
import Derived.LaidSub
import Derived.Stop.LaidTwo
import Derived.Stop.LaidErr
import Derived.Stop.Texts
import Derived.Shelf.Vars
import Derived.Deep.Slices
import Derived.Deep.Strs
namespace Go.Proofs.YtdmmchoicngblaaGreatDoor
set_option maxRecDepth 100000
open Go Go.ChangeShapes Go.WideShapes Go.ChangeAt Go.WideMaps Go.WideElems Go.RowKit Go.Kit Go.Deep
set_option linter.unusedVariables false
theorem own : ownKnob Tryz.prog.godebug = none := by kernel_rfl
theorem laidOut : laidOutB Tryz.prog = true := by kernel_rfl
theorem cellsByteD : Tryz.prog.cellsOf 5 = 1 := by kernel_rfl
theorem openedCode {H : Type} {enc : TypeId × Value → H} {W : World} {a0 : Option Addr} {len cap : Nat} {d0 : DataW H} {p : List MemPlace}
  (h0 : DataW.Trod enc Tryz.prog W 0 (fun _ => true) true 22 (.slice a0 len cap) d0 p) :
  ∃ xs : List Int, xs.length = len ∧ len ≤ cap ∧ len ≤ 9223372036854775807 ∧ BIn W a0 xs ∧ Bytes xs := by
 obtain ⟨fuel, hf⟩ := h0
 rcases open_ints Tryz.underlying22 Tryz.underlying5 cellsByteD hf with ⟨hcs, hx⟩ | ⟨a, len', cap', zs, hcs, _, hl, hm, hz, hx, hcell, hwz⟩
 ·simp [Value.cells] at hcs
  obtain ⟨rfl, rfl, rfl⟩ := hcs; exact ⟨[], rfl, Nat.le_refl _, by decide, fun h => absurd h (Nat.lt_irrefl 0), fun x hx => by cases hx⟩
 ·simp [Value.cells] at hcs
  obtain ⟨rfl, rfl, rfl⟩ := hcs; simp only [if_true] at hz
  unfold maxLen at hm
  refine ⟨zs.take len, by simp; omega, hl, by omega, fun hn => ?_, fun x hx' => ?_⟩
  ·have hn' : 0 < zs.length := by simp at hn; omega
   obtain ⟨b, o, s⟩ := a
   obtain rfl : s = none := by simpa [Addr.add] using World.cell?_spot (hcell 0 hn')
   refine ⟨b, o, rfl, fun i hi => ?_⟩
   have hi' : i < len := by simp at hi; omega
   have := hcell i (by omega); rw [add_plain] at this; rw [this]
   simp [List.getD, hi']
  ·have h := hwz x (List.mem_of_mem_take hx')
   have h1 : IntKind.u8.min = 0 := rfl; have h2 : IntKind.u8.max = 255 := rfl; simp only [Lit.wf, Bool.and_eq_true, decide_eq_true_eq] at h
   omega
theorem gErr : Tryz.prog.globalNamed "errors.errorType" = some 4 := by kernel_rfl
theorem tRt : (Tryz.prog.cutTypes.find? (·.1 == "internal/reflectlite.rtype")).map (·.2) = some 297 := by kernel_rfl
theorem oneErr : ((List.range Tryz.prog.types.size).filter fun t => Tryz.prog.rowNamed t [101, 114, 114, 111, 114]) = [126] := by kernel_rfl
theorem hdErr : typeHandle Tryz.prog 126 = .pointer (some ⟨11, 126, none⟩) := by kernel_rfl
theorem handV : (laidV.filter fun x => x.2.handleName?.isSome) = [("errors.errorType", Rows.laid_errors_errorType)] := by rfl
theorem et_of {W : World} (h : laidMetH Tryz.prog laidV W) : etG W := by
 have h2 := (laidMetH_iff.1 h).2; rw [handV] at h2; obtain ⟨name, u, ty, e1, e2, e3, e4, e5⟩ := h2 _ (List.mem_singleton.2 rfl); have en : name = [101, 114, 114, 111, 114] := (Option.some.inj e1).symm; subst en; obtain rfl := Option.some.inj (tRt.symm.trans e2)
 have hm : ty ∈ (List.range Tryz.prog.types.size).filter fun t => Tryz.prog.rowNamed t [101, 114, 114, 111, 114] := List.mem_filter.2 ⟨List.mem_range.2 e3, e4⟩
 rw [oneErr] at hm; obtain rfl := List.mem_singleton.1 hm; rw [hdErr] at e5
 simpa using World.var?_cell gErr e5 0
theorem gFails : Tryz.prog.globalNamed "loop.example/s00095/impl.errFails" = some 1 := by kernel_rfl
theorem gBeyond : Tryz.prog.globalNamed "loop.example/s00095/impl.errBeyond" = some 2 := by kernel_rfl
theorem gFailsT : (Tryz.prog.globals[1]?).map (·.type) = some 126 := by kernel_rfl
theorem gBeyondT : (Tryz.prog.globals[2]?).map (·.type) = some 126 := by kernel_rfl
theorem cellsES : Tryz.prog.cellsOf 490 = 1 := by kernel_rfl
theorem cellsSt : Tryz.prog.cellsOf 9 = 1 := by kernel_rfl
theorem starES : "*" ++ "errors.errorString" = "*errors.errorString" := by decide
theorem rowES (u : TypeId) (h : Tryz.prog.typeName? 3 u = some "*errors.errorString") : u = 465 :=
 typeName_ptr_named (nm := "errors.errorString") (by rw [starES]; kernel_rfl) (by kernel_rfl) (by decide) u (by rw [starES]; exact h)
theorem laidTwoV : ((laidV.filter fun x => x.2.handleName?.isNone).filter fun x => x.1 == "loop.example/s00095/impl.errFails" || x.1 == "loop.example/s00095/impl.errBeyond") = [("loop.example/s00095/impl.errFails", Rows.laid_loop_example_s00095_impl_errFails), ("loop.example/s00095/impl.errBeyond", Rows.laid_loop_example_s00095_impl_errBeyond)] := by rfl
theorem two_at {W : World} (h : laidMetH Tryz.prog laidV W) : ∃ a a2, W.cell? ⟨1, 0, none⟩ = some (erV a) ∧ W.cell? ⟨2, 0, none⟩ = some (erV a2) := by
 have h2 := ((laidMetH_iff.1 h).1).filter fun x => x.1 == "loop.example/s00095/impl.errFails" || x.1 == "loop.example/s00095/impl.errBeyond"
 rw [laidTwoV] at h2; obtain ⟨a0, a1, s0, s1, c0, c1, t0, t1, hv0, hv1, hc0, hs0, hz0, hc1, hs1, hz1, hne, hb0, hb1⟩ := laid_sentinels2 h2 gFails gFailsT gBeyond gBeyondT Tryz.underlying126 rowES Tryz.underlying465 Tryz.underlying490 rfl rfl Tryz.underlying9 cellsES cellsSt; exact ⟨a0, a1, by simpa using World.var?_cell gFails hv0 0, by simpa using World.var?_cell gBeyond hv1 0⟩
theorem gSp : Tryz.prog.globalNamed "strings.asciiSpace" = some 0 := by kernel_rfl
theorem tSp : (Tryz.prog.globals[0]?).map (·.type) = some 110 := by kernel_rfl
theorem cellsSp : Tryz.prog.cellsOf 110 = 256 := by kernel_rfl
theorem datumSp : (Rows.laid_strings_asciiSpace : DataW Unit) = Lib.tabData .u8 Lib.asciiSpaceTab := by kernel_rfl
theorem spIn : ("strings.asciiSpace", (Rows.laid_strings_asciiSpace : DataW Unit)) ∈ laidV.filter fun x => x.2.handleName?.isNone := List.mem_filter.2 ⟨List.mem_cons_self .., by rfl⟩
theorem sp_of {W : World} (h0 : laidMetH Tryz.prog laidV W) : SpIn W := by
 have h := (laidMetH_iff.1 h0).1; obtain ⟨g, t, cs, fuel, p, hg, ht, hvar, hd⟩ := Lib.laidMet.reads h (n := "strings.asciiSpace") (d := Rows.laid_strings_asciiSpace) spIn; obtain rfl := Option.some.inj (gSp.symm.trans hg); obtain rfl := Option.some.inj (tSp.symm.trans ht); rw [datumSp] at hd
 have hT : Lib.TabIs Tryz.prog W "strings.asciiSpace" .u8 Lib.asciiSpaceTab := by
  unfold Lib.TabIs
  rw [hvar, ← Lib.cells_of_tab Tryz.underlying110 Tryz.underlying5 cellsByteD cellsSp hd]
 intro c hc
 rw [hT.cell gSp c (by rw [Lib.asciiSpaceTab_length]; exact hc), Lib.asciiSpaceTab_at c hc]
set_option maxHeartbeats 800000 in
theorem or_lifted (os : Os) (started : os.Started) (H : Type) (enc : TypeId × Value → H) :
  ReturnsInHanded {} Tryz.checked os 3 .any (fun w args => (Rows.fnOrderSpec.pre enc Tryz.prog Tryz.f3 [] false w args ∧ laidMetH Tryz.prog laidV w) ∧ sizedMet enc Tryz.prog Tryz.f3 (OpenSpec.ofChange Rows.fnOrderSpec) false w args)
   (Rows.fnOrderSpec.post enc Tryz.prog Tryz.f3 false true false false) := by
 refine returnsInHanded_of_change_and (C := Tryz.checked) (X := fun w _ => laidMetH Tryz.prog laidV w) (fun _ _ _ hh h => h.of_heap hh) own started (by kernel_rfl) Tryz.func3
  (ChangeSpec.witness_shaped (enc := enc) (C := Tryz.checked) (os := os) (X := fun w _ => laidMetH Tryz.prog laidV w) false (World.doorLaid Tryz.prog 400 os) #[.slice none 0 0] 8 rfl (World.shaped_of_RefB (by kernel_rfl) (by kernel_rfl)) (by kernel_rfl) (by kernel_rfl) (by kernel_rfl) (door_metV os _)) ?_
 intro W base args ds gs before hval0 hW _ _ hL _
 have hval : ∀ (j : Nat) t v, Tryz.f3.params[j]? = some t → args[j]? = some v → Value.okWide Tryz.prog W .any base t v := hval0; have hW' := hW; obtain ⟨p, q, hA0, hV, rfl, hfz, hnd⟩ := hW; have hA : DataW.TrodAll enc Tryz.prog W 0 (fun _ => true) true Tryz.f3.params.toList args.toList ds p := hA0; rw [Tryz.params3] at hA hval; obtain ⟨v0, d0, rfl, rfl, h0⟩ := trodAll_one hA; obtain ⟨a0, len, cap, rfl⟩ := okWide_slice Tryz.underlying22 (hval 0 22 v0 rfl rfl); obtain ⟨ea, ea2, hE1, hE2⟩ := two_at hL
 have hlt : ∀ x ∈ p, x.block < W.heap.size := fun x hx => by simpa using hW'.lt x (List.mem_append_left _ hx)
 obtain ⟨xs, hxl, hc, hm, hin, hb⟩ := openedCode h0; have hET := et_of hL; have hSP := sp_of hL; clear hA0 hval0
 refine (lawOr_any a0 cap len xs ea ea2 W hxl.symm hb hc hm hin ⟨hE1, hE2, hET, hSP⟩).mono fun e W' ⟨he, hB⟩ => ?_
 subst he; have hvar := Below.trodVars laidOut hB (by kernel_rfl) hV; have harg := Below.trod laidOut (by kernel_rfl) (of_decide_eq_true (by kernel_rfl)) h0 hB hlt
 obtain ⟨ga, gb, gc, rfl⟩ : ∃ ga gb gc, gs = [ga, gb, gc] := by
  match gs, hV with
  | [], h => exact h.elim
  | [_], ⟨_, _, _, _, _, _, _, _, _, _, h, _⟩ => exact h.elim
  | [_, _], ⟨_, _, _, _, _, _, _, _, _, _, ⟨_, _, _, _, _, _, _, _, _, _, h, _⟩, _⟩ => exact h.elim
  | [a, b, c], _ => exact ⟨a, b, c, rfl⟩
  | _ :: _ :: _ :: _ :: _, ⟨_, _, _, _, _, _, _, _, _, _, ⟨_, _, _, _, _, _, _, _, _, _, ⟨_, _, _, _, _, _, _, _, _, _, h, _⟩, _⟩, _⟩ => exact h.elim
 exact ⟨_, rfl, _, _, _, [], p, q, hW', trodAll_mk1 (shut_bool Tryz.underlying4 _), trodAll_mk1 harg, hvar, hB.frame _, fun h => by cases h⟩
theorem and2 {a b : Bool} (ha : a = true) (hb : b = true) : (a && b) = true := by rw [ha, hb]; rfl
theorem jfAll : joinedFacts Tryz.prog 3 Tryz.f3 Rows.fnOrderSpec Rows.fnOrderRow = true := by
 unfold joinedFacts
 exact (and2 (and2 (and2 (and2 (and2 (and2 (and2 (and2 (and2 (and2 (and2 (and2 (and2 (and2 (and2 (and2 (and2 (and2 (and2 (and2 (and2 (and2 (and2 (and2 (and2 (and2 (and2 (and2 (and2 (and2 (and2 jf0 jf1) jf2) jf3) jf4) jf5) jf6) jf7) jf8) jf9) jf10) jf11) jf12) jf13) jf14) jf15) jf16) jf17) jf18) jf19) jf20) jf21) jf22) jf23) jf24) jf25) jf26) jf27) jf28) jf29) jf30) jf31)
theorem fnOrder_row : Rows.FnOrderSaid :=
 OpenClaim.holds_of_wide 3 Tryz.f3 rfl rfl rfl rfl rfl rfl rfl ⟨rfl, rfl, rfl, rfl, rfl⟩ rfl rfl rfl rfl rfl cf5 Tryz.func3 jfAll
  jfi jfw
  (fun os started H enc _ => or_lifted os started H enc)
theorem cfHl : ∀ f fn, Tryz.pinned.checked.prog.funcNamed Rows.fnOrderRow.func = some f → Tryz.pinned.checked.prog.funcs[f]? = some fn → Rows.fnOrderCard.stood.looks = Tryz.pinned.checked.prog.looks [] ∧ ∀ (j : Nat) t, fn.params[j]? = some t → Tryz.pinned.checked.prog.wantsStandIn t = false := fun f fn hf hfn => by
 obtain rfl : f = 3 := Option.some.inj (cf5.symm.trans hf) |>.symm
 obtain rfl : fn = Tryz.f3 := (Option.some.inj (Tryz.func3.symm.trans hfn)).symm
 exact ⟨cf3, fun j t ht => by
  rw [Tryz.params3] at ht
  have hm : t ∈ [22] := by simpa using Array.mem_of_getElem? ht
  exact (show Tryz.prog.wantsStandIn t = false by simpa using List.all_eq_true.1 jfs t hm)⟩
theorem fnOrder_holds : Rows.FnOrderCardSaid :=
 Claim7.holds_tied_plain_at .later [] kindsV true Rows.fnOrderCard.stood.harness Rows.fnOrderCard.stood.looks
  fnOrder_row (fun _ h => by cases h) cf1 (fun _ h => by cases h) fnOrder_row_tieV rfl ⟨rfl, rfl⟩ (by kernel_rfl) rfl cfHl cf4
#print axioms fnOrder_holds
end Go.Proofs.YtdmmchoicngblaaGreatDoor
