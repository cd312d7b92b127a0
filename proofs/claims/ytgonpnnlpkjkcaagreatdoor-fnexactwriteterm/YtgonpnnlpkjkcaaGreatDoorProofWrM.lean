/- The row and the card of FnExactWriteTerm. Own work of the verifier. -/
import Derived.Test.YtgonpnnlpkjkcaaGreatDoorUqac
import Derived.Test.YtgonpnnlpkjkcaaGreatDoorTie
import Derived.Test.YtgonpnnlpkjkcaaGreatDoorCards
import Derived.Stop.Joined
import Derived.Lib.LaidTab
import Derived.SevenTiedAt
import Derived.LaidMore
import Derived.Test.YtgonpnnlpkjkcaaGreatDoorUqbo
import Derived.LaidHandle
import Derived.LaidSub
import Derived.Stop.LaidErr
import Derived.Carry
import Derived.OpenVars
namespace Go.Proofs.YtgonpnnlpkjkcaaGreatDoor
open Go Go.ChangeShapes Go.WideShapes Go.ChangeAt Go.WideMaps Go.WideElems Go.RowKit Go.Deep
set_option linter.unusedVariables false

theorem cellsOp : Tryz.prog.cellsOf 45 = 3 := by kernel_rfl
/-- A cell of a term, by its three cells. -/
theorem openedOpW {H : Type} {enc : TypeId × Value → H} {W : World} {fuel : Nat} {cs : List Value} {x : DataW H × List MemPlace}
    (h : DataW.trod enc Tryz.prog W 0 (fun _ => true) true fuel 45 cs = some x) :
    ∃ (k n : Int) (p : Option Addr) (cap : Nat) (xs : List Int), cs = [.slice p xs.length cap, .int .i64 k, .int .i64 n] ∧ xs.length ≤ 9223372036854775807 ∧ BIn W p xs ∧ (∀ y ∈ xs, 0 ≤ y ∧ y < 256) ∧
      (-9223372036854775808 ≤ k ∧ k ≤ 9223372036854775807 ∧ -9223372036854775808 ≤ n ∧ n ≤ 9223372036854775807) := by
  obtain ⟨y0, y1, y2, n, hx, hl, h0, h1, h2⟩ := trod_struct3 Tryz.underlying45 h
  rw [cellsOp] at hl
  obtain ⟨a, b, c, rfl⟩ := three_of hl
  simp only [cellsInt, cellsText, List.drop_zero, List.take_succ_cons, List.take_zero, List.drop_succ_cons] at h0 h1 h2
  obtain ⟨k, e0, _, w0⟩ := DataW.trod_int Tryz.underlying3 h1
  obtain ⟨m, e1, _, w1⟩ := DataW.trod_int Tryz.underlying3 h2
  obtain ⟨p, cap, xs, rfl, hlen, hin, hb⟩ := openedText h0
  obtain rfl : b = .int .i64 k := by simpa using e0
  obtain rfl : c = .int .i64 m := by simpa using e1
  exact ⟨k, m, p, cap, xs, rfl, hlen, hin, hb, (wf_i64 w0).1, (wf_i64 w0).2, (wf_i64 w1).1, (wf_i64 w1).2⟩

/-- A slice of cells that came in. -/
theorem openedOpsW {H : Type} {enc : TypeId × Value → H} {W : World} {a0 : Option Addr} {len cap : Nat} {d0 : DataW H} {p : List MemPlace}
    (h0 : DataW.Trod enc Tryz.prog W 0 (fun _ => true) true 22 (.slice a0 len cap) d0 p) : ∃ cs : List Cel, cs.length = len ∧ OArg W a0 cs := by
  obtain ⟨fuel, hf⟩ := h0
  rcases open_slice Tryz.underlying22 hf with ⟨hcs, hx⟩ | ⟨a, len', cap', m, n, D, Pl, hcs, hb, hl, hm, hmm, hx, hel⟩
  · simp [Value.cells] at hcs
    obtain ⟨rfl, rfl, rfl⟩ := hcs
    exact ⟨[], rfl, fun h => absurd h (Nat.lt_irrefl 0), by decide, fun i h => by simp at h, fun i h => by simp at h, fun i h => by simp at h⟩
  · simp [Value.cells] at hcs
    obtain ⟨rfl, rfl, rfl⟩ := hcs
    simp only [if_true] at hmm
    subst hmm
    unfold maxLen at hm
    obtain ⟨b, o, s⟩ := a
    have hs0 : ∀ i, i = 0 → i < len → s = none := fun i hi0 hlen => by
      obtain ⟨cs', hc, ht⟩ := hel i (by omega)
      obtain ⟨k, n', q, qc, xs, rfl, r1, r2, r3, r4⟩ := openedOpW ht
      rw [cellsOp] at hc
      have g0 := (World.cells?_some hc).2.2 0 (by decide)
      have g := World.cell?_spot g0
      rw [hi0] at g
      simpa [Addr.add] using g
    have each : ∀ i, i < len → ∃ c : Cel, s = none ∧ OAt W b (o + i * 3) c ∧ c.2.2.length ≤ 9223372036854775807 ∧ (∀ y ∈ c.2.2, 0 ≤ y ∧ y < 256) ∧ (-9223372036854775808 ≤ c.1 ∧ c.1 ≤ 9223372036854775807 ∧ -9223372036854775808 ≤ c.2.1 ∧ c.2.1 ≤ 9223372036854775807) := fun i hi => by
      obtain ⟨cs', hc, ht⟩ := hel i (by omega)
      obtain ⟨k, n', q, qc, xs, rfl, r1, r2, r3, r4⟩ := openedOpW ht
      rw [cellsOp] at hc
      have hs := (World.cells?_some hc).2.2
      have g0 := hs 0 (by decide)
      have g1 := hs 1 (by decide)
      have g2 := hs 2 (by decide)
      obtain rfl : s = none := hs0 0 rfl (by omega)
      simp only [add_plain] at g0 g1 g2
      exact ⟨(k, n', xs), rfl, ⟨q, qc, g1, g2, g0, r2⟩, r1, r3, r4⟩
    obtain ⟨f, hfx⟩ := choose_lt each
    have hat : ∀ i, i < len → ((List.range len).map f).getD i Cel.none = f i := fun i hi => getD_map_range f len i hi
    refine ⟨(List.range len).map f, by simp, fun hn => ?_, by simp; omega, fun i hi => ?_, fun i hi => ?_, fun i hi => ?_⟩
    · have hn' : 0 < len := by simpa using hn
      obtain rfl : s = none := (hfx 0 hn').1
      refine ⟨b, o, rfl, fun i hi => ?_⟩
      have hi' : i < len := by simpa using hi
      rw [hat i hi']
      exact (hfx i hi').2.1
    · have hi' : i < len := by simpa using hi
      rw [hat i hi']
      exact (hfx i hi').2.2.1
    · have hi' : i < len := by simpa using hi
      rw [hat i hi']
      exact (hfx i hi').2.2.2.1
    · have hi' : i < len := by simpa using hi
      rw [hat i hi']
      exact (hfx i hi').2.2.2.2


theorem getD_map_rangeN (f : Nat → List Int) (n i : Nat) (h : i < n) : ((List.range n).map f).getD i [] = f i := by
  simp [List.getD, h]
/-- A slice of slices of cells that came in. -/
theorem openedNN {H : Type} {enc : TypeId × Value → H} {W : World} {a0 : Option Addr} {len cap : Nat} {d0 : DataW H} {p : List MemPlace}
    (h0 : DataW.Trod enc Tryz.prog W 0 (fun _ => true) true 24 (.slice a0 len cap) d0 p) : ∃ css : List (List Int), css.length = len ∧ NArg W a0 css := by
  obtain ⟨fuel, hf⟩ := h0
  rcases open_slice Tryz.underlying24 hf with ⟨hcs, hx⟩ | ⟨a, len', cap', m, n, D, Pl, hcs, hb, hl, hm, hmm, hx, hel⟩
  · simp [Value.cells] at hcs
    obtain ⟨rfl, rfl, rfl⟩ := hcs
    exact ⟨[], rfl, fun h => absurd h (Nat.lt_irrefl 0), by decide, fun i h => by simp at h⟩
  · simp [Value.cells] at hcs
    obtain ⟨rfl, rfl, rfl⟩ := hcs
    simp only [if_true] at hmm
    subst hmm
    unfold maxLen at hm
    obtain ⟨b, o, s⟩ := a
    have each0 : ∀ i, i < len → ∃ c : List Int × Option Addr × Nat, W.cell? (((⟨b, o, s⟩ : Addr).add (i * 1)).add 0) = some (.slice c.2.1 c.1.length c.2.2) ∧ c.1.length ≤ 9223372036854775807 ∧ BIn W c.2.1 c.1 ∧ Byte c.1 := fun i hi => by
      obtain ⟨cs', hc, ht⟩ := hel i (by omega)
      have hc1 := World.cells?_some hc
      rw [cellsText] at hc hc1
      obtain ⟨v, rfl⟩ : ∃ v, cs' = [v] := by
        match cs', (show cs'.length = 1 by simpa using hc1.2.1) with
        | [v], _ => exact ⟨v, rfl⟩
      obtain ⟨q, qc, ys, rfl, h9, h8, h7⟩ := openedText ht
      have g0 := hc1.2.2 0 (by decide)
      exact ⟨(ys, q, qc), by simpa using g0, h9, h8, h7⟩
    obtain ⟨f, hfx⟩ := choose_lt each0
    have hat : ∀ i, i < len → ((List.range len).map (fun i => (f i).1)).getD i [] = (f i).1 := fun i hi => getD_map_rangeN (fun i => (f i).1) len i hi
    refine ⟨(List.range len).map (fun i => (f i).1), by simp, fun hn => ?_, by simp; omega, fun i hi => ?_⟩
    · have hn' : 0 < len := by simpa using hn
      have g := World.cell?_spot (hfx 0 hn').1
      obtain rfl : s = none := by simpa [Addr.add] using g
      refine ⟨b, o, rfl, fun i hi => ?_⟩
      have hi' : i < len := by simpa using hi
      rw [hat i hi']
      have g0 := (hfx i hi').1
      simp only [add_plain, Nat.mul_one, Nat.add_zero] at g0
      exact ⟨_, _, g0, (hfx i hi').2.2.1⟩
    · have hi' : i < len := by simpa using hi
      rw [hat i hi']
      exact ⟨(hfx i hi').2.1, (hfx i hi').2.2.2⟩



abbrev laidL : List (String × DataW Unit) := [("math/bits.deBruijn32tab", Rows.laid_math_bits_deBruijn32tab), ("math/bits.deBruijn64tab", Rows.laid_math_bits_deBruijn64tab), ("internal/strconv.uint64pow10", Rows.laid_internal_strconv_uint64pow10), ("loop.example/s00095/impl.charKinds", Rows.laid_loop_example_s00095_impl_charKinds)]
theorem gTab : Tryz.prog.globalNamed "loop.example/s00095/impl.charKinds" = some 2 := by kernel_rfl
theorem tTab : (Tryz.prog.globals[2]?).map (·.type) = some 159 := by kernel_rfl
theorem cellsKind : Tryz.prog.cellsOf 148 = 1 := by kernel_rfl
theorem cellsTab : Tryz.prog.cellsOf 159 = 128 := by kernel_rfl
theorem datumTab : (Rows.laid_loop_example_s00095_impl_charKinds : DataW Unit) = Lib.tabData .u8 tab := by rfl
theorem gPow : Tryz.prog.globalNamed "internal/strconv.uint64pow10" = some 1 := by kernel_rfl
theorem tPow : (Tryz.prog.globals[1]?).map (·.type) = some 155 := by kernel_rfl
theorem cellsU64 : Tryz.prog.cellsOf 142 = 1 := by kernel_rfl
theorem cellsPow : Tryz.prog.cellsOf 155 = 20 := by kernel_rfl
theorem datumPow : (Rows.laid_internal_strconv_uint64pow10 : DataW Unit) = Lib.tabData .u64 Lib.pow10Tab := by rfl
theorem tabs_of {W : World} (h : laidMetH Tryz.prog laidL W) : Tab W ∧ TabP W := by
  rw [MakeChecks.laidMetH_plain _ _ _ (by kernel_rfl)] at h
  have h2 := laidMet.tail (laidMet.tail h)
  have h3 := laidMet.tail h2
  rw [datumPow] at h2
  rw [datumTab] at h3
  have hT := Lib.tabIs_of_head (k := .u8) (zs := tab) gTab tTab Tryz.underlying159 Tryz.underlying148 cellsKind cellsTab h3
  have hP := Lib.tabIs_of_head (k := .u64) (zs := Lib.pow10Tab) gPow tPow Tryz.underlying155 Tryz.underlying142 cellsU64 cellsPow h2
  exact ⟨fun i hi => hT.cell gTab i hi, hP⟩
theorem door_metL (os : Os) (args : Array Value) : laidMetH Tryz.prog laidL ((World.doorLaid Tryz.prog 400 os).forCall (fun _ _ => 0) ⟨#[], args, []⟩).memory :=
  laidMetH_of_parts3 (fuel := 8) (laidMet_of_run' 8 (by kernel_rfl) (by kernel_rfl)) (by kernel_rfl) (by kernel_rfl)
/-- The one named variable read again behind a call that keeps what lay below. -/
theorem vars_again {H : Type} {enc : TypeId × Value → H} {W W' : World} {gs : List (DataW H)} {q : List MemPlace} (hT : Tab W) (hB : Below W.heap.size W W') (hlt : ∀ x ∈ q, x.block < W.heap.size)
    (hV : DataW.TrodVars enc Tryz.prog W (fun _ => true) ["loop.example/s00095/impl.charKinds"] gs q) :
    ∃ d pv, gs = [d] ∧ DataW.TrodVars enc Tryz.prog W' (fun b => decide (b < W.heap.size)) ["loop.example/s00095/impl.charKinds"] [d] pv := by
  obtain ⟨g, t, cs, fuel, d, p, rfl, hg, ht, hv, hd, rfl⟩ := trodVars_one hV
  obtain rfl := Option.some.inj (gTab.symm.trans hg)
  obtain rfl := Option.some.inj (tTab.symm.trans ht)
  have hg0 : 2 < W.heap.size := World.block_lt_of_cell? _ _ (hT 0 (by decide))
  have hv' := var?_below hB hg hg0 hv
  have h0 : DataW.Trod enc Tryz.prog W 0 (fun _ => true) true 159 (.agg cs) d p := ⟨fuel, by simpa [Value.cells] using hd⟩
  obtain ⟨fuel', h1⟩ := Below.trod laidOut (by kernel_rfl) (of_decide_eq_true (by kernel_rfl)) h0 hB (fun x hx => hlt x (List.mem_append_right _ hx))
  exact ⟨d, _, rfl, trodVars_mk1 hg ht hv' (by simpa [Value.cells] using h1)⟩

set_option maxHeartbeats 800000 in
set_option maxRecDepth 100000 in
theorem wr_lifted (os : Os) (started : os.Started) (H : Type) (enc : TypeId × Value → H) :
    ReturnsInHanded {} Tryz.checked os 3 .any (fun w args => (Rows.fnExactWriteTermSpec.pre enc Tryz.prog Tryz.f3 [] false w args ∧ laidMetH Tryz.prog laidL w) ∧ sizedMet enc Tryz.prog Tryz.f3 (OpenSpec.ofChange Rows.fnExactWriteTermSpec) false w args)
      (Rows.fnExactWriteTermSpec.post enc Tryz.prog Tryz.f3 false true false false) := by
  refine returnsInHanded_of_change_and (C := Tryz.checked) (X := fun w _ => laidMetH Tryz.prog laidL w) (fun _ _ _ hh h => h.of_heap hh) own started (by kernel_rfl) Tryz.func3
    (ChangeSpec.witness_shaped (enc := enc) (C := Tryz.checked) (os := os) (X := fun w _ => laidMetH Tryz.prog laidL w) false (World.doorLaid Tryz.prog 400 os) #[.slice none 0 0, .slice none 0 0, .slice none 0 0, .bool false] 8 rfl (World.shaped_of_RefB (by kernel_rfl) (by kernel_rfl)) (by kernel_rfl) (by kernel_rfl) (by kernel_rfl) (door_metL os _)) ?_
  intro W base args ds gs before hval0 hW _ _ hL _
  have hval : ∀ (j : Nat) t v, Tryz.f3.params[j]? = some t → args[j]? = some v → Value.okWide Tryz.prog W .any base t v := hval0
  have hW' := hW
  obtain ⟨p, q, hA0, hV, rfl, hfz, hnd⟩ := hW
  have hA : DataW.TrodAll enc Tryz.prog W 0 (fun _ => true) true Tryz.f3.params.toList args.toList ds p := hA0
  rw [Tryz.params3] at hA hval
  obtain ⟨v0, v1, v2, v3, d0, d1, d2, d3, p0, p1, p2, p3, rfl, rfl, rfl, h0, h1, h2, h3⟩ := trodAll_four hA
  obtain ⟨a0, len0, cap0, rfl⟩ := okWide_slice Tryz.underlying22 (hval 0 22 v0 rfl rfl)
  obtain ⟨a1, len1, cap1, rfl⟩ := okWide_slice Tryz.underlying23 (hval 1 23 v1 rfl rfl)
  obtain ⟨a2, len2, cap2, rfl⟩ := okWide_slice Tryz.underlying24 (hval 2 24 v2 rfl rfl)
  obtain ⟨bq, rfl⟩ := okWide_bool Tryz.underlying4 (hval 3 4 v3 rfl rfl)
  obtain ⟨hT, hP⟩ := tabs_of hL
  have hlt : ∀ x ∈ p0 ++ p1 ++ p2 ++ p3 ++ q, x.block < W.heap.size := fun x hx => by simpa using hW'.lt x (by simpa using hx)
  have hlt0 : ∀ x ∈ p0, x.block < W.heap.size := fun x hx => hlt x (by simp [hx])
  have hlt1 : ∀ x ∈ p1, x.block < W.heap.size := fun x hx => hlt x (by simp [hx])
  have hlt2 : ∀ x ∈ p2, x.block < W.heap.size := fun x hx => hlt x (by simp [hx])
  have hlt3 : ∀ x ∈ p3, x.block < W.heap.size := fun x hx => hlt x (by simp [hx])
  have hltq : ∀ x ∈ q, x.block < W.heap.size := fun x hx => hlt x (by simp [hx])
  obtain ⟨T, rfl, hin⟩ := openedOpsW h0
  obtain ⟨xs, rfl, hin2⟩ := openedCells h1
  obtain ⟨N, rfl, hin3⟩ := openedNN h2
  clear hA0 hval0
  refine (lawWr_any a0 cap0 T a1 cap1 xs a2 cap2 N bq W hin hin2 hin3 hT hP).mono fun e W' ⟨he, hB⟩ => ?_
  subst he
  obtain ⟨d, pv, rfl, hvar⟩ := vars_again hT hB hltq hV
  have harg0 := Below.trod laidOut (by kernel_rfl) (of_decide_eq_true (by kernel_rfl)) h0 hB hlt0
  have harg1 := Below.trod laidOut (by kernel_rfl) (of_decide_eq_true (by kernel_rfl)) h1 hB hlt1
  have harg2 := Below.trod laidOut (by kernel_rfl) (of_decide_eq_true (by kernel_rfl)) h2 hB hlt2
  have harg3 := Below.trod laidOut (by kernel_rfl) (of_decide_eq_true (by kernel_rfl)) h3 hB hlt3
  exact ⟨_, rfl, _, _, _, [], p0 ++ (p1 ++ (p2 ++ p3)), pv, hW', trodAll_mk1 (shut_bool Tryz.underlying4 _), trodAll_mk4 harg0 harg1 harg2 harg3, hvar, hB.frame _, fun h => by cases h⟩

theorem fnExactWriteTerm_row : Rows.FnExactWriteTermSaid :=
  OpenClaim.holds_of_wide 3 Tryz.f3 rfl rfl rfl rfl rfl rfl rfl ⟨rfl, rfl, rfl, rfl, rfl⟩ rfl rfl rfl rfl rfl (by kernel_rfl) Tryz.func3 (by kernel_rfl)
    (of_decide_eq_true (by kernel_rfl)) (by unfold Func.isWrapper; first | (rw [if_pos (by decide +kernel)]; kernel_rfl) | (rw [if_neg (by decide +kernel)]; exact ⟨rfl, rfl⟩))
    (fun os started H enc _ => wr_lifted os started H enc)

theorem fnExactWriteTerm_holds : Rows.FnExactWriteTermCardSaid :=
  Claim7.holds_tied_plain_at .later [] [.data, .data, .data, .data] true Rows.fnExactWriteTermCard.stood.harness Rows.fnExactWriteTermCard.stood.looks
    fnExactWriteTerm_row (fun _ h => by cases h) (by kernel_rfl) (fun _ h => by cases h) fnExactWriteTerm_row_tie rfl ⟨rfl, rfl⟩ (by kernel_rfl) rfl
    (fun f fn hf hfn => by
      obtain rfl : f = 3 := Option.some.inj ((show Tryz.prog.funcNamed "loop.example/s00095/laws.FnExactWriteTerm" = some 3 by kernel_rfl).symm.trans hf) |>.symm
      obtain rfl : fn = Tryz.f3 := (Option.some.inj (Tryz.func3.symm.trans hfn)).symm
      exact ⟨by kernel_rfl, fun j t ht => by
        rw [Tryz.params3] at ht
        have hm : t ∈ [22, 23, 24, 4] := by simpa using Array.mem_of_getElem? ht
        have hall : ([22, 23, 24, 4].all fun u => !Tryz.prog.wantsStandIn u) = true := by kernel_rfl
        exact (show Tryz.prog.wantsStandIn t = false by simpa using List.all_eq_true.1 hall t hm)⟩)
    (by kernel_rfl)
#print axioms fnExactWriteTerm_holds

end Go.Proofs.YtgonpnnlpkjkcaaGreatDoor
