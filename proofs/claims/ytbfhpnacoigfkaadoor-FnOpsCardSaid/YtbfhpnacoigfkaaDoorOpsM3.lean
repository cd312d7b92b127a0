/- tableOf, add. Own work of the verifier. -/
import Derived.Test.YtbfhpnacoigfkaaDoorOpsM2
import Derived.Test.YtbfhpnacoigfkaaDoorRegK
namespace Go.Proofs.YtbfhpnacoigfkaaDoor
open Go Go.RowKit Go.Maps
set_option linter.unusedVariables false

theorem take_snoc (cs : List Cel) (k : Nat) (h : k < cs.length) : cs.take (k + 1) = cs.take k ++ [cs.getD k Cel.none] := by
  rw [List.take_succ_eq_append_getElem h, List.getD, List.getElem?_eq_getElem h]; rfl
theorem dropK_self {T : List Cel} {k : List UInt8 × Int} (h : ∀ x ∈ T, keyC x ≠ k) : dropK T k = T := List.filter_eq_self.2 (fun x hx => by simpa using h x hx)
theorem apart_take {cs : List Cel} (h : Apart cs) (k : Nat) (hk : k < cs.length) : ∀ x ∈ cs.take k, keyC x ≠ keyC (cs.getD k Cel.none) := fun x hx => by
  obtain ⟨i, hi, rfl⟩ := List.mem_iff_getElem.1 hx
  have hi' : i < k := by simp at hi; omega
  have := List.pairwise_iff_getElem.1 h i k (by omega) hk hi'
  rw [List.getElem_take, List.getD, List.getElem?_eq_getElem hk]
  exact this

theorem kkM {w1 w5 : World} {b g : Nat} {v0 v1 v2 : Value} (hg : w1.grownBy w5 (some b)) (h : w1.cell? ⟨g, 0, none⟩ = some v0 ∧ w1.cell? ⟨g, 1, none⟩ = some v1 ∧ w1.cell? ⟨g, 2, none⟩ = some v2) (hne : g ≠ b) : w5.cell? ⟨g, 0, none⟩ = some v0 ∧ w5.cell? ⟨g, 1, none⟩ = some v1 ∧ w5.cell? ⟨g, 2, none⟩ = some v2 := by
  have hlt : g < w1.heap.size := World.block_lt_of_cell? _ _ h.1
  have hc : ∀ o, w5.cell? ⟨g, o, none⟩ = w1.cell? ⟨g, o, none⟩ := fun o => World.cell?_of_block (hg.block _ hlt (by simpa using hne))
  exact ⟨(hc _).trans h.1, (hc _).trans h.2.1, (hc _).trans h.2.2⟩

set_option maxRecDepth 100000 in
set_option maxHeartbeats 2000000 in
theorem tableOf_any (p : Option Addr) (c : Nat) (cs : List Cel) (w : World) (hn : cs.length ≤ 1000000) (hok : ∀ x ∈ cs, okT x) (hap : Apart cs) (hc : OIn w p cs) :
    Calls Tryd.prog 35 #[.slice p cs.length c] w fun e w' => e = .returned (.map (some w.heap.size)) ∧ OpMap w' w.heap.size cs.length cs ∧ Below w.heap.size w w' := by
  have HC : Hid (OIn w p cs) := hc
  have HOK : Hid (∀ x ∈ cs, okT x) := hok
  have HAP : Hid (Apart cs) := hap
  have hmm := @run_makeMap Tryd.prog
  have HM0 : Hid (OpMap (w.alloc (.map #[] 0)) w.heap.size 0 []) := OpMap.made w
  have HB0 : Hid (Below w.heap.size w (w.alloc (.map #[] 0))) := (Below.refl _ _).alloc (Nat.le_refl _) _
  clear hc hok hap
  go_enter Tryd.func35, Tryd.ntmps35
  go_wp2_with fail
  clear hmm
  go_loopw [10] (fun i wr => ∃ k : Nat, k ≤ cs.length ∧ i = .int .i64 k ∧ Hid (OpMap wr w.heap.size k (cs.take k)) ∧ Hid (Below w.heap.size w wr)) (fun i _ => cs.length - (intOf i).toNat)
  case atStart => exact ⟨0, Nat.zero_le _, rfl, HM0, HB0⟩
  case round =>
    obtain ⟨k, hk, rfl, HM, HB⟩ := hrel
    by_cases hlt : k < cs.length
    · obtain ⟨g, o, rfl, hcs⟩ := HC.out (by omega)
      have hat := (hcs k hlt).below HB.out
      have hox : okT (cs.getD k Cel.none) := HOK.out _ (by rw [List.getD, List.getElem?_eq_getElem hlt]; exact List.getElem_mem hlt)
      have HT : Hid (dropK (cs.take k) (keyC (cs.getD k Cel.none)) ++ [cs.getD k Cel.none] = cs.take (k + 1)) := by show _ = _; rw [dropK_self (apart_take HAP.out k hlt), take_snoc cs k hlt]
      obtain ⟨x, ex⟩ : ∃ x, x = cs.getD k Cel.none := ⟨_, rfl⟩
      rw [← ex] at hat hox HT
      obtain ⟨q, qc, h0, h1, h2, h3⟩ := hat
      obtain ⟨x0, x1, x2⟩ := x
      simp only at h0 h1 h2 h3
      obtain ⟨l2, el2⟩ : ∃ l, l = x2.length := ⟨_, rfl⟩
      obtain ⟨sx, esx⟩ : ∃ s, s = strOfNums x2 := ⟨_, rfl⟩
      rw [← el2] at h2
      have hW : Below wr.heap.size wr (wr.alloc (Obj.cells #[.slice q l2 qc, .int .i64 x0, .int .i64 x1] 39)) := (Below.refl _ _).alloc (Nat.le_refl _) _
      have cv := conv_str (h3.below hW) l2 qc el2 9 Tryd.underlying9
      rw [← esx] at cv
      have hW2 : Below wr.heap.size wr ((wr.alloc (Obj.cells #[.slice q l2 qc, .int .i64 x0, .int .i64 x1] 39)).alloc (Obj.cells #[.string sx, .int .i64 x0, .int .i64 x1] 46)) := hW.alloc (by simp) _
      have G : Box3 ((wr.alloc (Obj.cells #[.slice q l2 qc, .int .i64 x0, .int .i64 x1] 39)).alloc (Obj.cells #[.string sx, .int .i64 x0, .int .i64 x1] 46)) (wr.heap.size + 1) (.string sx) (.int .i64 x0) (.int .i64 x1) := Box3.of_block (t := 46) (by
        have := heap_alloc_new (wr.alloc (Obj.cells #[.slice q l2 qc, .int .i64 x0, .int .i64 x1] 39)) (Obj.cells #[.string sx, .int .i64 x0, .int .i64 x1] 46)
        rw [World.size_alloc] at this
        exact this)
      have HMW : Hid (OpMap ((wr.alloc (Obj.cells #[.slice q l2 qc, .int .i64 x0, .int .i64 x1] 39)).alloc (Obj.cells #[.string sx, .int .i64 x0, .int .i64 x1] 46)) w.heap.size k (cs.take k)) := HM.out.below hW2
      have HBW : Hid (Below w.heap.size w ((wr.alloc (Obj.cells #[.slice q l2 qc, .int .i64 x0, .int .i64 x1] 39)).alloc (Obj.cells #[.string sx, .int .i64 x0, .int .i64 x1] 46))) := Below.on HB.out hW2
      have HG : Hid _ := G
      have HKY : Hid (keyOf Tryd.prog 69 (.agg #[.string sx, .int .i64 (srt x1)]) = some (okk (kO (x0, x1, x2)))) := by rw [esx]; exact keyOf_kO hox
      have HEV : Hid (opElem (.agg #[.string sx, .int .i64 x0, .int .i64 x1]) = some (encD (x0, x1, x2), [])) := by rw [esx]; exact opElem_enc (x0, x1, x2)
      have HOX : Hid (okT (x0, x1, x2)) := hox
      have HK := fun W => key_any sx x0 x1 W
      clear hcs h3 el2 esx ex hW hW2 G HM HC hox
      go_wp2_with fail
      obtain ⟨a0, a1, a2, _⟩ := HG.out
      clear HG
      generalize (wr.alloc (Obj.cells #[.slice q l2 qc, .int .i64 x0, .int .i64 x1] 39)).alloc (Obj.cells #[.string sx, .int .i64 x0, .int .i64 x1] 46) = W2 at *
      have hbl : w.heap.size < W2.heap.size := HMW.out.lt
      go_region_held3 (fun W => W.cell? ⟨wr.heap.size + 1, 0, none⟩ = some (.string sx) ∧ W.cell? ⟨wr.heap.size + 1, 1, none⟩ = some (.int .i64 x0) ∧ W.cell? ⟨wr.heap.size + 1, 2, none⟩ = some (.int .i64 x1))
        (first | exact kk5 | exact kk | go_keep)
        ((go_at_call 42; refine (HK _).mono ?_; rintro e w1 ⟨rfl, hb1⟩; have kk : w1.cell? ⟨wr.heap.size + 1, 0, none⟩ = some (.string sx) ∧ w1.cell? ⟨wr.heap.size + 1, 1, none⟩ = some (.int .i64 x0) ∧ w1.cell? ⟨wr.heap.size + 1, 2, none⟩ = some (.int .i64 x1) := ⟨(hb1.cell (World.block_lt_of_cell? _ _ a0)).trans a0, (hb1.cell (World.block_lt_of_cell? _ _ a1)).trans a1, (hb1.cell (World.block_lt_of_cell? _ _ a2)).trans a2⟩; obtain ⟨D, hD⟩ := HMW.out.below ((Below.refl _ _).drew.trans hb1); obtain ⟨w5, hrun5, hown5, hg5⟩ := hD.1.update lawOk Tryd.underlying43 (by unfold maxLen; omega) HKY.out HEV.out; have hM5 := OpMap.put HOX.out hD hown5; have kk5 : w5.cell? ⟨wr.heap.size + 1, 0, none⟩ = some (.string sx) ∧ w5.cell? ⟨wr.heap.size + 1, 1, none⟩ = some (.int .i64 x0) ∧ w5.cell? ⟨wr.heap.size + 1, 2, none⟩ = some (.int .i64 x1) := kkM hg5 kk (by have := HB.out.size; omega)))
      all_goals
        have HM5 : Hid (OpMap w5 w.heap.size (k + 1) (cs.take (k + 1))) := by rw [← HT.out]; exact hM5
        have HB5 : Hid (Below w.heap.size w w5) := (HBW.out.trans (((Below.refl _ _).drew.trans hb1).mono (Nat.le_of_lt hbl))).grown hg5 (Nat.le_trans (Nat.le_of_lt hbl) hb1.size) (fun j hj => by cases hj; exact Nat.le_refl _)
        clear kk kk5 hD hown5 hg5 hM5 hrun5
        go_wp2_with fail
        go_roundw
        case rel => exact ⟨k + 1, by omega, by go_num, HM5, HB5⟩
        case measure => simp [intOf]; omega
    · obtain rfl : k = cs.length := by omega
      have HM' : Hid (OpMap wr w.heap.size cs.length cs) := by have := HM.out; rwa [List.take_length] at this
      clear HC
      go_wp2_with fail
      go_ret
      exact ⟨rfl, HM'.out, HB.out⟩

end Go.Proofs.YtbfhpnacoigfkaaDoor
