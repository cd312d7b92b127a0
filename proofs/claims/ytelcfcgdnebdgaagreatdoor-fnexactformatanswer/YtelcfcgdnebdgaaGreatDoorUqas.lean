/- Texts of WiI, RegK3, WiJ, WiK. Own work of the verifier. -/
import Derived.Test.YtelcfcgdnebdgaaGreatDoorUqar
import Derived.Test.YtelcfcgdnebdgaaGreatDoorUqao
import Derived.Deep.RegionLaw
import Derived.Deep.Cut
import Derived.Test.YtelcfcgdnebdgaaGreatDoorUqaf
namespace Go.Proofs.YtelcfcgdnebdgaaGreatDoor
open Go Go.RowKit
set_option linter.unusedVariables false
theorem wiA_var (w : World) (x : Value) : (Instr.typeAssert (.iface 103 x) 79 108 true).run Tryz.prog w = .ok (.tuple #[.pointer none, .bool false]) w := by kernel_rfl
theorem wiA_num (w : World) (x : Value) : (Instr.typeAssert (.iface 105 x) 79 108 true).run Tryz.prog w = .ok (.tuple #[.pointer none, .bool false]) w := by kernel_rfl
theorem wiA_atom (w : World) (x : Value) : (Instr.typeAssert (.iface 106 x) 79 108 true).run Tryz.prog w = .ok (.tuple #[.pointer none, .bool false]) w := by kernel_rfl
theorem wiA_comp (w : World) (x : Value) : (Instr.typeAssert (.iface 108 x) 79 108 true).run Tryz.prog w = .ok (.tuple #[x, .bool true]) w := by kernel_rfl
theorem three_cells {w5 : World} {g : Nat} {a b c : Value} {t : TypeId} (h : w5.heap[g]? = some (.cells #[a, b, c] t (0, 0))) : w5.cell? ⟨g, 0, none⟩ = some a ∧ w5.cell? ⟨g, 1, none⟩ = some b ∧ w5.cell? ⟨g, 2, none⟩ = some c ∧ w5.frozen? ⟨g, 0, none⟩ = false ∧ w5.frozen? ⟨g, 1, none⟩ = false ∧ w5.frozen? ⟨g, 2, none⟩ = false := by
  refine ⟨cell_of_row _ _ 0 _ _ _ h, cell_of_row _ _ 1 _ _ _ h, cell_of_row _ _ 2 _ _ _ h, ?_, ?_, ?_⟩
  all_goals (unfold World.frozen?; rw [h]; rfl)
set_option maxRecDepth 100000 in
theorem functorW_any (b g q : Nat) (str : ByteArray) (w : World) (h0 : w.cell? ⟨b, 0, none⟩ = some (.string str)) (h1 : w.cell? ⟨b, 1, none⟩ = some (.slice (some ⟨g, 0, none⟩) q q)) :
    Calls Tryz.prog 91 #[.pointer (some ⟨b, 0, none⟩)] w fun e w' => e = .returned (.agg #[.string str, .int .i64 q]) ∧ Below w.heap.size w w' := by
  have a0 : ∀ x, (w.alloc x).cell? ⟨b, 0, none⟩ = some (.string str) := fun x => Lib.cell?_alloc_marked x h0
  have a1 : ∀ x, (w.alloc x).cell? ⟨b, 1, none⟩ = some (.slice (some ⟨g, 0, none⟩) q q) := fun x => Lib.cell?_alloc_marked x h1
  go_enter Tryz.func91, Tryz.ntmps91
  go_wp2_with fail
  go_region
  all_goals go_wp2_with fail
  all_goals exact bodyPost_ret (v := .agg #[.string str, .int .i64 q]) (by simp [results, Tryz.results91, go_sem]) rfl ⟨rfl, ((Below.refl _ _).alloc (Nat.le_refl _) _).drew⟩
def WwOut (w : World) (T : List Cel) (i : Int) (e : Ending) (w' : World) : Prop :=
  ∃ so po to, e = .returned (.tuple #[.agg #[.string so, .int .i64 po, .int .i64 to], .bool (decide (0 ≤ i))]) ∧ (0 ≤ i → (Value.agg #[.string so, .int .i64 po, .int .i64 to]) = encV (opW T i)) ∧ Below w.heap.size w w'
set_option maxRecDepth 100000 in
theorem ww_var (m : Option Nat) (x : Value) (T : List Cel) (w : World) : Calls Tryz.prog 88 #[.map m, .iface 103 x] w (WwOut w T (-1)) := by
  have n1 := wiA_var
  have HF : Hid (∀ W, Below w.heap.size w W → WwOut w T (-1) (.returned (.tuple #[.agg #[.string ⟨#[]⟩, .int .i64 0, .int .i64 0], .bool false])) W) := fun W hW => ⟨_, _, _, rfl, fun h => absurd h (by decide), hW⟩
  go_enter Tryz.func88, Tryz.ntmps88
  go_wp2_with fail
  exact bodyPost_ret (v := .tuple #[.agg #[.string ⟨#[]⟩, .int .i64 0, .int .i64 0], .bool false]) (by simp [results, Tryz.results88, go_sem]) rfl (HF.out _ ((Below.refl _ _).alloc (Nat.le_refl _) _))
set_option maxRecDepth 100000 in
theorem ww_num (m : Option Nat) (x : Value) (T : List Cel) (w : World) : Calls Tryz.prog 88 #[.map m, .iface 105 x] w (WwOut w T (-1)) := by
  have n1 := wiA_num
  have HF : Hid (∀ W, Below w.heap.size w W → WwOut w T (-1) (.returned (.tuple #[.agg #[.string ⟨#[]⟩, .int .i64 0, .int .i64 0], .bool false])) W) := fun W hW => ⟨_, _, _, rfl, fun h => absurd h (by decide), hW⟩
  go_enter Tryz.func88, Tryz.ntmps88
  go_wp2_with fail
  exact bodyPost_ret (v := .tuple #[.agg #[.string ⟨#[]⟩, .int .i64 0, .int .i64 0], .bool false]) (by simp [results, Tryz.results88, go_sem]) rfl (HF.out _ ((Below.refl _ _).alloc (Nat.le_refl _) _))
set_option maxRecDepth 100000 in
theorem ww_atom (m : Option Nat) (x : Value) (T : List Cel) (w : World) : Calls Tryz.prog 88 #[.map m, .iface 106 x] w (WwOut w T (-1)) := by
  have n1 := wiA_atom
  have HF : Hid (∀ W, Below w.heap.size w W → WwOut w T (-1) (.returned (.tuple #[.agg #[.string ⟨#[]⟩, .int .i64 0, .int .i64 0], .bool false])) W) := fun W hW => ⟨_, _, _, rfl, fun h => absurd h (by decide), hW⟩
  go_enter Tryz.func88, Tryz.ntmps88
  go_wp2_with fail
  exact bodyPost_ret (v := .tuple #[.agg #[.string ⟨#[]⟩, .int .i64 0, .int .i64 0], .bool false]) (by simp [results, Tryz.results88, go_sem]) rfl (HF.out _ ((Below.refl _ _).alloc (Nat.le_refl _) _))
set_option maxRecDepth 100000 in
set_option maxHeartbeats 1000000 in
theorem ww_dot (m : Option Nat) (b g : Nat) (T : List Cel) (w : World) (s : ByteArray) (hs : (s.toList == [46]) = true) (h0 : w.cell? ⟨b, 0, none⟩ = some (.string s)) (h1 : w.cell? ⟨b, 1, none⟩ = some (.slice (some ⟨g, 0, none⟩) 2 2)) :
    Calls Tryz.prog 88 #[.map m, .iface 108 (.pointer (some ⟨b, 0, none⟩))] w (WwOut w T (-1)) := by
  have n1 := wiA_comp
  have hal : Below w.heap.size w (w.alloc (.cells #[.string ⟨#[]⟩, .int .i64 0, .int .i64 0] 97)) := (Below.refl _ _).alloc (Nat.le_refl _) _
  have HFU := functorW_any b g 2 s (w.alloc (.cells #[.string ⟨#[]⟩, .int .i64 0, .int .i64 0] 97)) ((hal.cell (World.block_lt_of_cell? _ _ h0)).trans h0) ((hal.cell (World.block_lt_of_cell? _ _ h1)).trans h1)
  have HF : Hid (∀ W, Below w.heap.size w W → WwOut w T (-1) (.returned (.tuple #[.agg #[.string ⟨#[]⟩, .int .i64 0, .int .i64 0], .bool false])) W) := fun W hW => ⟨_, _, _, rfl, fun h => absurd h (by decide), hW⟩
  have HAL : Hid _ := hal
  clear h0 h1 hal
  go_enter Tryz.func88, Tryz.ntmps88
  go_wp2_with fail
  refine HFU.mono ?_
  rintro e w1 ⟨rfl, hb1⟩
  have k := hb1.block w.heap.size (by simp)
  rw [heap_alloc_new] at k
  obtain ⟨c0, c1, c2, f0, f1, f2⟩ := three_cells k
  have HB : Hid (Below w.heap.size w w1) := HAL.out.trans (hb1.mono (by simp))
  clear hb1 k HFU
  go_wp2_with fail
  exact bodyPost_ret (v := .tuple #[.agg #[.string ⟨#[]⟩, .int .i64 0, .int .i64 0], .bool false]) (by simp [results, Tryz.results88, go_sem, c0, c1, c2]) rfl (HF.out _ (((HB.out.setCell (Nat.le_refl _) _).setCell (Nat.le_refl _) _).setCell (Nat.le_refl _) _))
end Go.Proofs.YtelcfcgdnebdgaaGreatDoor
namespace Go.Proofs.YtelcfcgdnebdgaaGreatDoor
open Go
theorem hStore {P : Program} {ops : Array Oper} {Q : Exit → Act → World → Prop} {md : Region.Mode} {S : World → Prop} {i : Nat} {fuel : Nat} {listed : Array Bool} {a : Act} {w w' : World} (hd : (ops[i]?).map (·.dst) = some none)
    (hr : Region.ready md ops listed = [i]) (hw : (ops[i]?).map (fun o => Region.wanted o (yielded ops a.tmps)) = some true)
    (hrun : ∀ o, ops[i]? = some o → (execOp a.eval o).run P w = .ok .skip w') (hS : S w') (h : wpAnyH P md ops Q S fuel (listed.setIfInBounds i true) a w') : wpAnyH P md ops Q S (fuel + 1) listed a w := by
  refine wpAnyH_all hr (by simp) ?_
  intro j hj
  obtain rfl : j = i := by simpa using hj
  cases hi : ops[j]? with
  | none => simp [hi] at hd
  | some o =>
    have hd' : o.dst = none := by simpa [hi] using hd
    have hw' : Region.wanted o (yielded ops a.tmps) = true := by simpa [hi] using hw
    unfold wpOp
    simp only [hi, hw', if_true, Oper.wp, hrun o hi, Oper.upon]
    exact .inl ⟨hS, by rw [hd']; exact h⟩
end Go.Proofs.YtelcfcgdnebdgaaGreatDoor
namespace Go.Proofs.YtelcfcgdnebdgaaGreatDoor
open Go Go.RowKit
set_option linter.unusedVariables false
theorem set3_same {rb : Nat} {W : World} {v0 v1 v2 u0 u1 u2 : Value} (z0 : W.cell? ⟨rb, 0, none⟩ = some u0) (z1 : W.cell? ⟨rb, 1, none⟩ = some u1) (z2 : W.cell? ⟨rb, 2, none⟩ = some u2) : (((W.setCell ⟨rb, 0, none⟩ v0).setCell ⟨rb, 1, none⟩ v1).setCell ⟨rb, 2, none⟩ v2).cell? ⟨rb, 0, none⟩ = some v0 ∧ (((W.setCell ⟨rb, 0, none⟩ v0).setCell ⟨rb, 1, none⟩ v1).setCell ⟨rb, 2, none⟩ v2).cell? ⟨rb, 1, none⟩ = some v1 ∧ (((W.setCell ⟨rb, 0, none⟩ v0).setCell ⟨rb, 1, none⟩ v1).setCell ⟨rb, 2, none⟩ v2).cell? ⟨rb, 2, none⟩ = some v2 := by
  have n1 : (⟨rb, 1, none⟩ : Addr) ≠ ⟨rb, 0, none⟩ := by simp
  have n2 : (⟨rb, 2, none⟩ : Addr) ≠ ⟨rb, 0, none⟩ := by simp
  have n3 : (⟨rb, 2, none⟩ : Addr) ≠ ⟨rb, 1, none⟩ := by simp
  have a0 : (W.setCell ⟨rb, 0, none⟩ v0).cell? ⟨rb, 0, none⟩ = some v0 := World.cell?_setCell_same' _ _ _ (by rw [z0]; rfl)
  have a1 : (W.setCell ⟨rb, 0, none⟩ v0).cell? ⟨rb, 1, none⟩ = some u1 := (World.cell?_setCell_other _ _ _ _ n1.symm).trans z1
  have a2 : (W.setCell ⟨rb, 0, none⟩ v0).cell? ⟨rb, 2, none⟩ = some u2 := (World.cell?_setCell_other _ _ _ _ n2.symm).trans z2
  have b0 := (World.cell?_setCell_other (W.setCell ⟨rb, 0, none⟩ v0) _ _ v1 n1).trans a0
  have b1 : ((W.setCell ⟨rb, 0, none⟩ v0).setCell ⟨rb, 1, none⟩ v1).cell? ⟨rb, 1, none⟩ = some v1 := World.cell?_setCell_same' _ _ _ (by rw [a1]; rfl)
  have b2 := (World.cell?_setCell_other (W.setCell ⟨rb, 0, none⟩ v0) _ _ v1 n3.symm).trans a2
  exact ⟨(World.cell?_setCell_other _ _ _ _ n2).trans b0, (World.cell?_setCell_other _ _ _ _ n3).trans b1, World.cell?_setCell_same' _ _ _ (by rw [b2]; rfl)⟩
theorem set3_other {rb ob : Nat} (h : ¬ ob = rb) (W : World) (v0 v1 v2 : Value) (u : Nat) (o : Nat) : (((W.setCell ⟨rb, 0, none⟩ v0).setCell ⟨rb, 1, none⟩ v1).setCell ⟨rb, 2, none⟩ v2).cell? ⟨ob, o, none⟩ = W.cell? ⟨ob, o, none⟩ := by
  rw [World.cell?_setCell_other _ _ _ _ (fun e => h (by rw [Addr.mk.injEq] at e; exact e.1.symm)), World.cell?_setCell_other _ _ _ _ (fun e => h (by rw [Addr.mk.injEq] at e; exact e.1.symm)), World.cell?_setCell_other _ _ _ _ (fun e => h (by rw [Addr.mk.injEq] at e; exact e.1.symm))]
set_option maxRecDepth 100000 in
set_option maxHeartbeats 2000000 in
theorem ww_two {w : World} {mb M : Nat} {T : List Cel} (hM : OpMap w mb M T) (xs : List Int) (hl : xs.length ≤ 1000000) (hd : ((strOfNums xs).toList == [46]) = false) (b g : Nat) (i : Int) (hi : 0 ≤ i ↔ 0 ≤ findW T xs false ∧ postB (opW T (findW T xs false)).2.1 = false) (hie : 0 ≤ i → i = findW T xs false) (h0 : w.cell? ⟨b, 0, none⟩ = some (.string (strOfNums xs))) (h1 : w.cell? ⟨b, 1, none⟩ = some (.slice (some ⟨g, 0, none⟩) 2 2)) :
    Calls Tryz.prog 88 #[.map (some mb), .iface 108 (.pointer (some ⟨b, 0, none⟩))] w (WwOut w T i) := by
  have n1 := wiA_comp
  have hal : Below w.heap.size w (w.alloc (.cells #[.string ⟨#[]⟩, .int .i64 0, .int .i64 0] 97)) := (Below.refl _ _).alloc (Nat.le_refl _) _
  have HFU := functorW_any b g 2 (strOfNums xs) (w.alloc (.cells #[.string ⟨#[]⟩, .int .i64 0, .int .i64 0] 97)) ((hal.cell (World.block_lt_of_cell? _ _ h0)).trans h0) ((hal.cell (World.block_lt_of_cell? _ _ h1)).trans h1)
  have HAL : Hid _ := hal
  have HM : Hid (OpMap w mb M T) := hM
  have HI : Hid ((0 ≤ i ↔ 0 ≤ findW T xs false ∧ postB (opW T (findW T xs false)).2.1 = false) ∧ (0 ≤ i → i = findW T xs false)) := ⟨hi, hie⟩
  have H01 : Hid (∀ W, Below w.heap.size w W → W.cell? ⟨b, 0, none⟩ = some (.string (strOfNums xs)) ∧ W.cell? ⟨b, 1, none⟩ = some (.slice (some ⟨g, 0, none⟩) 2 2)) := fun W hW => ⟨(hW.cell (World.block_lt_of_cell? _ _ h0)).trans h0, (hW.cell (World.block_lt_of_cell? _ _ h1)).trans h1⟩
  have HLK : Hid (∀ W, Below w.heap.size w W → ∃ so po to, (Instr.lookup 69 (.map (some mb)) (.agg #[.string (strOfNums xs), .int .i64 1]) true).run Tryz.prog W = .ok (.tuple #[.agg #[.string so, .int .i64 po, .int .i64 to], .bool (decide (0 ≤ findW T xs false))]) W ∧ (0 ≤ findW T xs false → (Value.agg #[.string so, .int .i64 po, .int .i64 to]) = encV (opW T (findW T xs false)))) := fun W hW => by
    obtain ⟨so, po, to, h, h2⟩ := (hM.below hW).look xs hl false
    exact ⟨so, po, to, h, fun hh => (h2 hh).1⟩
  clear h0 h1 hal hM hi hie hl
  obtain ⟨s, es⟩ : ∃ s, s = strOfNums xs := ⟨_, rfl⟩
  rw [← es] at HFU hd H01 HLK
  clear es
  go_enter Tryz.func88, Tryz.ntmps88
  go_wp2_with fail
  refine HFU.mono ?_
  rintro e w1 ⟨rfl, hb1⟩
  have HB1 : Hid (Below w.heap.size w w1) := HAL.out.trans (hb1.mono (by simp))
  obtain ⟨so, po, to, hlk, hop⟩ := HLK.out w1 HB1.out
  have HOP : Hid _ := hop
  obtain ⟨e0, e1⟩ := H01.out w1 HB1.out
  have HRB : Hid (∀ W, Below (w1.alloc (.cells #[.string so, .int .i64 po, .int .i64 to] 97)).heap.size (w1.alloc (.cells #[.string so, .int .i64 po, .int .i64 to] 97)) W → W.heap[w.heap.size]? = some (.cells #[.string ⟨#[]⟩, .int .i64 0, .int .i64 0] 97)) := fun W hW => by
    have hlt : w.heap.size < w1.heap.size := by have := hb1.size; simp at this; omega
    rw [hW.block _ (by simp; omega), Below.heap_alloc _ _ _ hlt, hb1.block w.heap.size (by simp), heap_alloc_new]
  have hrne : ¬ w1.heap.size = w.heap.size := by have := hb1.size; simp at this; omega
  have HS0 : Hid (∀ W, Below (w1.alloc (.cells #[.string so, .int .i64 po, .int .i64 to] 97)).heap.size (w1.alloc (.cells #[.string so, .int .i64 po, .int .i64 to] 97)) W → W.cell? ⟨w1.heap.size, 0, none⟩ = some (.string so) ∧ W.cell? ⟨w1.heap.size, 1, none⟩ = some (.int .i64 po) ∧ W.cell? ⟨w1.heap.size, 2, none⟩ = some (.int .i64 to)) := fun W hW => by
    obtain ⟨a0, a1, a2, _⟩ := three_cells ((hW.block w1.heap.size (by simp)).trans (heap_alloc_new w1 (.cells #[.string so, .int .i64 po, .int .i64 to] 97)))
    exact ⟨a0, a1, a2⟩
  have hal1 : Below w1.heap.size w1 (w1.alloc (.cells #[.string so, .int .i64 po, .int .i64 to] 97)) := (Below.refl _ _).alloc (Nat.le_refl _) _
  obtain ⟨e0', e1'⟩ := H01.out _ (Below.on HB1.out hal1)
  have HB2 : Hid (Below w.heap.size w (w1.alloc (.cells #[.string so, .int .i64 po, .int .i64 to] 97))) := Below.on HB1.out hal1
  obtain ⟨pb, epb⟩ : ∃ pb, pb = postB to := ⟨_, rfl⟩
  have HPO : Hid (∀ W, Calls Tryz.prog 108 #[.agg #[.string so, .int .i64 po, .int .i64 to]] W fun e w' => e = .returned (.bool pb) ∧ Below W.heap.size W w') := fun W => by rw [epb]; exact isPost_any so po to W
  have HPB : Hid (pb = postB to) := epb
  clear hb1 HFU hop hal1 epb HLK H01
  cases hf : decide (0 ≤ findW T xs false) with
  | true =>
    rw [hf] at hlk
    have hf2 := of_decide_eq_true hf
    have HF : Hid (0 ≤ findW T xs false) := hf2
    clear hf hf2
    go_wp2_with fail
    have HEV : Hid (Value.agg #[.string so, .int .i64 po, .int .i64 to] = encV (opW T (findW T xs false))) := HOP.out HF.out
    have HTO : Hid (to = (opW T (findW T xs false)).2.1) := by have h := HEV.out; unfold encV at h; simp at h; exact h.2.2
    have HRES : Hid ((!pb) = decide (0 ≤ i)) := by
      show _ = _
      rw [Bool.eq_iff_iff, decide_eq_true_iff, HI.out.1, ← HTO.out, ← HPB.out]
      have := HF.out
      cases pb <;> simp [this]
    refine wp_region_held_drew (S := fun W => W.cell? ⟨w1.heap.size, 0, none⟩ = some (.string so) ∧ W.cell? ⟨w1.heap.size, 1, none⟩ = some (.int .i64 po) ∧ W.cell? ⟨w1.heap.size, 2, none⟩ = some (.int .i64 to)) (by kernel_rfl) (HS0.out _ ((Below.refl _ _).drew)) (fun hHeld => ?_)
    have hS0 := HS0.out _ ((Below.refl (w1.alloc (.cells #[.string so, .int .i64 po, .int .i64 to] 97)).heap.size (w1.alloc (.cells #[.string so, .int .i64 po, .int .i64 to] 97))).drew)
    refine hTake (i := 0) (v := .agg #[.string so, .int .i64 po, .int .i64 to]) (some 43) (by kernel_rfl) (by kernel_rfl) (by kernel_rfl) (by kernel_rfl) (by kernel_rfl) (fun _ _ _ h => h) (fun o ho W hSw => ?y0) (by assumption) ?_
    case y0 =>
      cases ho
      obtain ⟨s0, s1, s2⟩ := hSw
      simp [execOp, go_sem, Act.eval, s0, s1, s2]
    simp only [Act.put, zzA, zzB, zzC]
    refine hTake (i := 1) (v := .bool true) (some 44) (by kernel_rfl) (by kernel_rfl) (by kernel_rfl) (by kernel_rfl) (by kernel_rfl) (fun _ _ _ h => h) (fun o ho W hSw => ?y1) (by assumption) ?_
    case y1 =>
      cases ho
      obtain ⟨s0, s1, s2⟩ := hSw
      simp [execOp, go_sem, Act.eval]
    simp only [Act.put, zzA, zzB, zzC]
    refine hTake (i := 2) (v := .bool true) (some 45) (by kernel_rfl) (by kernel_rfl) (by kernel_rfl) (by kernel_rfl) (by kernel_rfl) (fun _ _ _ h => h) (fun o ho W hSw => ?y2) (by assumption) ?_
    case y2 =>
      cases ho
      obtain ⟨s0, s1, s2⟩ := hSw
      simp [execOp, go_sem, Act.eval]
    simp only [Act.put, zzA, zzB, zzC]
    refine hTake (i := 3) (v := .agg #[.string so, .int .i64 po, .int .i64 to]) (some 46) (by kernel_rfl) (by kernel_rfl) (by kernel_rfl) (by kernel_rfl) (by kernel_rfl) (fun _ _ _ h => h) (fun o ho W hSw => ?y3) (by assumption) ?_
    case y3 =>
      cases ho
      obtain ⟨s0, s1, s2⟩ := hSw
      simp [execOp, go_sem, Act.eval, s0, s1, s2]
    simp only [Act.put, zzA, zzB, zzC]
    refine hCallE (i := 4) (some 47) (by kernel_rfl) (by kernel_rfl) (by kernel_rfl) (fun o ho => ?y4) (HPO.out _) ?_ (fun ch w' h => by obtain ⟨h, _⟩ := h; simp at h) (fun w' h => by obtain ⟨h, _⟩ := h; simp at h)
    case y4 =>
      cases ho
      simp [execOp, go_sem, Act.eval]
    rintro u w5 ⟨hu, hb5⟩
    cases hu
    have HB5 : Hid (Below (w1.alloc (.cells #[.string so, .int .i64 po, .int .i64 to] 97)).heap.size (w1.alloc (.cells #[.string so, .int .i64 po, .int .i64 to] 97)) w5) := (Below.refl _ _).drew.trans hb5
    have hS5 := HS0.out _ HB5.out
    refine ⟨hS5, ?_⟩
    simp only [Act.put, zzA, zzB, zzC]
    clear hb5
    refine hTake (i := 5) (v := .bool (!pb)) (some 48) (by kernel_rfl) (by kernel_rfl) (by kernel_rfl) (by kernel_rfl) (by kernel_rfl) (fun _ _ _ h => h) (fun o ho W hSw => ?y5) (by assumption) ?_
    case y5 =>
      cases ho
      obtain ⟨s0, s1, s2⟩ := hSw
      simp [execOp, go_sem, Act.eval]
    simp only [Act.put, zzA, zzB, zzC]
    refine hTake (i := 6) (v := .bool (!pb)) (some 49) (by kernel_rfl) (by kernel_rfl) (by kernel_rfl) (by kernel_rfl) (by kernel_rfl) (fun _ _ _ h => h) (fun o ho W hSw => ?y6) (by assumption) ?_
    case y6 =>
      cases ho
      obtain ⟨s0, s1, s2⟩ := hSw
      simp [execOp, go_sem, Act.eval]
    simp only [Act.put, zzA, zzB, zzC]
    obtain ⟨z0, z1, z2, y0, y1, y2⟩ := three_cells (HRB.out _ HB5.out)
    have HS9 := HS0.out _ HB5.out
    have hS9 : (fun W => W.cell? ⟨w1.heap.size, 0, none⟩ = some (.string so) ∧ W.cell? ⟨w1.heap.size, 1, none⟩ = some (.int .i64 po) ∧ W.cell? ⟨w1.heap.size, 2, none⟩ = some (.int .i64 to)) ((((w5).setCell ⟨w.heap.size, 0, none⟩ (.string so)).setCell ⟨w.heap.size, 1, none⟩ (.int .i64 po)).setCell ⟨w.heap.size, 2, none⟩ (.int .i64 to)) := ⟨(set3_other hrne _ _ _ _ 0 0).trans HS9.1, (set3_other hrne _ _ _ _ 0 1).trans HS9.2.1, (set3_other hrne _ _ _ _ 0 2).trans HS9.2.2⟩
    refine hStore (i := 7) (w' := (((w5).setCell ⟨w.heap.size, 0, none⟩ (.string so)).setCell ⟨w.heap.size, 1, none⟩ (.int .i64 po)).setCell ⟨w.heap.size, 2, none⟩ (.int .i64 to)) (by kernel_rfl) (by kernel_rfl) (by kernel_rfl) (fun o ho => ?y7) hS9 ?_
    case y7 =>
      cases ho
      simp [execOp, go_sem, Act.eval, z0, z1, z2, y0, y1, y2]
    refine hTake (i := 8) (v := .bool (!pb)) (some 5) (by kernel_rfl) (by kernel_rfl) (by kernel_rfl) (by kernel_rfl) (by kernel_rfl) (fun _ _ _ h => h) (fun o ho W hSw => ?y8) (by assumption) ?_
    case y8 =>
      cases ho
      obtain ⟨s0, s1, s2⟩ := hSw
      simp [execOp, go_sem, Act.eval]
    simp only [Act.put, zzA, zzB, zzC]
    refine wpAnyH_done (by kernel_rfl) ?_ _
    change Exit.then _ _ _ _ _
    go_wp2_with fail
    obtain ⟨r0, r1, r2⟩ := set3_same (W := w5) (rb := w.heap.size) (v0 := .string so) (v1 := .int .i64 po) (v2 := .int .i64 to) z0 z1 z2
    exact bodyPost_ret (v := .tuple #[.agg #[.string so, .int .i64 po, .int .i64 to], .bool (!pb)]) (by simp [results, Tryz.results88, go_sem, r0, r1, r2]) rfl ⟨so, po, to, by rw [HRES.out], fun h => by rw [HI.out.2 h]; exact HEV.out, ((((Below.on HB2.out HB5.out).setCell (Nat.le_refl _) _).setCell (Nat.le_refl _) _).setCell (Nat.le_refl _) _)⟩
  | false =>
    rw [hf] at hlk
    have hf2 := of_decide_eq_false hf
    have HRES : Hid (false = decide (0 ≤ i)) := by
      show _ = _
      rw [eq_comm, decide_eq_false_iff_not, HI.out.1]
      exact fun h => hf2 h.1
    have HNO : Hid (¬ 0 ≤ i) := fun h => hf2 (HI.out.1.1 h).1
    clear hf hf2
    go_wp2_with fail
    refine wp_region_held_drew (S := fun W => W.cell? ⟨w1.heap.size, 0, none⟩ = some (.string so) ∧ W.cell? ⟨w1.heap.size, 1, none⟩ = some (.int .i64 po) ∧ W.cell? ⟨w1.heap.size, 2, none⟩ = some (.int .i64 to)) (by kernel_rfl) (HS0.out _ ((Below.refl _ _).drew)) (fun hHeld => ?_)
    have HB5 : Hid (Below (w1.alloc (.cells #[.string so, .int .i64 po, .int .i64 to] 97)).heap.size (w1.alloc (.cells #[.string so, .int .i64 po, .int .i64 to] 97)) (w1.alloc (.cells #[.string so, .int .i64 po, .int .i64 to] 97)).drew) := (Below.refl _ _).drew
    obtain ⟨w5, ew5⟩ : ∃ w5, w5 = (w1.alloc (.cells #[.string so, .int .i64 po, .int .i64 to] 97)).drew := ⟨_, rfl⟩
    rw [← ew5] at HB5 hHeld ⊢
    clear ew5
    have hS0 := HS0.out _ HB5.out
    refine hTake (i := 0) (v := .agg #[.string so, .int .i64 po, .int .i64 to]) (some 43) (by kernel_rfl) (by kernel_rfl) (by kernel_rfl) (by kernel_rfl) (by kernel_rfl) (fun _ _ _ h => h) (fun o ho W hSw => ?y0) (by assumption) ?_
    case y0 =>
      cases ho
      obtain ⟨s0, s1, s2⟩ := hSw
      simp [execOp, go_sem, Act.eval, s0, s1, s2]
    simp only [Act.put, zzA, zzB, zzC]
    refine hTake (i := 1) (v := .bool false) (some 44) (by kernel_rfl) (by kernel_rfl) (by kernel_rfl) (by kernel_rfl) (by kernel_rfl) (fun _ _ _ h => h) (fun o ho W hSw => ?y1) (by assumption) ?_
    case y1 =>
      cases ho
      obtain ⟨s0, s1, s2⟩ := hSw
      simp [execOp, go_sem, Act.eval]
    simp only [Act.put, zzA, zzB, zzC]
    refine hTake (i := 2) (v := .bool false) (some 45) (by kernel_rfl) (by kernel_rfl) (by kernel_rfl) (by kernel_rfl) (by kernel_rfl) (fun _ _ _ h => h) (fun o ho W hSw => ?y2) (by assumption) ?_
    case y2 =>
      cases ho
      obtain ⟨s0, s1, s2⟩ := hSw
      simp [execOp, go_sem, Act.eval]
    simp only [Act.put, zzA, zzB, zzC]
    refine hSkip (i := 3) (some 46) (by kernel_rfl) (by kernel_rfl) (by kernel_rfl) (by kernel_rfl) (by kernel_rfl) (fun _ _ _ h => h) (by assumption) ?_
    simp only [Act.put, zzA, zzB, zzC]
    refine hSkip (i := 4) (some 47) (by kernel_rfl) (by kernel_rfl) (by kernel_rfl) (by kernel_rfl) (by kernel_rfl) (fun _ _ _ h => h) (by assumption) ?_
    simp only [Act.put, zzA, zzB, zzC]
    refine hSkip (i := 5) (some 48) (by kernel_rfl) (by kernel_rfl) (by kernel_rfl) (by kernel_rfl) (by kernel_rfl) (fun _ _ _ h => h) (by assumption) ?_
    simp only [Act.put, zzA, zzB, zzC]
    refine hTake (i := 6) (v := .bool false) (some 49) (by kernel_rfl) (by kernel_rfl) (by kernel_rfl) (by kernel_rfl) (by kernel_rfl) (fun _ _ _ h => h) (fun o ho W hSw => ?y6) (by assumption) ?_
    case y6 =>
      cases ho
      obtain ⟨s0, s1, s2⟩ := hSw
      simp [execOp, go_sem, Act.eval]
    simp only [Act.put, zzA, zzB, zzC]
    obtain ⟨z0, z1, z2, y0, y1, y2⟩ := three_cells (HRB.out _ HB5.out)
    have HS9 := HS0.out _ HB5.out
    have hS9 : (fun W => W.cell? ⟨w1.heap.size, 0, none⟩ = some (.string so) ∧ W.cell? ⟨w1.heap.size, 1, none⟩ = some (.int .i64 po) ∧ W.cell? ⟨w1.heap.size, 2, none⟩ = some (.int .i64 to)) ((((w5).setCell ⟨w.heap.size, 0, none⟩ (.string so)).setCell ⟨w.heap.size, 1, none⟩ (.int .i64 po)).setCell ⟨w.heap.size, 2, none⟩ (.int .i64 to)) := ⟨(set3_other hrne _ _ _ _ 0 0).trans HS9.1, (set3_other hrne _ _ _ _ 0 1).trans HS9.2.1, (set3_other hrne _ _ _ _ 0 2).trans HS9.2.2⟩
    refine hStore (i := 7) (w' := (((w5).setCell ⟨w.heap.size, 0, none⟩ (.string so)).setCell ⟨w.heap.size, 1, none⟩ (.int .i64 po)).setCell ⟨w.heap.size, 2, none⟩ (.int .i64 to)) (by kernel_rfl) (by kernel_rfl) (by kernel_rfl) (fun o ho => ?y7) hS9 ?_
    case y7 =>
      cases ho
      simp [execOp, go_sem, Act.eval, z0, z1, z2, y0, y1, y2]
    refine hTake (i := 8) (v := .bool false) (some 5) (by kernel_rfl) (by kernel_rfl) (by kernel_rfl) (by kernel_rfl) (by kernel_rfl) (fun _ _ _ h => h) (fun o ho W hSw => ?y8) (by assumption) ?_
    case y8 =>
      cases ho
      obtain ⟨s0, s1, s2⟩ := hSw
      simp [execOp, go_sem, Act.eval]
    simp only [Act.put, zzA, zzB, zzC]
    refine wpAnyH_done (by kernel_rfl) ?_ _
    change Exit.then _ _ _ _ _
    go_wp2_with fail
    obtain ⟨r0, r1, r2⟩ := set3_same (W := w5) (rb := w.heap.size) (v0 := .string so) (v1 := .int .i64 po) (v2 := .int .i64 to) z0 z1 z2
    exact bodyPost_ret (v := .tuple #[.agg #[.string so, .int .i64 po, .int .i64 to], .bool false]) (by simp [results, Tryz.results88, go_sem, r0, r1, r2]) rfl ⟨so, po, to, by rw [← HRES.out], fun h => absurd (show i < 0 by have := HNO.out; omega) (by omega), ((((Below.on HB2.out HB5.out).setCell (Nat.le_refl _) _).setCell (Nat.le_refl _) _).setCell (Nat.le_refl _) _)⟩
end Go.Proofs.YtelcfcgdnebdgaaGreatDoor
namespace Go.Proofs.YtelcfcgdnebdgaaGreatDoor
open Go Go.RowKit
set_option linter.unusedVariables false
set_option maxRecDepth 100000 in
set_option maxHeartbeats 2000000 in
theorem ww_many {w : World} {mb M : Nat} {T : List Cel} (hM : OpMap w mb M T) (xs : List Int) (hl : xs.length ≤ 1000000) (b g : Nat) (q : Nat) (hq : 3 ≤ q ∧ q ≤ 1000) (i : Int) (hi : i = -1) (h0 : w.cell? ⟨b, 0, none⟩ = some (.string (strOfNums xs))) (h1 : w.cell? ⟨b, 1, none⟩ = some (.slice (some ⟨g, 0, none⟩) q q)) :
    Calls Tryz.prog 88 #[.map (some mb), .iface 108 (.pointer (some ⟨b, 0, none⟩))] w (WwOut w T i) := by
  have n1 := wiA_comp
  have hal : Below w.heap.size w (w.alloc (.cells #[.string ⟨#[]⟩, .int .i64 0, .int .i64 0] 97)) := (Below.refl _ _).alloc (Nat.le_refl _) _
  have HFU := functorW_any b g q (strOfNums xs) (w.alloc (.cells #[.string ⟨#[]⟩, .int .i64 0, .int .i64 0] 97)) ((hal.cell (World.block_lt_of_cell? _ _ h0)).trans h0) ((hal.cell (World.block_lt_of_cell? _ _ h1)).trans h1)
  have HAL : Hid _ := hal
  have HM : Hid (OpMap w mb M T) := hM
  have HI : Hid (i = -1) := hi
  have q1 : ((q : Int) == 2) = false := by simp; omega
  have q2 : ((q : Int) == 1) = false := by simp; omega
  have q3 : ¬ (q : Int) = 2 := by omega
  have q4 : ¬ (q : Int) = 1 := by omega
  have H01 : Hid (∀ W, Below w.heap.size w W → W.cell? ⟨b, 0, none⟩ = some (.string (strOfNums xs)) ∧ W.cell? ⟨b, 1, none⟩ = some (.slice (some ⟨g, 0, none⟩) q q)) := fun W hW => ⟨(hW.cell (World.block_lt_of_cell? _ _ h0)).trans h0, (hW.cell (World.block_lt_of_cell? _ _ h1)).trans h1⟩
  have HLK : Hid (∀ W, Below w.heap.size w W → ∃ so po to, (Instr.lookup 69 (.map (some mb)) (.agg #[.string (strOfNums xs), .int .i64 1]) true).run Tryz.prog W = .ok (.tuple #[.agg #[.string so, .int .i64 po, .int .i64 to], .bool (decide (0 ≤ findW T xs false))]) W ∧ (0 ≤ findW T xs false → (Value.agg #[.string so, .int .i64 po, .int .i64 to]) = encV (opW T (findW T xs false)))) := fun W hW => by
    obtain ⟨so, po, to, h, h2⟩ := (hM.below hW).look xs hl false
    exact ⟨so, po, to, h, fun hh => (h2 hh).1⟩
  have HLP : Hid (∀ W, Below w.heap.size w W → ∃ so po to, (Instr.lookup 69 (.map (some mb)) (.agg #[.string (strOfNums xs), .int .i64 0]) true).run Tryz.prog W = .ok (.tuple #[.agg #[.string so, .int .i64 po, .int .i64 to], .bool (decide (0 ≤ findW T xs true))]) W ∧ (0 ≤ findW T xs true → (Value.agg #[.string so, .int .i64 po, .int .i64 to]) = encV (opW T (findW T xs true)))) := fun W hW => by
    obtain ⟨so, po, to, h, h2⟩ := (hM.below hW).look xs hl true
    exact ⟨so, po, to, h, fun hh => (h2 hh).1⟩
  clear h0 h1 hal hM hi hl
  obtain ⟨s, es⟩ : ∃ s, s = strOfNums xs := ⟨_, rfl⟩
  rw [← es] at HFU H01 HLK HLP
  clear es
  cases hss : (s.toList == [46])
  all_goals
    go_enter Tryz.func88, Tryz.ntmps88
    go_wp2_with fail
    refine HFU.mono ?_
    rintro e w1 ⟨rfl, hb1⟩
    have HB1 : Hid (Below w.heap.size w w1) := HAL.out.trans (hb1.mono (by simp))
    obtain ⟨so, po, to, hlk, hop⟩ := HLK.out w1 HB1.out
    have HOP : Hid _ := hop
    obtain ⟨e0, e1⟩ := H01.out w1 HB1.out
    have HRB : Hid (∀ W, Below (w1.alloc (.cells #[.string so, .int .i64 po, .int .i64 to] 97)).heap.size (w1.alloc (.cells #[.string so, .int .i64 po, .int .i64 to] 97)) W → W.heap[w.heap.size]? = some (.cells #[.string ⟨#[]⟩, .int .i64 0, .int .i64 0] 97)) := fun W hW => by
      have hlt : w.heap.size < w1.heap.size := by have := hb1.size; simp at this; omega
      rw [hW.block _ (by simp; omega), Below.heap_alloc _ _ _ hlt, hb1.block w.heap.size (by simp), heap_alloc_new]
    have hrne : ¬ w1.heap.size = w.heap.size := by have := hb1.size; simp at this; omega
    have hal1 : Below w1.heap.size w1 (w1.alloc (.cells #[.string so, .int .i64 po, .int .i64 to] 97)) := (Below.refl _ _).alloc (Nat.le_refl _) _
    obtain ⟨e0', e1'⟩ := H01.out _ (Below.on HB1.out hal1)
    have HB2 : Hid (Below w.heap.size w (w1.alloc (.cells #[.string so, .int .i64 po, .int .i64 to] 97))) := Below.on HB1.out hal1
    obtain ⟨z0, z1, z2, y0, y1, y2⟩ := three_cells (HRB.out _ (Below.refl _ _))
    clear hb1 HFU hop hal1 HLK HLP H01
    generalize decide (0 ≤ findW T xs false) = fb at hlk
    go_wp2_with fail
    obtain ⟨r0, r1, r2⟩ := set3_same (W := w1.alloc (.cells #[.string so, .int .i64 po, .int .i64 to] 97)) (rb := w.heap.size) (v0 := .string ⟨#[]⟩) (v1 := .int .i64 0) (v2 := .int .i64 0) z0 z1 z2
    exact bodyPost_ret (v := .tuple #[.agg #[.string ⟨#[]⟩, .int .i64 0, .int .i64 0], .bool false]) (by simp [results, Tryz.results88, go_sem, r0, r1, r2]) rfl ⟨_, _, _, by rw [HI.out]; rfl, fun h => by have := HI.out; omega, ((HB2.out.setCell (Nat.le_refl _) _).setCell (Nat.le_refl _) _).setCell (Nat.le_refl _) _⟩
set_option maxRecDepth 100000 in
set_option maxHeartbeats 2000000 in
theorem ww_one {w : World} {mb M : Nat} {T : List Cel} (hM : OpMap w mb M T) (xs : List Int) (hl : xs.length ≤ 1000000) (b g : Nat) (i : Int) (hi : i = if 0 ≤ findW T xs true then findW T xs true else if 0 ≤ findW T xs false ∧ postB (opW T (findW T xs false)).2.1 = true then findW T xs false else -1) (h0 : w.cell? ⟨b, 0, none⟩ = some (.string (strOfNums xs))) (h1 : w.cell? ⟨b, 1, none⟩ = some (.slice (some ⟨g, 0, none⟩) 1 1)) :
    Calls Tryz.prog 88 #[.map (some mb), .iface 108 (.pointer (some ⟨b, 0, none⟩))] w (WwOut w T i) := by
  have n1 := wiA_comp
  have hal : Below w.heap.size w (w.alloc (.cells #[.string ⟨#[]⟩, .int .i64 0, .int .i64 0] 97)) := (Below.refl _ _).alloc (Nat.le_refl _) _
  have HFU := functorW_any b g 1 (strOfNums xs) (w.alloc (.cells #[.string ⟨#[]⟩, .int .i64 0, .int .i64 0] 97)) ((hal.cell (World.block_lt_of_cell? _ _ h0)).trans h0) ((hal.cell (World.block_lt_of_cell? _ _ h1)).trans h1)
  have HAL : Hid _ := hal
  have HM : Hid (OpMap w mb M T) := hM
  have HI : Hid (i = if 0 ≤ findW T xs true then findW T xs true else if 0 ≤ findW T xs false ∧ postB (opW T (findW T xs false)).2.1 = true then findW T xs false else -1) := hi
  have H01 : Hid (∀ W, Below w.heap.size w W → W.cell? ⟨b, 0, none⟩ = some (.string (strOfNums xs)) ∧ W.cell? ⟨b, 1, none⟩ = some (.slice (some ⟨g, 0, none⟩) 1 1)) := fun W hW => ⟨(hW.cell (World.block_lt_of_cell? _ _ h0)).trans h0, (hW.cell (World.block_lt_of_cell? _ _ h1)).trans h1⟩
  have HLK : Hid (∀ W, Below w.heap.size w W → ∃ so po to, (Instr.lookup 69 (.map (some mb)) (.agg #[.string (strOfNums xs), .int .i64 1]) true).run Tryz.prog W = .ok (.tuple #[.agg #[.string so, .int .i64 po, .int .i64 to], .bool (decide (0 ≤ findW T xs false))]) W ∧ (0 ≤ findW T xs false → (Value.agg #[.string so, .int .i64 po, .int .i64 to]) = encV (opW T (findW T xs false)))) := fun W hW => by
    obtain ⟨so, po, to, h, h2⟩ := (hM.below hW).look xs hl false
    exact ⟨so, po, to, h, fun hh => (h2 hh).1⟩
  have HLP : Hid (∀ W, Below w.heap.size w W → ∃ so po to, (Instr.lookup 69 (.map (some mb)) (.agg #[.string (strOfNums xs), .int .i64 0]) true).run Tryz.prog W = .ok (.tuple #[.agg #[.string so, .int .i64 po, .int .i64 to], .bool (decide (0 ≤ findW T xs true))]) W ∧ (0 ≤ findW T xs true → (Value.agg #[.string so, .int .i64 po, .int .i64 to]) = encV (opW T (findW T xs true)))) := fun W hW => by
    obtain ⟨so, po, to, h, h2⟩ := (hM.below hW).look xs hl true
    exact ⟨so, po, to, h, fun hh => (h2 hh).1⟩
  clear h0 h1 hal hM hi hl
  obtain ⟨s, es⟩ : ∃ s, s = strOfNums xs := ⟨_, rfl⟩
  rw [← es] at HFU H01 HLK HLP
  clear es
  cases hss : (s.toList == [46])
  all_goals
    go_enter Tryz.func88, Tryz.ntmps88
    go_wp2_with fail
    refine HFU.mono ?_
    rintro e w1 ⟨rfl, hb1⟩
    have HB1 : Hid (Below w.heap.size w w1) := HAL.out.trans (hb1.mono (by simp))
    obtain ⟨so, po, to, hlk, hop⟩ := HLK.out w1 HB1.out
    have HOP : Hid _ := hop
    obtain ⟨e0, e1⟩ := H01.out w1 HB1.out
    have HRB : Hid (∀ W, Below (w1.alloc (.cells #[.string so, .int .i64 po, .int .i64 to] 97)).heap.size (w1.alloc (.cells #[.string so, .int .i64 po, .int .i64 to] 97)) W → W.heap[w.heap.size]? = some (.cells #[.string ⟨#[]⟩, .int .i64 0, .int .i64 0] 97)) := fun W hW => by
      have hlt : w.heap.size < w1.heap.size := by have := hb1.size; simp at this; omega
      rw [hW.block _ (by simp; omega), Below.heap_alloc _ _ _ hlt, hb1.block w.heap.size (by simp), heap_alloc_new]
    have hrne : ¬ w1.heap.size = w.heap.size := by have := hb1.size; simp at this; omega
    have hal1 : Below w1.heap.size w1 (w1.alloc (.cells #[.string so, .int .i64 po, .int .i64 to] 97)) := (Below.refl _ _).alloc (Nat.le_refl _) _
    obtain ⟨e0', e1'⟩ := H01.out _ (Below.on HB1.out hal1)
    have HB2 : Hid (Below w.heap.size w (w1.alloc (.cells #[.string so, .int .i64 po, .int .i64 to] 97))) := Below.on HB1.out hal1
    have HS0 : Hid (∀ W, Below (w1.alloc (.cells #[.string so, .int .i64 po, .int .i64 to] 97)).heap.size (w1.alloc (.cells #[.string so, .int .i64 po, .int .i64 to] 97)) W → W.cell? ⟨w1.heap.size, 0, none⟩ = some (.string so) ∧ W.cell? ⟨w1.heap.size, 1, none⟩ = some (.int .i64 po) ∧ W.cell? ⟨w1.heap.size, 2, none⟩ = some (.int .i64 to)) := fun W hW => by
      obtain ⟨a0, a1, a2, _⟩ := three_cells ((hW.block w1.heap.size (by simp)).trans (heap_alloc_new w1 (.cells #[.string so, .int .i64 po, .int .i64 to] 97)))
      exact ⟨a0, a1, a2⟩
    obtain ⟨so2, po2, to2, hlp, hop2⟩ := HLP.out _ HB2.out
    have HOP2 : Hid _ := hop2
    have HAL3 : Hid (Below (w1.alloc (.cells #[.string so, .int .i64 po, .int .i64 to] 97)).heap.size (w1.alloc (.cells #[.string so, .int .i64 po, .int .i64 to] 97)) ((w1.alloc (.cells #[.string so, .int .i64 po, .int .i64 to] 97)).alloc (.cells #[.string so2, .int .i64 po2, .int .i64 to2] 97))) := (Below.refl _ _).alloc (Nat.le_refl _) _
    obtain ⟨z0, z1, z2, y0, y1, y2⟩ := three_cells (HRB.out _ HAL3.out)
    obtain ⟨pb, epb⟩ : ∃ pb, pb = postB to := ⟨_, rfl⟩
    have HPO : Hid (∀ W, Calls Tryz.prog 108 #[.agg #[.string so, .int .i64 po, .int .i64 to]] W fun e w' => e = .returned (.bool pb) ∧ Below W.heap.size W w') := fun W => by rw [epb]; exact isPost_any so po to W
    have HPB : Hid (pb = postB to) := epb
    clear hb1 HFU hop hop2 hal1 epb HLK HLP H01
    cases hp : decide (0 ≤ findW T xs true) with
    | true =>
      rw [hp] at hlp
      have hp2 := of_decide_eq_true hp
      have HI2 : Hid (i = findW T xs true) := by show _ = _; rw [HI.out, if_pos hp2]
      have HEV : Hid (Value.agg #[.string so2, .int .i64 po2, .int .i64 to2] = encV (opW T i)) := by show _ = _; rw [HI2.out]; exact HOP2.out hp2
      have HD : Hid (decide (0 ≤ i) = true) := by show _ = _; rw [HI2.out]; exact hp
      clear hp hp2 HS0 HPO
      generalize decide (0 ≤ findW T xs false) = fb at hlk
      go_wp2_with fail
      obtain ⟨r0, r1, r2⟩ := set3_same (W := (w1.alloc (.cells #[.string so, .int .i64 po, .int .i64 to] 97)).alloc (.cells #[.string so2, .int .i64 po2, .int .i64 to2] 97)) (rb := w.heap.size) (v0 := .string so2) (v1 := .int .i64 po2) (v2 := .int .i64 to2) z0 z1 z2
      exact bodyPost_ret (v := .tuple #[.agg #[.string so2, .int .i64 po2, .int .i64 to2], .bool true]) (by simp [results, Tryz.results88, go_sem, r0, r1, r2]) rfl ⟨so2, po2, to2, by rw [HD.out], fun _ => HEV.out, (((Below.on HB2.out HAL3.out).setCell (Nat.le_refl _) _).setCell (Nat.le_refl _) _).setCell (Nat.le_refl _) _⟩
    | false =>
      rw [hp] at hlp
      have hp2 := of_decide_eq_false hp
      have HI2 : Hid (i = if 0 ≤ findW T xs false ∧ postB (opW T (findW T xs false)).2.1 = true then findW T xs false else -1) := by show _ = _; rw [HI.out, if_neg hp2]
      clear hp hp2 z0 z1 z2 y0 y1 y2 HI
      cases hf : decide (0 ≤ findW T xs false) with
      | true =>
        rw [hf] at hlk
        have hf2 := of_decide_eq_true hf
        have HF : Hid (0 ≤ findW T xs false) := hf2
        have HEV : Hid (Value.agg #[.string so, .int .i64 po, .int .i64 to] = encV (opW T (findW T xs false))) := HOP.out hf2
        have HTO : Hid (to = (opW T (findW T xs false)).2.1) := by have h := HEV.out; unfold encV at h; simp at h; exact h.2.2
        have HRES : Hid (pb = decide (0 ≤ i)) := by
          show _ = _
          rw [HI2.out, ← HTO.out, ← HPB.out]
          cases pb <;> simp [hf2]
        have HIE : Hid (0 ≤ i → i = findW T xs false) := fun h => by
          rw [HI2.out] at h ⊢
          split at h
          · rename_i hh; rw [if_pos hh]
          · omega
        clear hf hf2
        go_wp2_with fail
        refine wp_region_held_drew (S := fun W => W.cell? ⟨w1.heap.size, 0, none⟩ = some (.string so) ∧ W.cell? ⟨w1.heap.size, 1, none⟩ = some (.int .i64 po) ∧ W.cell? ⟨w1.heap.size, 2, none⟩ = some (.int .i64 to)) (by kernel_rfl) (HS0.out _ (Below.on HAL3.out ((Below.refl _ _).drew))) (fun hHeld => ?_)
        have hS0 := HS0.out _ (Below.on HAL3.out ((Below.refl ((w1.alloc (.cells #[.string so, .int .i64 po, .int .i64 to] 97)).alloc (.cells #[.string so2, .int .i64 po2, .int .i64 to2] 97)).heap.size ((w1.alloc (.cells #[.string so, .int .i64 po, .int .i64 to] 97)).alloc (.cells #[.string so2, .int .i64 po2, .int .i64 to2] 97))).drew))
        refine hTake (i := 0) (v := .agg #[.string so, .int .i64 po, .int .i64 to]) (some 64) (by kernel_rfl) (by kernel_rfl) (by kernel_rfl) (by kernel_rfl) (by kernel_rfl) (fun _ _ _ h => h) (fun o ho W hSw => ?y0) (by assumption) ?_
        case y0 =>
          cases ho
          obtain ⟨s0, s1, s2⟩ := hSw
          simp [execOp, go_sem, Act.eval, s0, s1, s2]
        simp only [Act.put, zzA, zzB, zzC]
        refine hTake (i := 1) (v := .bool true) (some 65) (by kernel_rfl) (by kernel_rfl) (by kernel_rfl) (by kernel_rfl) (by kernel_rfl) (fun _ _ _ h => h) (fun o ho W hSw => ?y1) (by assumption) ?_
        case y1 =>
          cases ho
          obtain ⟨s0, s1, s2⟩ := hSw
          simp [execOp, go_sem, Act.eval]
        simp only [Act.put, zzA, zzB, zzC]
        refine hTake (i := 2) (v := .bool true) (some 66) (by kernel_rfl) (by kernel_rfl) (by kernel_rfl) (by kernel_rfl) (by kernel_rfl) (fun _ _ _ h => h) (fun o ho W hSw => ?y2) (by assumption) ?_
        case y2 =>
          cases ho
          obtain ⟨s0, s1, s2⟩ := hSw
          simp [execOp, go_sem, Act.eval]
        simp only [Act.put, zzA, zzB, zzC]
        refine hTake (i := 3) (v := .agg #[.string so, .int .i64 po, .int .i64 to]) (some 67) (by kernel_rfl) (by kernel_rfl) (by kernel_rfl) (by kernel_rfl) (by kernel_rfl) (fun _ _ _ h => h) (fun o ho W hSw => ?y3) (by assumption) ?_
        case y3 =>
          cases ho
          obtain ⟨s0, s1, s2⟩ := hSw
          simp [execOp, go_sem, Act.eval, s0, s1, s2]
        simp only [Act.put, zzA, zzB, zzC]
        refine hCallE (i := 4) (some 68) (by kernel_rfl) (by kernel_rfl) (by kernel_rfl) (fun o ho => ?y4) (HPO.out _) ?_ (fun ch w' h => by obtain ⟨h, _⟩ := h; simp at h) (fun w' h => by obtain ⟨h, _⟩ := h; simp at h)
        case y4 =>
          cases ho
          simp [execOp, go_sem, Act.eval]
        rintro u w5 ⟨hu, hb5⟩
        cases hu
        have HB5 : Hid (Below (w1.alloc (.cells #[.string so, .int .i64 po, .int .i64 to] 97)).heap.size (w1.alloc (.cells #[.string so, .int .i64 po, .int .i64 to] 97)) w5) := Below.on HAL3.out ((Below.refl _ _).drew.trans hb5)
        have hS5 := HS0.out _ HB5.out
        refine ⟨hS5, ?_⟩
        simp only [Act.put, zzA, zzB, zzC]
        clear hb5
        refine hTake (i := 5) (v := .bool (pb)) (some 69) (by kernel_rfl) (by kernel_rfl) (by kernel_rfl) (by kernel_rfl) (by kernel_rfl) (fun _ _ _ h => h) (fun o ho W hSw => ?y5) (by assumption) ?_
        case y5 =>
          cases ho
          obtain ⟨s0, s1, s2⟩ := hSw
          simp [execOp, go_sem, Act.eval]
        simp only [Act.put, zzA, zzB, zzC]
        obtain ⟨z0, z1, z2, y0, y1, y2⟩ := three_cells (HRB.out _ HB5.out)
        have HS9 := HS0.out _ HB5.out
        have hS9 : (fun W => W.cell? ⟨w1.heap.size, 0, none⟩ = some (.string so) ∧ W.cell? ⟨w1.heap.size, 1, none⟩ = some (.int .i64 po) ∧ W.cell? ⟨w1.heap.size, 2, none⟩ = some (.int .i64 to)) ((((w5).setCell ⟨w.heap.size, 0, none⟩ (.string so)).setCell ⟨w.heap.size, 1, none⟩ (.int .i64 po)).setCell ⟨w.heap.size, 2, none⟩ (.int .i64 to)) := ⟨(set3_other hrne _ _ _ _ 0 0).trans HS9.1, (set3_other hrne _ _ _ _ 0 1).trans HS9.2.1, (set3_other hrne _ _ _ _ 0 2).trans HS9.2.2⟩
        refine hStore (i := 6) (w' := (((w5).setCell ⟨w.heap.size, 0, none⟩ (.string so)).setCell ⟨w.heap.size, 1, none⟩ (.int .i64 po)).setCell ⟨w.heap.size, 2, none⟩ (.int .i64 to)) (by kernel_rfl) (by kernel_rfl) (by kernel_rfl) (fun o ho => ?y6) hS9 ?_
        case y6 =>
          cases ho
          simp [execOp, go_sem, Act.eval, z0, z1, z2, y0, y1, y2]
        refine hTake (i := 7) (v := .bool (pb)) (some 5) (by kernel_rfl) (by kernel_rfl) (by kernel_rfl) (by kernel_rfl) (by kernel_rfl) (fun _ _ _ h => h) (fun o ho W hSw => ?y7) (by assumption) ?_
        case y7 =>
          cases ho
          obtain ⟨s0, s1, s2⟩ := hSw
          simp [execOp, go_sem, Act.eval]
        simp only [Act.put, zzA, zzB, zzC]
        refine wpAnyH_done (by kernel_rfl) ?_ _
        change Exit.then _ _ _ _ _
        go_wp2_with fail
        obtain ⟨r0, r1, r2⟩ := set3_same (W := w5) (rb := w.heap.size) (v0 := .string so) (v1 := .int .i64 po) (v2 := .int .i64 to) z0 z1 z2
        exact bodyPost_ret (v := .tuple #[.agg #[.string so, .int .i64 po, .int .i64 to], .bool (pb)]) (by simp [results, Tryz.results88, go_sem, r0, r1, r2]) rfl ⟨so, po, to, by rw [HRES.out], fun h => by rw [HIE.out h]; exact HEV.out, ((((Below.on HB2.out HB5.out).setCell (Nat.le_refl _) _).setCell (Nat.le_refl _) _).setCell (Nat.le_refl _) _)⟩
      | false =>
        rw [hf] at hlk
        have hf2 := of_decide_eq_false hf
        have HNO : Hid (i = -1) := by show _ = _; rw [HI2.out, if_neg (fun h => hf2 h.1)]
        have HRES : Hid (false = decide (0 ≤ i)) := by show _ = _; rw [HNO.out]; rfl
        clear hf hf2
        go_wp2_with fail
        refine wp_region_held_drew (S := fun W => W.cell? ⟨w1.heap.size, 0, none⟩ = some (.string so) ∧ W.cell? ⟨w1.heap.size, 1, none⟩ = some (.int .i64 po) ∧ W.cell? ⟨w1.heap.size, 2, none⟩ = some (.int .i64 to)) (by kernel_rfl) (HS0.out _ (Below.on HAL3.out ((Below.refl _ _).drew))) (fun hHeld => ?_)
        have HB5 : Hid (Below (w1.alloc (.cells #[.string so, .int .i64 po, .int .i64 to] 97)).heap.size (w1.alloc (.cells #[.string so, .int .i64 po, .int .i64 to] 97)) ((w1.alloc (.cells #[.string so, .int .i64 po, .int .i64 to] 97)).alloc (.cells #[.string so2, .int .i64 po2, .int .i64 to2] 97)).drew) := Below.on HAL3.out ((Below.refl _ _).drew)
        obtain ⟨w5, ew5⟩ : ∃ w5, w5 = ((w1.alloc (.cells #[.string so, .int .i64 po, .int .i64 to] 97)).alloc (.cells #[.string so2, .int .i64 po2, .int .i64 to2] 97)).drew := ⟨_, rfl⟩
        rw [← ew5] at HB5 hHeld ⊢
        clear ew5
        have hS0 := HS0.out _ HB5.out
        refine hTake (i := 0) (v := .agg #[.string so, .int .i64 po, .int .i64 to]) (some 64) (by kernel_rfl) (by kernel_rfl) (by kernel_rfl) (by kernel_rfl) (by kernel_rfl) (fun _ _ _ h => h) (fun o ho W hSw => ?y0) (by assumption) ?_
        case y0 =>
          cases ho
          obtain ⟨s0, s1, s2⟩ := hSw
          simp [execOp, go_sem, Act.eval, s0, s1, s2]
        simp only [Act.put, zzA, zzB, zzC]
        refine hTake (i := 1) (v := .bool false) (some 65) (by kernel_rfl) (by kernel_rfl) (by kernel_rfl) (by kernel_rfl) (by kernel_rfl) (fun _ _ _ h => h) (fun o ho W hSw => ?y1) (by assumption) ?_
        case y1 =>
          cases ho
          obtain ⟨s0, s1, s2⟩ := hSw
          simp [execOp, go_sem, Act.eval]
        simp only [Act.put, zzA, zzB, zzC]
        refine hTake (i := 2) (v := .bool false) (some 66) (by kernel_rfl) (by kernel_rfl) (by kernel_rfl) (by kernel_rfl) (by kernel_rfl) (fun _ _ _ h => h) (fun o ho W hSw => ?y2) (by assumption) ?_
        case y2 =>
          cases ho
          obtain ⟨s0, s1, s2⟩ := hSw
          simp [execOp, go_sem, Act.eval]
        simp only [Act.put, zzA, zzB, zzC]
        refine hSkip (i := 3) (some 67) (by kernel_rfl) (by kernel_rfl) (by kernel_rfl) (by kernel_rfl) (by kernel_rfl) (fun _ _ _ h => h) (by assumption) ?_
        simp only [Act.put, zzA, zzB, zzC]
        refine hSkip (i := 4) (some 68) (by kernel_rfl) (by kernel_rfl) (by kernel_rfl) (by kernel_rfl) (by kernel_rfl) (fun _ _ _ h => h) (by assumption) ?_
        simp only [Act.put, zzA, zzB, zzC]
        refine hTake (i := 5) (v := .bool false) (some 69) (by kernel_rfl) (by kernel_rfl) (by kernel_rfl) (by kernel_rfl) (by kernel_rfl) (fun _ _ _ h => h) (fun o ho W hSw => ?y5) (by assumption) ?_
        case y5 =>
          cases ho
          obtain ⟨s0, s1, s2⟩ := hSw
          simp [execOp, go_sem, Act.eval]
        simp only [Act.put, zzA, zzB, zzC]
        obtain ⟨z0, z1, z2, y0, y1, y2⟩ := three_cells (HRB.out _ HB5.out)
        have HS9 := HS0.out _ HB5.out
        have hS9 : (fun W => W.cell? ⟨w1.heap.size, 0, none⟩ = some (.string so) ∧ W.cell? ⟨w1.heap.size, 1, none⟩ = some (.int .i64 po) ∧ W.cell? ⟨w1.heap.size, 2, none⟩ = some (.int .i64 to)) ((((w5).setCell ⟨w.heap.size, 0, none⟩ (.string so)).setCell ⟨w.heap.size, 1, none⟩ (.int .i64 po)).setCell ⟨w.heap.size, 2, none⟩ (.int .i64 to)) := ⟨(set3_other hrne _ _ _ _ 0 0).trans HS9.1, (set3_other hrne _ _ _ _ 0 1).trans HS9.2.1, (set3_other hrne _ _ _ _ 0 2).trans HS9.2.2⟩
        refine hStore (i := 6) (w' := (((w5).setCell ⟨w.heap.size, 0, none⟩ (.string so)).setCell ⟨w.heap.size, 1, none⟩ (.int .i64 po)).setCell ⟨w.heap.size, 2, none⟩ (.int .i64 to)) (by kernel_rfl) (by kernel_rfl) (by kernel_rfl) (fun o ho => ?y6) hS9 ?_
        case y6 =>
          cases ho
          simp [execOp, go_sem, Act.eval, z0, z1, z2, y0, y1, y2]
        refine hTake (i := 7) (v := .bool false) (some 5) (by kernel_rfl) (by kernel_rfl) (by kernel_rfl) (by kernel_rfl) (by kernel_rfl) (fun _ _ _ h => h) (fun o ho W hSw => ?y7) (by assumption) ?_
        case y7 =>
          cases ho
          obtain ⟨s0, s1, s2⟩ := hSw
          simp [execOp, go_sem, Act.eval]
        simp only [Act.put, zzA, zzB, zzC]
        refine wpAnyH_done (by kernel_rfl) ?_ _
        change Exit.then _ _ _ _ _
        go_wp2_with fail
        obtain ⟨r0, r1, r2⟩ := set3_same (W := w5) (rb := w.heap.size) (v0 := .string so) (v1 := .int .i64 po) (v2 := .int .i64 to) z0 z1 z2
        exact bodyPost_ret (v := .tuple #[.agg #[.string so, .int .i64 po, .int .i64 to], .bool false]) (by simp [results, Tryz.results88, go_sem, r0, r1, r2]) rfl ⟨so, po, to, by rw [← HRES.out], fun h => by have := HNO.out; omega, ((((Below.on HB2.out HB5.out).setCell (Nat.le_refl _) _).setCell (Nat.le_refl _) _).setCell (Nat.le_refl _) _)⟩
end Go.Proofs.YtelcfcgdnebdgaaGreatDoor
