/- Texts of WiH, WiI, RegK3. Own work of the verifier. -/
import Derived.Test.YtgonpnnlpkjkcaaGreatDoorUqaw
import Derived.Test.YtgonpnnlpkjkcaaGreatDoorUqae
import Derived.Test.YtgonpnnlpkjkcaaGreatDoorUqau
import Derived.Test.YtgonpnnlpkjkcaaGreatDoorUqas
import Derived.Deep.RegionLaw
import Derived.Deep.Cut
import Derived.Test.YtgonpnnlpkjkcaaGreatDoorUqah
namespace Go.Proofs.YtgonpnnlpkjkcaaGreatDoor
open Go Go.RowKit
set_option linter.unusedVariables false

theorem all_sym {xs : List Int} (h : Byte xs) : allB 8 xs = decide (runLen symbolB xs = xs.length) := by
  have e : allB 8 xs = xs.all symbolB := all_same fun y hy => (isOf_at (h y hy).1 (h y hy).2).2.2
  rw [e, Bool.eq_iff_iff, decide_eq_true_iff, runLen_all]
set_option maxRecDepth 100000 in
set_option maxHeartbeats 1000000 in
theorem isSpaced_any (op : Cel) (hb : Byte op.2.2) (hl : op.2.2.length ≤ 100) (w : World) (hT : Tab w) : Calls Tryz.prog 114 #[encV op] w fun e w' => e = .returned (.bool (spacedB op.2.2)) ∧ Below w.heap.size w w' := by
  have HF : Hid (∀ b, b = spacedB op.2.2 → Ending.returned (.bool b) = .returned (.bool (spacedB op.2.2))) := fun b h => ret_bool h
  have HR : Hid (spacedB op.2.2 = ((decide (runLen symbolB op.2.2 ≠ op.2.2.length) || !plainB op.2.2) && (decide (op.2.2 ≠ [44]) && (decide (op.2.2 ≠ [59]) && decide (op.2.2 ≠ [33]))))) := rfl
  have t1 := str_eq hb [44]
  have t2 := str_eq hb [59]
  have t3 := str_eq hb [33]
  have hal : Below w.heap.size w (w.alloc (.cells #[.string (strOfNums op.2.2), .int .i64 op.1, .int .i64 op.2.1] 87)) := (Below.refl _ _).alloc (Nat.le_refl _) _
  have HAL : Hid _ := hal
  have bits : ∀ (u : List UInt8) (x : List Int), u.map (fun y => (y.toNat : Int)) = x → ((strOfNums op.2.2).toList == u) = decide (op.2.2 = x) := fun u x hx => by rw [Bool.eq_iff_iff, beq_iff_eq, decide_eq_true_iff, str_eq hb u, hx]
  have b1 := bits [44] [44] rfl
  have b2 := bits [59] [59] rfl
  have b3 := bits [33] [33] rfl
  clear t1 t2 t3 bits
  unfold encV
  by_cases h1 : op.2.2 = [44] ∨ op.2.2 = [59] ∨ op.2.2 = [33]
  · have HR2 : Hid (spacedB op.2.2 = false) := by
      show _ = _
      rw [HR.out]
      rcases h1 with h | h | h <;> simp [h]
    cases g1 : decide (op.2.2 = [44]) <;> cases g2 : decide (op.2.2 = [59]) <;> cases g3 : decide (op.2.2 = [33])
    · simp only [decide_eq_false_iff_not] at g1 g2 g3
      rcases h1 with h | h | h
      · exact absurd h g1
      · exact absurd h g2
      · exact absurd h g3
    all_goals
      rw [g1] at b1
      rw [g2] at b2
      rw [g3] at b3
      clear g1 g2 g3 h1 hb hl hT hal HR
      generalize strOfNums op.2.2 = s at b1 b2 b3 HAL ⊢
      go_enter Tryz.func114, Tryz.ntmps114
      go_wp2_with fail
      go_ret
      exact ⟨HF.out _ HR2.out.symm, HAL.out⟩
  · have g1 : ¬ op.2.2 = [44] := fun h => h1 (.inl h)
    have g2 : ¬ op.2.2 = [59] := fun h => h1 (.inr (.inl h))
    have g3 : ¬ op.2.2 = [33] := fun h => h1 (.inr (.inr h))
    have HR2 : Hid (spacedB op.2.2 = (!allB 8 op.2.2 || !plainB op.2.2)) := by
      show _ = _
      rw [HR.out, all_sym hb]
      simp [g1, g2, g3]
    rw [decide_eq_false g1] at b1
    rw [decide_eq_false g2] at b2
    rw [decide_eq_false g3] at b3
    obtain ⟨w1, cap1, hcv, hb1, hrow, hcap⟩ := convW (w.alloc (.cells #[.string (strOfNums op.2.2), .int .i64 op.1, .int .i64 op.2.1] 87)) op.2.2 hb
    have HA := allOf_any _ cap1 op.2.2 8 w1 hb (by omega) hrow.2 ((hT.below hal).below hb1)
    have HP := implPlain_any _ cap1 op.2.2 w1 hb (by omega) hcap hrow.2 ((hT.below hal).below hb1)
    have HB1 : Hid (Below w.heap.size w w1) := Below.on hal hb1
    obtain ⟨A, eA⟩ : ∃ A, A = allB 8 op.2.2 := ⟨_, rfl⟩
    obtain ⟨Q, eQ⟩ : ∃ A, A = plainB op.2.2 := ⟨_, rfl⟩
    obtain ⟨L, eL⟩ : ∃ A, A = op.2.2.length := ⟨_, rfl⟩
    rw [← eA] at HA HR2
    rw [← eQ] at HP HR2
    rw [← eL] at HA HP hcv
    clear eA eQ eL g1 g2 g3 h1 hb hl hT HR hb1 hrow hcap hal HAL
    have hsz : (w.alloc (.cells #[.string (strOfNums op.2.2), .int .i64 op.1, .int .i64 op.2.1] 87)).heap.size = w.heap.size + 1 := by simp
    rw [hsz] at HA HP hcv
    clear hsz
    generalize strOfNums op.2.2 = s at b1 b2 b3 hcv ⊢
    cases A with
    | false =>
      go_enter Tryz.func114, Tryz.ntmps114
      go_wp2_with fail
      refine HA.mono ?_
      rintro e w2 ⟨rfl, rfl⟩
      go_wp2_with fail
      go_ret
      exact ⟨HF.out _ HR2.out.symm, HB1.out⟩
    | true =>
      go_enter Tryz.func114, Tryz.ntmps114
      go_wp2_with fail
      refine HA.mono ?_
      rintro e w2 ⟨rfl, rfl⟩
      go_wp2_with fail
      refine HP.mono ?_
      rintro e w3 ⟨rfl, hb3⟩
      have HB3 : Hid (Below w.heap.size w w3) := Below.on HB1.out hb3
      clear hb3
      cases Q
      all_goals
        go_wp2_with fail
        go_ret
        exact ⟨HF.out _ HR2.out.symm, HB3.out⟩
set_option maxRecDepth 100000 in
theorem has_any {w : World} {b N : Nat} {T : List Cel} (h : OpMap w b N T) (xs : List Int) (hl : xs.length ≤ 1000000) : Calls Tryz.prog 125 #[.map (some b), .string (strOfNums xs)] w fun e w' => e = .returned (.bool (decide (0 ≤ findW T xs true) || decide (0 ≤ findW T xs false))) ∧ Below w.heap.size w w' := by
  obtain ⟨so, po, to, hk1, _⟩ := h.look xs hl true
  have hal : Below w.heap.size w (w.alloc (.cells #[.string so, .int .i64 po, .int .i64 to] 87)) := (Below.refl _ _).alloc (Nat.le_refl _) _
  obtain ⟨so2, po2, to2, hk2, _⟩ := (h.below hal).look xs hl false
  have e1 : sortI true = 0 := rfl
  have e2 : sortI false = 1 := rfl
  rw [e1] at hk1
  rw [e2] at hk2
  have HAL : Hid (Below w.heap.size w ((w.alloc (.cells #[.string so, .int .i64 po, .int .i64 to] 87)).alloc (.cells #[.string so2, .int .i64 po2, .int .i64 to2] 87))) := hal.alloc hal.size _
  clear h hl hal e1 e2
  generalize decide (0 ≤ findW T xs true) = d1 at hk1 ⊢
  generalize decide (0 ≤ findW T xs false) = d2 at hk2 ⊢
  generalize strOfNums xs = s at hk1 hk2 ⊢
  cases d1
  all_goals
    go_enter Tryz.func125, Tryz.ntmps125
    go_wp2_with fail
    go_ret
    exact ⟨rfl, HAL.out⟩

set_option maxRecDepth 100000 in
theorem varText_any {W0 w : World} {wb : Nat} {K : WK} {p : Option Addr} {n c : Nat} {R : List Int} {k : Nat} (h : WS W0 w wb K p n c R k) (N : List (List Int)) (hN : NIn w K.2.1 N) (hNl : K.2.2.1 = N.length) (hN1 : N.length ≤ 1000000000) (hN2 : ∀ i, i < N.length → (N.getD i []).length ≤ 1000000000) (v : Int) (h0 : 0 ≤ v) (h1 : v ≤ 1000000) (hP : TabP w) :
    Calls Tryz.prog 50 #[.pointer (some ⟨wb, 0, none⟩), .int .i64 v] w fun e w' => e = .returned (.string (strOfNums (varW N v))) ∧ Below w.heap.size w w' := by
  have c3 := h.c3
  rw [hNl] at c3
  have HI := itoaW_any v (by omega) (by omega) w hP
  obtain ⟨m, rfl⟩ : ∃ m : Nat, v = m := ⟨v.toNat, by omega⟩
  have hcat : (⟨#[95]⟩ : ByteArray) ++ strOfNums (decW m) = strOfNums (95 :: decW m) := by
    apply ba_ext
    rw [str_list, ByteArray.toList_eq]
    simp [strOfNums]
  have hdl : (strOfNums (decW m)).size ≤ 1000 := by
    have h2 : (decW m).length ≤ 21 := dec_len 20 m
    have h3 : (strOfNums (decW m)).size = (decW m).length := by simp [strOfNums, ByteArray.size]
    omega
  by_cases hlt : m < N.length
  · obtain ⟨b, o, hp, hcs⟩ := hN (by omega)
    obtain ⟨q, qc, d0, d1⟩ := hcs m hlt
    rw [hp] at c3
    by_cases hpos : 0 < (N.getD m []).length
    · have hV : varW N m = N.getD m [] := by unfold varW; rw [if_pos ⟨by omega, by simpa using hpos⟩]; simp
      rw [hV]
      have hcv := conv_str d1 (N.getD m []).length qc rfl 9 Tryz.underlying9
      have hln := hN2 m hlt
      obtain ⟨L, eL⟩ : ∃ L, L = (N.getD m []).length := ⟨_, rfl⟩
      rw [← eL] at d0 hpos hcv hln
      obtain ⟨NL, eNL⟩ : ∃ L, L = N.length := ⟨_, rfl⟩
      rw [← eNL] at c3 hlt hN1
      clear h hN hNl hN2 h0 HI hcat hdl hp hcs d1 hV eL eNL hP
      generalize strOfNums (N.getD m []) = s at hcv ⊢
      have z1 : decide ((m : Int) < (NL : Int)) = true := by simp; omega
      have z2 : decide ((0 : Int) < (L : Int)) = true := by simp; omega
      have z3 : (m : Int) < (NL : Int) := by omega
      have z4 : (0 : Int) < (L : Int) := by omega
      go_enter Tryz.func50, Tryz.ntmps50
      go_wp2_with fail
      go_ret
      exact ⟨rfl, Below.refl _ _⟩
    · have hV : varW N m = 95 :: decW m := by unfold varW; rw [if_neg (fun hh => hpos (by simpa using hh.2))]
      rw [hV, ← hcat]
      have hz0 : (N.getD m []).length = 0 := by omega
      rw [hz0] at d0
      obtain ⟨NL, eNL⟩ : ∃ L, L = N.length := ⟨_, rfl⟩
      rw [← eNL] at c3 hlt hN1
      clear h hN hNl hN2 h0 hcat hp hcs d1 hV eNL hpos hz0 hP
      generalize strOfNums (decW m) = s at HI hdl ⊢
      have z1 : decide ((m : Int) < (NL : Int)) = true := by simp; omega
      have z3 : (m : Int) < (NL : Int) := by omega
      go_enter Tryz.func50, Tryz.ntmps50
      go_wp2_with fail
      refine HI.mono ?_
      rintro e w1 ⟨rfl, hb1⟩
      have HB : Hid (Below w.heap.size w w1) := hb1
      clear hb1 HI
      go_wp2_with fail
      go_ret
      exact ⟨rfl, HB.out⟩
  · have hV : varW N m = 95 :: decW m := by unfold varW; rw [if_neg (fun hh => hlt (by omega))]
    rw [hV, ← hcat]
    obtain ⟨NL, eNL⟩ : ∃ L, L = N.length := ⟨_, rfl⟩
    rw [← eNL] at c3 hlt hN1
    obtain ⟨pn, epn⟩ : ∃ pn, pn = K.2.1 := ⟨_, rfl⟩
    rw [← epn] at c3
    clear h hN hNl hN2 h0 hcat hV eNL hP epn
    generalize strOfNums (decW m) = s at HI hdl ⊢
    have z1 : decide ((m : Int) < (NL : Int)) = false := by simp; omega
    have z3 : ¬ (m : Int) < (NL : Int) := by omega
    go_enter Tryz.func50, Tryz.ntmps50
    go_wp2_with fail
    refine HI.mono ?_
    rintro e w1 ⟨rfl, hb1⟩
    have HB : Hid (Below w.heap.size w w1) := hb1
    clear hb1 HI
    go_wp2_with fail
    go_ret
    exact ⟨rfl, HB.out⟩

end Go.Proofs.YtgonpnnlpkjkcaaGreatDoor

namespace Go.Proofs.YtgonpnnlpkjkcaaGreatDoor
open Go Go.RowKit
set_option linter.unusedVariables false

theorem wiA_var (w : World) (x : Value) : (Instr.typeAssert (.iface 93 x) 71 99 true).run Tryz.prog w = .ok (.tuple #[.pointer none, .bool false]) w := by kernel_rfl
theorem wiA_num (w : World) (x : Value) : (Instr.typeAssert (.iface 96 x) 71 99 true).run Tryz.prog w = .ok (.tuple #[.pointer none, .bool false]) w := by kernel_rfl
theorem wiA_atom (w : World) (x : Value) : (Instr.typeAssert (.iface 97 x) 71 99 true).run Tryz.prog w = .ok (.tuple #[.pointer none, .bool false]) w := by kernel_rfl
theorem wiA_comp (w : World) (x : Value) : (Instr.typeAssert (.iface 99 x) 71 99 true).run Tryz.prog w = .ok (.tuple #[x, .bool true]) w := by kernel_rfl
theorem three_cells {w5 : World} {g : Nat} {a b c : Value} {t : TypeId} (h : w5.heap[g]? = some (.cells #[a, b, c] t (0, 0))) : w5.cell? ⟨g, 0, none⟩ = some a ∧ w5.cell? ⟨g, 1, none⟩ = some b ∧ w5.cell? ⟨g, 2, none⟩ = some c ∧ w5.frozen? ⟨g, 0, none⟩ = false ∧ w5.frozen? ⟨g, 1, none⟩ = false ∧ w5.frozen? ⟨g, 2, none⟩ = false := by
  refine ⟨cell_of_row _ _ 0 _ _ _ h, cell_of_row _ _ 1 _ _ _ h, cell_of_row _ _ 2 _ _ _ h, ?_, ?_, ?_⟩
  all_goals (unfold World.frozen?; rw [h]; rfl)
set_option maxRecDepth 100000 in
theorem functorW_any (b g q : Nat) (str : ByteArray) (w : World) (h0 : w.cell? ⟨b, 0, none⟩ = some (.string str)) (h1 : w.cell? ⟨b, 1, none⟩ = some (.slice (some ⟨g, 0, none⟩) q q)) :
    Calls Tryz.prog 80 #[.pointer (some ⟨b, 0, none⟩)] w fun e w' => e = .returned (.agg #[.string str, .int .i64 q]) ∧ Below w.heap.size w w' := by
  have a0 : ∀ x, (w.alloc x).cell? ⟨b, 0, none⟩ = some (.string str) := fun x => Lib.cell?_alloc_marked x h0
  have a1 : ∀ x, (w.alloc x).cell? ⟨b, 1, none⟩ = some (.slice (some ⟨g, 0, none⟩) q q) := fun x => Lib.cell?_alloc_marked x h1
  go_enter Tryz.func80, Tryz.ntmps80
  go_wp2_with fail
  go_region
  all_goals go_wp2_with fail
  all_goals exact bodyPost_ret (v := .agg #[.string str, .int .i64 q]) (by simp [results, Tryz.results80, go_sem]) rfl ⟨rfl, ((Below.refl _ _).alloc (Nat.le_refl _) _).drew⟩
/-- What writtenWith answers. -/
def WwOut (w : World) (T : List Cel) (i : Int) (e : Ending) (w' : World) : Prop :=
  ∃ so po to, e = .returned (.tuple #[.agg #[.string so, .int .i64 po, .int .i64 to], .bool (decide (0 ≤ i))]) ∧ (0 ≤ i → (Value.agg #[.string so, .int .i64 po, .int .i64 to]) = encV (opW T i)) ∧ Below w.heap.size w w'

set_option maxRecDepth 100000 in
theorem ww_var (m : Option Nat) (x : Value) (T : List Cel) (w : World) : Calls Tryz.prog 77 #[.map m, .iface 93 x] w (WwOut w T (-1)) := by
  have n1 := wiA_var
  have HF : Hid (∀ W, Below w.heap.size w W → WwOut w T (-1) (.returned (.tuple #[.agg #[.string ⟨#[]⟩, .int .i64 0, .int .i64 0], .bool false])) W) := fun W hW => ⟨_, _, _, rfl, fun h => absurd h (by decide), hW⟩
  go_enter Tryz.func77, Tryz.ntmps77
  go_wp2_with fail
  exact bodyPost_ret (v := .tuple #[.agg #[.string ⟨#[]⟩, .int .i64 0, .int .i64 0], .bool false]) (by simp [results, Tryz.results77, go_sem]) rfl (HF.out _ ((Below.refl _ _).alloc (Nat.le_refl _) _))
set_option maxRecDepth 100000 in
theorem ww_num (m : Option Nat) (x : Value) (T : List Cel) (w : World) : Calls Tryz.prog 77 #[.map m, .iface 96 x] w (WwOut w T (-1)) := by
  have n1 := wiA_num
  have HF : Hid (∀ W, Below w.heap.size w W → WwOut w T (-1) (.returned (.tuple #[.agg #[.string ⟨#[]⟩, .int .i64 0, .int .i64 0], .bool false])) W) := fun W hW => ⟨_, _, _, rfl, fun h => absurd h (by decide), hW⟩
  go_enter Tryz.func77, Tryz.ntmps77
  go_wp2_with fail
  exact bodyPost_ret (v := .tuple #[.agg #[.string ⟨#[]⟩, .int .i64 0, .int .i64 0], .bool false]) (by simp [results, Tryz.results77, go_sem]) rfl (HF.out _ ((Below.refl _ _).alloc (Nat.le_refl _) _))
set_option maxRecDepth 100000 in
theorem ww_atom (m : Option Nat) (x : Value) (T : List Cel) (w : World) : Calls Tryz.prog 77 #[.map m, .iface 97 x] w (WwOut w T (-1)) := by
  have n1 := wiA_atom
  have HF : Hid (∀ W, Below w.heap.size w W → WwOut w T (-1) (.returned (.tuple #[.agg #[.string ⟨#[]⟩, .int .i64 0, .int .i64 0], .bool false])) W) := fun W hW => ⟨_, _, _, rfl, fun h => absurd h (by decide), hW⟩
  go_enter Tryz.func77, Tryz.ntmps77
  go_wp2_with fail
  exact bodyPost_ret (v := .tuple #[.agg #[.string ⟨#[]⟩, .int .i64 0, .int .i64 0], .bool false]) (by simp [results, Tryz.results77, go_sem]) rfl (HF.out _ ((Below.refl _ _).alloc (Nat.le_refl _) _))

set_option maxRecDepth 100000 in
set_option maxHeartbeats 1000000 in
/-- A pair of a list is written with no operator. -/
theorem ww_dot (m : Option Nat) (b g : Nat) (T : List Cel) (w : World) (s : ByteArray) (hs : (s.toList == [46]) = true) (h0 : w.cell? ⟨b, 0, none⟩ = some (.string s)) (h1 : w.cell? ⟨b, 1, none⟩ = some (.slice (some ⟨g, 0, none⟩) 2 2)) :
    Calls Tryz.prog 77 #[.map m, .iface 99 (.pointer (some ⟨b, 0, none⟩))] w (WwOut w T (-1)) := by
  have n1 := wiA_comp
  have hal : Below w.heap.size w (w.alloc (.cells #[.string ⟨#[]⟩, .int .i64 0, .int .i64 0] 87)) := (Below.refl _ _).alloc (Nat.le_refl _) _
  have HFU := functorW_any b g 2 s (w.alloc (.cells #[.string ⟨#[]⟩, .int .i64 0, .int .i64 0] 87)) ((hal.cell (World.block_lt_of_cell? _ _ h0)).trans h0) ((hal.cell (World.block_lt_of_cell? _ _ h1)).trans h1)
  have HF : Hid (∀ W, Below w.heap.size w W → WwOut w T (-1) (.returned (.tuple #[.agg #[.string ⟨#[]⟩, .int .i64 0, .int .i64 0], .bool false])) W) := fun W hW => ⟨_, _, _, rfl, fun h => absurd h (by decide), hW⟩
  have HAL : Hid _ := hal
  clear h0 h1 hal
  go_enter Tryz.func77, Tryz.ntmps77
  go_wp2_with fail
  refine HFU.mono ?_
  rintro e w1 ⟨rfl, hb1⟩
  have k := hb1.block w.heap.size (by simp)
  rw [heap_alloc_new] at k
  obtain ⟨c0, c1, c2, f0, f1, f2⟩ := three_cells k
  have HB : Hid (Below w.heap.size w w1) := HAL.out.trans (hb1.mono (by simp))
  clear hb1 k HFU
  go_wp2_with fail
  exact bodyPost_ret (v := .tuple #[.agg #[.string ⟨#[]⟩, .int .i64 0, .int .i64 0], .bool false]) (by simp [results, Tryz.results77, go_sem, c0, c1, c2]) rfl (HF.out _ (((HB.out.setCell (Nat.le_refl _) _).setCell (Nat.le_refl _) _).setCell (Nat.le_refl _) _))

end Go.Proofs.YtgonpnnlpkjkcaaGreatDoor

namespace Go.Proofs.YtgonpnnlpkjkcaaGreatDoor
open Go
theorem hStore {P : Program} {ops : Array Oper} {Q : Exit → Act → World → Prop} {md : Region.Mode} {S : World → Prop} {i : Nat} {fuel : Nat} {listed : Array Bool} {a : Act} {w w' : World} (hd : (ops[i]?).map (·.dst) = some none)
    (hr : Region.ready md ops listed = [i]) (hw : (ops[i]?).map (fun o => Region.wanted o (yielded ops a.tmps)) = some true)
    (hrun : ∀ o, ops[i]? = some o → (execOp a.eval o).run P w = .ok .skip w') (hS : S w') (h : wpAnyH P md ops Q S fuel (listed.setIfInBounds i true) a w') : wpAnyH P md ops Q S (fuel + 1) listed a w := by
  refine wpAnyH_all hr (by simp) ?_
  intro j hj
  obtain rfl : j = i := by simpa using hj
  cases hi : ops[j]? with
  | none => simp [hi] at hd
  | some o =>
    have hd' : o.dst = none := by simpa [hi] using hd
    have hw' : Region.wanted o (yielded ops a.tmps) = true := by simpa [hi] using hw
    unfold wpOp
    simp only [hi, hw', if_true, Oper.wp, hrun o hi, Oper.upon]
    exact .inl ⟨hS, by rw [hd']; exact h⟩
end Go.Proofs.YtgonpnnlpkjkcaaGreatDoor

