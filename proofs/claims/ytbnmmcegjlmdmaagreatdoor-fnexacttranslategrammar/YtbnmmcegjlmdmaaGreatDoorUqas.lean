/- Texts of LawValid, SS2, L1c, Cp1. Own work of the verifier. -/
import Derived.Test.YtbnmmcegjlmdmaaGreatDoorUqaf
import Derived.Test.YtbnmmcegjlmdmaaGreatDoorUqab
import Derived.Test.YtbnmmcegjlmdmaaGreatDoorUqar
import Derived.Test.YtbnmmcegjlmdmaaGreatDoorUqad
import Derived.Deep.Upon
import Derived.Test.YtbnmmcegjlmdmaaGreatDoorUqah
namespace Go.Proofs.YtbnmmcegjlmdmaaGreatDoor
open Go Go.RowKit
set_option linter.unusedVariables false
end Go.Proofs.YtbnmmcegjlmdmaaGreatDoor

namespace Go.Proofs.YtbnmmcegjlmdmaaGreatDoor
open Go Go.RowKit
set_option linter.unusedVariables false
structure CCArg (w : World) (p : Option Addr) (css : List (List Cel)) : Prop where
  lies : CCIn w p css
  len : css.length ≤ 9223372036854775807
  item : ∀ i, i < css.length → (css.getD i []).length ≤ 9223372036854775807 ∧ (∀ j, j < (css.getD i []).length → ((css.getD i []).getD j Cel.none).2.2.length ≤ 9223372036854775807) ∧ (∀ j, j < (css.getD i []).length → ∀ x ∈ ((css.getD i []).getD j Cel.none).2.2, 0 ≤ x ∧ x < 256)
theorem CCArg.below {W W' : World} {p : Option Addr} {css : List (List Cel)} (h : CCArg W p css) (hb : Below W.heap.size W W') : CCArg W' p css := ⟨h.lies.below hb, h.len, h.item⟩
def TightCC (w : World) (p : Option Addr) (css : List (List Cel)) : Prop := ∀ b o, p = some ⟨b, o, none⟩ → ∀ i, i < css.length → ∃ q, w.cell? ⟨b, o + i, none⟩ = some (.slice q (css.getD i []).length (css.getD i []).length)
theorem TightCC.below {w w' : World} {p : Option Addr} {css : List (List Cel)} (h : TightCC w p css) (hb : Below w.heap.size w w') : TightCC w' p css := fun b o hp i hi => by
  obtain ⟨q, hq⟩ := h b o hp i hi
  exact ⟨q, (hb.cell (World.block_lt_of_cell? _ _ hq)).trans hq⟩
end Go.Proofs.YtbnmmcegjlmdmaaGreatDoor

namespace Go.Proofs.YtbnmmcegjlmdmaaGreatDoor
open Go Go.RowKit
set_option linter.unusedVariables false
theorem news_of {w : World} {b o : Nat} {xs : List Int} (hc : ∀ i, i < xs.length → w.cell? ⟨b, o + i, none⟩ = some (.int .u8 (xs.getD i 0))) : ∀ j u, (xs.map (Value.int .u8))[j]? = some u → w.cell? ((⟨b, o, none⟩ : Addr).add j) = some u := fun j u hu => by
  have hj : j < xs.length := by
    rcases Nat.lt_or_ge j xs.length with h | h
    · exact h
    · simp [List.getElem?_eq_none h] at hu
  have e : (⟨b, o, none⟩ : Addr).add j = ⟨b, o + j, none⟩ := by unfold Addr.add; split <;> simp_all
  rw [e, hc j hj, ← hu]
  simp [List.getD, hj]
theorem app_nothing (w : World) {ops : Array Oper} {rest : List Oper} {o : Oper} {a : Act} {Q : Exit → Act → World → Prop} (hgd : o.guard = none) (s x : Operand)
    (ho : o.op = .call { callee := .builtin .append, args := #[s, x], argTypes := #[32, 32] }) (p : Option Addr) (n c : Nat) (hnc : n ≤ c) (hs : a.eval s = .slice p n c) (q : Option Addr) (c' : Nat) (hx : a.eval x = .slice q 0 c')
    (h : wpList Tryz.prog ops Q rest (a.put o.dst (.slice p n c)) w) : wpList Tryz.prog ops Q (o :: rest) a w := by
  obtain ⟨i0, hi, hz0, hz1, hz2⟩ := info_parts infoByte
  refine wpList_plain hgd fun K hK => ?_
  have hsrc : Src Tryz.prog i0.size 32 (.slice q 0 c') 0 [] w := by
    cases q with
    | none => exact Src.ofNil w Tryz.underlying32 c'
    | some ad => exact Src.ofSlice w Tryz.underlying32 ad 0 c' [] (by simp) (fun j u h => by simp at h) (fun u h => by cases h)
  have hr := fun ty => run_append_nothing (P := Tryz.prog) w 32 32 ty 5 i0 Tryz.underlying32 hi p n c hnc _ hsrc
  unfold Oper.wp
  simp [execOp, ho, resolve, invoke, builtin, hs, hx, hr, Result.andThen]
  exact hK _ _ h
theorem l1copy_all (p : Option Addr) (n c : Nat) (xs : List Int) (w : World) (hn : n = xs.length) (hm : n ≤ 10000000) (hc : BIn w p xs) :
    Calls Tryz.prog 68 #[.slice p n c] w fun e w' => ∃ p' n' c', e = .returned (.slice p' n' c') ∧ OwnS w' w.heap.size p' n' c' xs ∧ Below w.heap.size w w' := by
  by_cases h0 : 0 < n
  · obtain ⟨b, o, rfl, hcc⟩ := hc (by omega)
    have HC : Hid (∀ i, i < xs.length → w.cell? ⟨b, o + i, none⟩ = some (.int .u8 (xs.getD i 0))) := hcc
    have HN : Hid (n = xs.length) := hn
    clear hc hn hcc
    go_enter Tryz.func68, Tryz.ntmps68
    go_wp2_with (at_builtin; refine app_bytes _ rfl _ _ rfl w.heap.size none 0 0 [] xs n HN.out rfl (OwnS.nil _ _) _ c rfl (news_of HC.out) h0 (by omega) (Nat.le_refl _) ?_; intro g n' cap w1 hown1 hb1 hn1)
    go_ret
    exact ⟨_, _, _, rfl, hown1, hb1⟩
  · obtain rfl : n = 0 := by omega
    obtain rfl : xs = [] := List.length_eq_zero_iff.1 hn.symm
    clear hc hn
    go_enter Tryz.func68, Tryz.ntmps68
    go_wp2_with (at_builtin; refine app_nothing _ rfl _ _ rfl none 0 0 (Nat.le_refl _) rfl p c rfl ?_)
    go_ret
    exact ⟨_, _, _, rfl, OwnS.nil _ _, Below.refl _ _⟩
end Go.Proofs.YtbnmmcegjlmdmaaGreatDoor

namespace Go.Proofs.YtbnmmcegjlmdmaaGreatDoor
open Go Go.RowKit
set_option linter.unusedVariables false
set_option maxRecDepth 100000 in
set_option maxHeartbeats 2000000 in
theorem l2copy_any (p : Option Addr) (n c : Nat) (cs : List Cel) (w : World) (hn : n = cs.length) (hl : cs.length + tl cs ≤ 10000000) (hin : CIn w p cs) :
    Calls Tryz.prog 52 #[.slice p n c] w fun e w' => ∃ q m c2, e = .returned (.slice q m c2) ∧ OwnC w' w.heap.size q m c2 cs ∧ Below w.heap.size w w' := by
  have HI : Hid (CIn w p cs) := hin
  have HN : Hid (n = cs.length) := hn
  have hnl : n ≤ 10000000 := by omega
  clear hin hn
  go_enter Tryz.func52, Tryz.ntmps52
  go_wp2_with fail
  go_loopw [3, 4] (fun s i wr => ∃ (j : Nat) (q : Option Addr) (m c2 : Nat), j ≤ n ∧ m = j ∧ i = .int .i64 j ∧ s = .slice q m c2 ∧ Hid (OwnC wr w.heap.size q m c2 (cs.take j)) ∧ Hid (Below w.heap.size w wr)) (fun _ i _ => n - (intOf i).toNat)
  case atStart => exact ⟨0, none, 0, 0, Nat.zero_le _, rfl, rfl, rfl, OwnC.nil _ _, Below.refl _ _⟩
  case round =>
    obtain ⟨j, q, m, c2, hj, rfl, rfl, rfl, HO, HB⟩ := hrel
    by_cases hlt : m < n
    · have hjl : m < cs.length := by rw [← HN.out]; exact hlt
      obtain ⟨b, o, rfl, hcs⟩ := HI.out (by omega)
      obtain ⟨p0, q0, d0, d1, d2, d3⟩ := (hcs m hjl).below HB.out
      have hbw : b < w.heap.size := World.block_lt_of_cell? _ _ (hcs m hjl).choose_spec.choose_spec.1
      have HBW : Hid (b < w.heap.size) := hbw
      have htl := tl_at cs m hjl
      have HX : Hid (cs.take m ++ [((cs.getD m Cel.none).1, (cs.getD m Cel.none).2.1, (cs.getD m Cel.none).2.2)] = cs.take (m + 1)) := by
        show _ = _
        rw [List.take_succ_eq_append_getElem hjl, List.getD, List.getElem?_eq_getElem hjl]; rfl
      obtain ⟨xs, exs⟩ : ∃ x, x = (cs.getD m Cel.none).2.2 := ⟨_, rfl⟩
      obtain ⟨c0, e0⟩ : ∃ x, x = (cs.getD m Cel.none).1 := ⟨_, rfl⟩
      obtain ⟨c1, e1⟩ : ∃ x, x = (cs.getD m Cel.none).2.1 := ⟨_, rfl⟩
      rw [← e0] at d0 HX
      rw [← e1] at d1 HX
      rw [← exs] at d2 d3 HX htl
      obtain ⟨t, et⟩ : ∃ t, t = xs.length := ⟨_, rfl⟩
      rw [← et] at d2
      have HCP : Hid (∀ k, Calls Tryz.prog 68 #[.slice p0 t q0] (wr.drewN k) fun e w' => ∃ p' n' c', e = .returned (.slice p' n' c') ∧ OwnS w' wr.heap.size p' n' c' xs ∧ Below wr.heap.size (wr.drewN k) w') := fun k => l1copy_all p0 t q0 xs (wr.drewN k) et (by omega) d3
      have hB : w.heap.size ≤ wr.heap.size := HB.out.size
      clear hcs htl exs e0 e1 et d3 hbw
      go_wp2_with fail
      go_region_held3 (fun W => W.cell? ⟨b, o + m * 3, none⟩ = some (.int .i64 c0) ∧ W.cell? ⟨b, o + m * 3 + 1, none⟩ = some (.int .i64 c1) ∧ W.cell? ⟨b, o + m * 3 + 2, none⟩ = some (.slice p0 t q0))
        (first | exact kk | go_keep)
        (first
          | (go_at_call 68; refine (HCP.out 1).mono ?_; rintro e w1 ⟨p1, n1, c1', rfl, ho1, hb1⟩; have kk : w1.cell? ⟨b, o + m * 3, none⟩ = some (.int .i64 c0) ∧ w1.cell? ⟨b, o + m * 3 + 1, none⟩ = some (.int .i64 c1) ∧ w1.cell? ⟨b, o + m * 3 + 2, none⟩ = some (.slice p0 t q0) := ⟨(hb1.cell (World.block_lt_of_cell? wr _ d0)).trans d0, (hb1.cell (World.block_lt_of_cell? wr _ d1)).trans d1, (hb1.cell (World.block_lt_of_cell? wr _ d2)).trans d2⟩)
          | (refine step_app_cell wr _ rfl _ _ rfl w.heap.size q m c2 (cs.take m) rfl HO.out (((below_drewN (Below.refl _ wr) 1).trans hb1).alloc hb1.size _) hB ⟨w1.heap.size, 0, none⟩ 1 rfl c0 c1 p1 n1 c1' xs (ho1.toT.below ((Below.refl _ _).alloc (Nat.le_refl _) _)) (news_rc (Box3.of_block (t := 43) (heap_alloc_new _ _))) (by omega) ?_; intro g n' cap w5 hown5 hb5 hn5; have kk : w5.cell? ⟨b, o + m * 3, none⟩ = some (.int .i64 c0) ∧ w5.cell? ⟨b, o + m * 3 + 1, none⟩ = some (.int .i64 c1) ∧ w5.cell? ⟨b, o + m * 3 + 2, none⟩ = some (.slice p0 t q0) := ⟨(hb5.cell HBW.out).trans (Lib.cell?_alloc_marked _ kk.1), (hb5.cell HBW.out).trans (Lib.cell?_alloc_marked _ kk.2.1), (hb5.cell HBW.out).trans (Lib.cell?_alloc_marked _ kk.2.2)⟩))
      have HO5 : Hid (OwnC w5 w.heap.size (some ⟨g, 0, none⟩) n' cap (cs.take (m + 1))) := by rw [← HX.out]; exact hown5
      have HB5 : Hid (Below w.heap.size w w5) := ((HB.out.trans (((below_drewN (Below.refl _ wr) 1).trans hb1).mono hB)).alloc (Nat.le_trans hB hb1.size) _).trans hb5
      have HN5 : Hid (n' = m + 1) := hn5.out
      clear hown5 hb5 hn5 kk ho1 hb1 d0 d1 d2
      go_wp2_with fail
      go_roundw
      case rel => exact ⟨m + 1, _, _, _, by omega, HN5.out, by go_num, rfl, HO5, HB5⟩
      case measure => simp [intOf]; omega
    · obtain rfl : m = n := by omega
      go_wp2_with fail
      go_ret
      refine ⟨_, _, _, rfl, ?_, HB.out⟩
      have := HO.out
      rwa [List.take_of_length_le (by rw [← HN.out]; exact Nat.le_refl _)] at this
end Go.Proofs.YtbnmmcegjlmdmaaGreatDoor

