/- Texts of L1c, Cp1, Ren3, ClR. Own work of the verifier. -/
import Derived.Test.YtpigjapbhbdhbaaGreatDoorUqab
import Derived.Deep.Upon
import Derived.Test.YtpigjapbhbdhbaaGreatDoorUqag
import Derived.Test.YtpigjapbhbdhbaaGreatDoorUqak
import Derived.Test.YtpigjapbhbdhbaaGreatDoorUqac
import Derived.Test.YtpigjapbhbdhbaaGreatDoorUqax
import Derived.Test.YtpigjapbhbdhbaaGreatDoorUqas
namespace Go.Proofs.YtpigjapbhbdhbaaGreatDoor
open Go Go.RowKit
set_option linter.unusedVariables false
theorem news_of {w : World} {b o : Nat} {xs : List Int} (hc : ∀ i, i < xs.length → w.cell? ⟨b, o + i, none⟩ = some (.int .u8 (xs.getD i 0))) : ∀ j u, (xs.map (Value.int .u8))[j]? = some u → w.cell? ((⟨b, o, none⟩ : Addr).add j) = some u := fun j u hu => by
  have hj : j < xs.length := by
    rcases Nat.lt_or_ge j xs.length with h | h
    · exact h
    · simp [List.getElem?_eq_none h] at hu
  have e : (⟨b, o, none⟩ : Addr).add j = ⟨b, o + j, none⟩ := by unfold Addr.add; split <;> simp_all
  rw [e, hc j hj, ← hu]
  simp [List.getD, hj]
theorem app_nothing (w : World) {ops : Array Oper} {rest : List Oper} {o : Oper} {a : Act} {Q : Exit → Act → World → Prop} (hgd : o.guard = none) (s x : Operand)
    (ho : o.op = .call { callee := .builtin .append, args := #[s, x], argTypes := #[35, 35] }) (p : Option Addr) (n c : Nat) (hnc : n ≤ c) (hs : a.eval s = .slice p n c) (q : Option Addr) (c' : Nat) (hx : a.eval x = .slice q 0 c')
    (h : wpList Tryz.prog ops Q rest (a.put o.dst (.slice p n c)) w) : wpList Tryz.prog ops Q (o :: rest) a w := by
  obtain ⟨i0, hi, hz0, hz1, hz2⟩ := info_parts infoByte
  refine wpList_plain hgd fun K hK => ?_
  have hsrc : Src Tryz.prog i0.size 35 (.slice q 0 c') 0 [] w := by
    cases q with
    | none => exact Src.ofNil w Tryz.underlying35 c'
    | some ad => exact Src.ofSlice w Tryz.underlying35 ad 0 c' [] (by simp) (fun j u h => by simp at h) (fun u h => by cases h)
  have hr := fun ty => run_append_nothing (P := Tryz.prog) w 35 35 ty 5 i0 Tryz.underlying35 hi p n c hnc _ hsrc
  unfold Oper.wp
  simp [execOp, ho, resolve, invoke, builtin, hs, hx, hr, Result.andThen]
  exact hK _ _ h
theorem l1copy_all (p : Option Addr) (n c : Nat) (xs : List Int) (w : World) (hn : n = xs.length) (hm : n ≤ 10000000) (hc : BIn w p xs) :
    Calls Tryz.prog 180 #[.slice p n c] w fun e w' => ∃ p' n' c', e = .returned (.slice p' n' c') ∧ OwnS w' w.heap.size p' n' c' xs ∧ Below w.heap.size w w' := by
  by_cases h0 : 0 < n
  · obtain ⟨b, o, rfl, hcc⟩ := hc (by omega)
    have HC : Hid (∀ i, i < xs.length → w.cell? ⟨b, o + i, none⟩ = some (.int .u8 (xs.getD i 0))) := hcc
    have HN : Hid (n = xs.length) := hn
    clear hc hn hcc
    go_enter Tryz.func180, Tryz.ntmps180
    go_wp2_with (at_builtin; refine app_bytes _ rfl _ _ rfl w.heap.size none 0 0 [] xs n HN.out rfl (OwnS.nil _ _) _ c rfl (news_of HC.out) h0 (by omega) (Nat.le_refl _) ?_; intro g n' cap w1 hown1 hb1 hn1)
    go_ret
    exact ⟨_, _, _, rfl, hown1, hb1⟩
  · obtain rfl : n = 0 := by omega
    obtain rfl : xs = [] := List.length_eq_zero_iff.1 hn.symm
    clear hc hn
    go_enter Tryz.func180, Tryz.ntmps180
    go_wp2_with (at_builtin; refine app_nothing _ rfl _ _ rfl none 0 0 (Nat.le_refl _) rfl p c rfl ?_)
    go_ret
    exact ⟨_, _, _, rfl, OwnS.nil _ _, Below.refl _ _⟩
end Go.Proofs.YtpigjapbhbdhbaaGreatDoor

namespace Go.Proofs.YtpigjapbhbdhbaaGreatDoor
open Go Go.RowKit
set_option linter.unusedVariables false
set_option maxRecDepth 100000 in
set_option maxHeartbeats 2000000 in
theorem l2copy_any (p : Option Addr) (n c : Nat) (cs : List Cel) (w : World) (hn : n = cs.length) (hl : cs.length + tl cs ≤ 10000000) (hin : CIn w p cs) :
    Calls Tryz.prog 143 #[.slice p n c] w fun e w' => ∃ q m c2, e = .returned (.slice q m c2) ∧ OwnC w' w.heap.size q m c2 cs ∧ Below w.heap.size w w' := by
  have HI : Hid (CIn w p cs) := hin
  have HN : Hid (n = cs.length) := hn
  have hnl : n ≤ 10000000 := by omega
  clear hin hn
  go_enter Tryz.func143, Tryz.ntmps143
  go_wp2_with fail
  go_loopw [3, 4] (fun s i wr => ∃ (j : Nat) (q : Option Addr) (m c2 : Nat), j ≤ n ∧ m = j ∧ i = .int .i64 j ∧ s = .slice q m c2 ∧ Hid (OwnC wr w.heap.size q m c2 (cs.take j)) ∧ Hid (Below w.heap.size w wr)) (fun _ i _ => n - (intOf i).toNat)
  case atStart => exact ⟨0, none, 0, 0, Nat.zero_le _, rfl, rfl, rfl, OwnC.nil _ _, Below.refl _ _⟩
  case round =>
    obtain ⟨j, q, m, c2, hj, rfl, rfl, rfl, HO, HB⟩ := hrel
    by_cases hlt : m < n
    · have hjl : m < cs.length := by rw [← HN.out]; exact hlt
      obtain ⟨b, o, rfl, hcs⟩ := HI.out (by omega)
      obtain ⟨p0, q0, d0, d1, d2, d3⟩ := (hcs m hjl).below HB.out
      have hbw : b < w.heap.size := World.block_lt_of_cell? _ _ (hcs m hjl).choose_spec.choose_spec.1
      have HBW : Hid (b < w.heap.size) := hbw
      have htl := tl_at cs m hjl
      have HX : Hid (cs.take m ++ [((cs.getD m Cel.none).1, (cs.getD m Cel.none).2.1, (cs.getD m Cel.none).2.2)] = cs.take (m + 1)) := by
        show _ = _
        rw [List.take_succ_eq_append_getElem hjl, List.getD, List.getElem?_eq_getElem hjl]; rfl
      obtain ⟨xs, exs⟩ : ∃ x, x = (cs.getD m Cel.none).2.2 := ⟨_, rfl⟩
      obtain ⟨c0, e0⟩ : ∃ x, x = (cs.getD m Cel.none).1 := ⟨_, rfl⟩
      obtain ⟨c1, e1⟩ : ∃ x, x = (cs.getD m Cel.none).2.1 := ⟨_, rfl⟩
      rw [← e0] at d0 HX
      rw [← e1] at d1 HX
      rw [← exs] at d2 d3 HX htl
      obtain ⟨t, et⟩ : ∃ t, t = xs.length := ⟨_, rfl⟩
      rw [← et] at d2
      have HCP : Hid (∀ k, Calls Tryz.prog 180 #[.slice p0 t q0] (wr.drewN k) fun e w' => ∃ p' n' c', e = .returned (.slice p' n' c') ∧ OwnS w' wr.heap.size p' n' c' xs ∧ Below wr.heap.size (wr.drewN k) w') := fun k => l1copy_all p0 t q0 xs (wr.drewN k) et (by omega) d3
      have hB : w.heap.size ≤ wr.heap.size := HB.out.size
      clear hcs htl exs e0 e1 et d3 hbw
      go_wp2_with fail
      go_region_held3 (fun W => W.cell? ⟨b, o + m * 3, none⟩ = some (.int .i64 c0) ∧ W.cell? ⟨b, o + m * 3 + 1, none⟩ = some (.int .i64 c1) ∧ W.cell? ⟨b, o + m * 3 + 2, none⟩ = some (.slice p0 t q0))
        (first | exact kk | go_keep)
        (first
          | (go_at_call 180; refine (HCP.out 1).mono ?_; rintro e w1 ⟨p1, n1, c1', rfl, ho1, hb1⟩; have kk : w1.cell? ⟨b, o + m * 3, none⟩ = some (.int .i64 c0) ∧ w1.cell? ⟨b, o + m * 3 + 1, none⟩ = some (.int .i64 c1) ∧ w1.cell? ⟨b, o + m * 3 + 2, none⟩ = some (.slice p0 t q0) := ⟨(hb1.cell (World.block_lt_of_cell? wr _ d0)).trans d0, (hb1.cell (World.block_lt_of_cell? wr _ d1)).trans d1, (hb1.cell (World.block_lt_of_cell? wr _ d2)).trans d2⟩)
          | (refine step_app_cell wr _ rfl _ _ rfl w.heap.size q m c2 (cs.take m) rfl HO.out (((below_drewN (Below.refl _ wr) 1).trans hb1).alloc hb1.size _) hB ⟨w1.heap.size, 0, none⟩ 1 rfl c0 c1 p1 n1 c1' xs (ho1.toT.below ((Below.refl _ _).alloc (Nat.le_refl _) _)) (news_rc (Box3.of_block (t := 42) (heap_alloc_new _ _))) (by omega) ?_; intro g n' cap w5 hown5 hb5 hn5; have kk : w5.cell? ⟨b, o + m * 3, none⟩ = some (.int .i64 c0) ∧ w5.cell? ⟨b, o + m * 3 + 1, none⟩ = some (.int .i64 c1) ∧ w5.cell? ⟨b, o + m * 3 + 2, none⟩ = some (.slice p0 t q0) := ⟨(hb5.cell HBW.out).trans (Lib.cell?_alloc_marked _ kk.1), (hb5.cell HBW.out).trans (Lib.cell?_alloc_marked _ kk.2.1), (hb5.cell HBW.out).trans (Lib.cell?_alloc_marked _ kk.2.2)⟩))
      have HO5 : Hid (OwnC w5 w.heap.size (some ⟨g, 0, none⟩) n' cap (cs.take (m + 1))) := by rw [← HX.out]; exact hown5
      have HB5 : Hid (Below w.heap.size w w5) := ((HB.out.trans (((below_drewN (Below.refl _ wr) 1).trans hb1).mono hB)).alloc (Nat.le_trans hB hb1.size) _).trans hb5
      have HN5 : Hid (n' = m + 1) := hn5.out
      clear hown5 hb5 hn5 kk ho1 hb1 d0 d1 d2
      go_wp2_with fail
      go_roundw
      case rel => exact ⟨m + 1, _, _, _, by omega, HN5.out, by go_num, rfl, HO5, HB5⟩
      case measure => simp [intOf]; omega
    · obtain rfl : m = n := by omega
      go_wp2_with fail
      go_ret
      refine ⟨_, _, _, rfl, ?_, HB.out⟩
      have := HO.out
      rwa [List.take_of_length_le (by rw [← HN.out]; exact Nat.le_refl _)] at this
end Go.Proofs.YtpigjapbhbdhbaaGreatDoor

namespace Go.Proofs.YtpigjapbhbdhbaaGreatDoor
open Go Go.RowKit Go.Maps
set_option linter.unusedVariables false
theorem flat_setN : ∀ (rs : List RC) (i : Nat) (b : Int), i < rs.length → (flat rs).set (i * 3 + 1) (.int .i64 b) = flat (rs.set i ((rs.getD i RC.zero).1, b, (rs.getD i RC.zero).2.2))
  | [], i, b, h => by simp at h
  | x :: rs, 0, b, _ => by simp [flat_cons]
  | x :: rs, i + 1, b, h => by
    have := flat_setN rs i b (by simpa using h)
    rw [flat_cons, show (i + 1) * 3 + 1 = (i * 3 + 1) + 1 + 1 + 1 by omega]
    simp only [List.set_cons_succ, this]
    rfl
theorem OwnC.setN {w : World} {B g n c j : Nat} {cs : List Cel} (h : OwnC w B (some ⟨g, 0, none⟩) n c cs) (hj : j < cs.length) (b : Int) :
    OwnC (w.setCell ⟨g, j * 3 + 1, none⟩ (.int .i64 b)) B (some ⟨g, 0, none⟩) n c (cs.set j ((cs.getD j Cel.none).1, b, (cs.getD j Cel.none).2.2)) := by
  obtain ⟨hn, rs, hl, hr, hf, ha⟩ := h
  have h2 := (hr.stored (j * 3 + 1) (.int .i64 b)).1
  rw [flat_setN rs j b (by omega)] at h2
  have hat : ∀ i, ((rs.set j ((rs.getD j RC.zero).1, b, (rs.getD j RC.zero).2.2)).getD i RC.zero).2.2 = (rs.getD i RC.zero).2.2 := fun i => by
    rw [rs_set_at _ _ _ _ (by omega)]
    by_cases e : i = j
    · rw [if_pos e, e]
    · rw [if_neg e]
  refine ⟨by simpa using hn, _, by simpa using hl, h2, fun i hi => ?_, ⟨fun i hi => ?_, fun i i' hi hi' hne => ?_⟩⟩
  · have hi' : i < cs.length := by simpa using hi
    rw [cs_set_at _ _ _ _ hj, rs_set_at _ _ _ _ (by omega)]
    obtain ⟨q0, q1, q2⟩ := hf i hi'
    have q3 := q2.setCell (a := ⟨g, j * 3 + 1, none⟩) (fun hp e' => ha.1 i (by omega) hp e') (.int .i64 b)
    by_cases e : i = j
    · rw [if_pos e, if_pos e]
      subst e
      exact ⟨q0, rfl, q3⟩
    · rw [if_neg e, if_neg e]
      exact ⟨q0, q1, q3⟩
  · rw [hat]; exact ha.1 i (by simpa using hi)
  · rw [hat, hat]; exact ha.2 i i' (by simpa using hi) (by simpa using hi') hne
def renF (ks : List Int) (c : Cel) : Cel := if c.1 = 0 then (c.1, findI ks c.2.1, c.2.2) else c
def mixR (ks : List Int) (cs : List Cel) (j : Nat) : List Cel := (List.range cs.length).map fun i => if i < j then renF ks (cs.getD i Cel.none) else cs.getD i Cel.none
theorem mixR_len (ks : List Int) (cs : List Cel) (j : Nat) : (mixR ks cs j).length = cs.length := by simp [mixR]
theorem mixR_at (ks : List Int) (cs : List Cel) (j i : Nat) (h : i < cs.length) : (mixR ks cs j).getD i Cel.none = if i < j then renF ks (cs.getD i Cel.none) else cs.getD i Cel.none := by
  simp [mixR, List.getD, h]
theorem mixR_zero (ks : List Int) (cs : List Cel) : mixR ks cs 0 = cs := same_cells (mixR_len ..) (fun j hj => by rw [mixR_at _ _ _ _ (by rw [mixR_len] at hj; exact hj), if_neg (Nat.not_lt_zero _)])
theorem mixR_all (ks : List Int) (cs : List Cel) : mixR ks cs cs.length = cs.map (renF ks) := same_cells (by simp [mixR]) (fun j hj => by
  rw [mixR_len] at hj
  rw [mixR_at _ _ _ _ hj, if_pos hj]
  simp [List.getD, hj])
theorem mixR_succ (ks : List Int) (cs : List Cel) (j : Nat) (h : j < cs.length) : mixR ks cs (j + 1) = (mixR ks cs j).set j (renF ks (cs.getD j Cel.none)) := same_cells (by simp [mixR]) (fun i hi => by
  rw [mixR_len] at hi
  rw [mixR_at _ _ _ _ hi, cs_set_at _ _ _ _ (by rw [mixR_len]; exact h)]
  by_cases e : i = j
  · subst e; rw [if_pos (by omega), if_pos rfl]
  · rw [if_neg e, mixR_at _ _ _ _ hi]
    by_cases e2 : i < j
    · rw [if_pos e2, if_pos (by omega)]
    · rw [if_neg e2, if_neg (by omega)])
theorem set_selfR (cs : List Cel) (j : Nat) (h : j < cs.length) : cs.set j (cs.getD j Cel.none) = cs := same_cells (by simp) (fun i hi => by
  rw [cs_set_at _ _ _ _ h]
  by_cases e : i = j
  · rw [if_pos e, e]
  · rw [if_neg e])
set_option maxRecDepth 100000 in
theorem l2renumber_any (p : Option Addr) (n c : Nat) (cs : List Cel) (pl : Option Addr) (nl cl : Nat) (ks : List Int) (w : World) (hn : n = cs.length) (hl : cs.length + tl cs ≤ 10000000) (hin : CIn w p cs) (hnl : nl = ks.length) (hk : nl ≤ 100000) (hli : IIn w pl ks) :
    Calls Tryz.prog 89 #[.slice p n c, .slice pl nl cl] w fun e w' => ∃ q m c2, e = .returned (.slice q m c2) ∧ OwnC w' w.heap.size q m c2 (cs.map (renF ks)) ∧ Below w.heap.size w w' := by
  have HCP := l2copy_any p n c cs w hn hl hin
  have HLI : Hid (IIn w pl ks ∧ nl = ks.length) := ⟨hli, hnl⟩
  have hcl : cs.length ≤ 10000000 := by omega
  clear hin hli hn hnl
  go_enter Tryz.func89, Tryz.ntmps89
  go_wp2_with fail
  refine HCP.mono ?_
  rintro e w1 ⟨q, m, c2, rfl, ho1, hb1⟩
  have HM : Hid (m = cs.length) := ho1.1
  have hm : m ≤ 10000000 := by have := ho1.1; omega
  have HO1 : Hid (OwnC w1 w.heap.size q m c2 cs) := ho1
  have HB1 : Hid (Below w.heap.size w w1) := hb1
  clear ho1 hb1 HCP
  go_wp2_with fail
  go_loopw [6] (fun i wr => ∃ j : Nat, j ≤ m ∧ i = .int .i64 j ∧ Hid (OwnC wr w.heap.size q m c2 (mixR ks cs j)) ∧ Hid (Below w.heap.size w wr)) (fun i _ => m - (intOf i).toNat)
  case atStart => exact ⟨0, Nat.zero_le _, rfl, by rw [mixR_zero]; exact HO1, HB1⟩
  case round =>
    obtain ⟨j, hj, rfl, HO, HB⟩ := hrel
    by_cases hlt : j < m
    · have hjl : j < cs.length := by rw [← HM.out]; exact hlt
      obtain ⟨hn1, rs, hl1, hr, hf, ha⟩ := HO.out
      obtain ⟨g, cap, hv, hbg, hgs⟩ := hr.form (by omega)
      simp only [Value.slice.injEq, true_and] at hv
      obtain ⟨rfl, rfl⟩ := hv
      rw [mixR_len] at hl1 hf
      obtain ⟨a0, a1, a2⟩ := flat_at rs j (by omega)
      have d0 := (hr.cellAt (j * 3) (by omega)).trans a0
      have d1 := (hr.cellAt (j * 3 + 1) (by omega)).trans a1
      have ff := hr.frozenAt (j * 3 + 1)
      obtain ⟨q0, q1, _⟩ := hf j hjl
      rw [mixR_at _ _ _ _ hjl, if_neg (Nat.lt_irrefl j)] at q0 q1
      rw [q0] at d0
      rw [q1] at d1
      have HSN : Hid (∀ b, OwnC (wr.setCell ⟨g, j * 3 + 1, none⟩ (.int .i64 b)) w.heap.size (some ⟨g, 0, none⟩) m c2 ((mixR ks cs j).set j (((mixR ks cs j).getD j Cel.none).1, b, ((mixR ks cs j).getD j Cel.none).2.2))) := fun b => HO.out.setN (by rw [mixR_len]; exact hjl) b
      have hmj : (mixR ks cs j).getD j Cel.none = cs.getD j Cel.none := by rw [mixR_at _ _ _ _ hjl, if_neg (Nat.lt_irrefl j)]
      rw [hmj] at HSN
      have HS1 : Hid _ := mixR_succ ks cs j hjl
      have HFD := l2find_any pl nl cl ks (cs.getD j Cel.none).2.1 wr HLI.out.2 (by omega) (HLI.out.1.below HB.out)
      obtain ⟨c0, e0⟩ : ∃ x, x = (cs.getD j Cel.none).1 := ⟨_, rfl⟩
      obtain ⟨c1, e1⟩ : ∃ x, x = (cs.getD j Cel.none).2.1 := ⟨_, rfl⟩
      have HE : Hid (c0 = (cs.getD j Cel.none).1 ∧ c1 = (cs.getD j Cel.none).2.1) := ⟨e0, e1⟩
      rw [← e0] at d0
      rw [← e1] at d1 HFD
      have HMJ : Hid _ := hmj
      clear hn1 hl1 hr hf ha a0 a1 a2 q0 q1 e0 e1 hmj
      by_cases h0 : c0 = 0
      · subst h0
        obtain ⟨fi, ef⟩ : ∃ fi, fi = findI ks c1 := ⟨_, rfl⟩
        rw [← ef] at HFD
        have HFI : Hid (fi = findI ks c1) := ef
        clear ef
        go_wp2_with fail
        refine HFD.mono ?_
        rintro e w2 ⟨rfl, rfl⟩
        go_wp2_with fail
        have HO2 : Hid (OwnC (w2.setCell ⟨g, j * 3 + 1, none⟩ (.int .i64 fi)) w.heap.size (some ⟨g, 0, none⟩) m c2 (mixR ks cs (j + 1))) := by
          have := HSN.out fi
          rw [HS1.out, renF, if_pos HE.out.1.symm, ← HE.out.2, ← HFI.out]
          exact this
        go_roundw
        case rel => exact ⟨j + 1, by omega, by go_num, HO2, HB.out.setCell (p := ⟨g, j * 3 + 1, none⟩) hbg _⟩
        case measure => simp [intOf]; omega
      · have h0' : (c0 == 0) = false := by simpa using h0
        have HO2 : Hid (OwnC wr w.heap.size (some ⟨g, 0, none⟩) m c2 (mixR ks cs (j + 1))) := by
          show OwnC _ _ _ _ _ _
          rw [HS1.out, renF, if_neg (by rw [← HE.out.1]; exact h0), ← HMJ.out, set_selfR _ _ (by rw [mixR_len]; exact hjl)]
          exact HO.out
        clear h0
        go_wp2_with fail
        go_roundw
        case rel => exact ⟨j + 1, by omega, by go_num, HO2, HB⟩
        case measure => simp [intOf]; omega
    · obtain rfl : j = m := by omega
      go_wp2_with fail
      go_ret
      refine ⟨_, _, _, rfl, ?_, HB.out⟩
      rw [← mixR_all, ← HM.out]
      exact HO.out
theorem visits_mem : ∀ (cs : List Cel) (ks : List Int) (c : Cel), c ∈ cs → c.1 = 0 → c.2.1 ∈ visits ks cs
  | [], ks, c, h, _ => by cases h
  | a :: r, ks, c, h, h0 => by
    rcases List.mem_cons.1 h with rfl | h
    · rw [visits_cons]
      refine (visits_prefix r _).subset ?_
      rw [visitL, if_pos h0]
      exact putV_mem _ _
    · exact visits_mem r (visitL ks a) c h h0
theorem ren_same (cs : List Cel) : cs.map (renF (visits [] cs)) = renCells cs := by
  rw [renCells]
  refine List.map_congr_left fun c hc => ?_
  unfold renF renI
  by_cases h0 : c.1 = 0
  · rw [if_pos h0, if_pos h0, findI, if_pos (visits_mem cs [] c hc h0)]
  · rw [if_neg h0, if_neg h0]
set_option maxRecDepth 100000 in
theorem specRen_any (cs : List Cel) (p : Option Addr) (n cap : Nat) (w : World) (hn : n = cs.length) (hl : cs.length + tl cs ≤ 10000000) (hin : CIn w p cs) :
    Calls Tryz.prog 26 #[.slice p n cap] w fun e w' => ∃ q m c2, e = .returned (.slice q m c2) ∧ OwnC w' w.heap.size q m c2 (if validB cs = true then renCells cs else []) ∧ Below w.heap.size w w' := by
  subst hn
  have HV := specValid_any p cap cs w (by omega) hin
  have HI : Hid (CIn w p cs) := hin
  clear hin
  by_cases hv : validB cs = true
  · have hlen : cs.length ≤ 2000 := by simp only [validB, Bool.and_eq_true, decide_eq_true_eq] at hv; exact hv.1
    rw [if_pos hv]
    rw [hv] at HV
    clear hv
    go_enter Tryz.func26, Tryz.ntmps26
    go_wp2_with fail
    refine HV.mono ?_
    rintro e w1 ⟨rfl, hb1⟩
    have HB1 : Hid (Below w.heap.size w w1) := hb1
    have HT := l2vars_any p cs.length cap cs w1 rfl (by omega) (HI.out.below hb1)
    clear hb1 HV
    go_wp2_with fail
    refine HT.mono ?_
    rintro e w2 ⟨q, m, c2, rfl, ho, hb2⟩
    have HB2 : Hid (Below w.heap.size w w2) := Below.on HB1.out hb2
    have hmm : m ≤ 100000 := by have := ho.1; have := visits_len cs []; simp at this; omega
    have HRN := l2renumber_any p cs.length cap cs q m c2 (visits [] cs) w2 rfl hl (HI.out.below HB2.out) ho.1 hmm ho.iin
    clear ho hb2 HT
    go_wp2_with fail
    refine HRN.mono ?_
    rintro e w3 ⟨q3, m3, c3, rfl, ho3, hb3⟩
    have HO3 : Hid (OwnC w3 w.heap.size q3 m3 c3 (renCells cs)) := by rw [← ren_same]; exact ho3.mono HB2.out.size
    have HB3 : Hid (Below w.heap.size w w3) := Below.on HB2.out hb3
    clear ho3 hb3 HRN
    go_wp2_with fail
    go_ret
    exact ⟨_, _, _, rfl, HO3.out, HB3.out⟩
  · have hv' : validB cs = false := by simpa using hv
    rw [if_neg hv]
    rw [hv'] at HV
    clear hv hv'
    go_enter Tryz.func26, Tryz.ntmps26
    go_wp2_with (go_at_call 23; refine HV.mono ?_; rintro e w1 ⟨rfl, hb1⟩)
    go_ret
    exact ⟨_, _, _, rfl, OwnC.nil _ _, hb1⟩
end Go.Proofs.YtpigjapbhbdhbaaGreatDoor

namespace Go.Proofs.YtpigjapbhbdhbaaGreatDoor
open Go Go.RowKit
set_option linter.unusedVariables false
theorem ArgRowU.below {w w' : World} (hb : Below w.heap.size w w') : ∀ {rs : List (Option Addr × Nat × Nat)} {ts : List Tr}, ArgRowU w rs ts → ArgRowU w' rs ts
  | [], [], _ => trivial
  | _ :: _, _ :: _, h => ⟨h.1, h.2.1, h.2.2.1, h.2.2.2.1.below hb, ArgRowU.below hb h.2.2.2.2⟩
  | [], _ :: _, h => h.elim
  | _ :: _, [], h => h.elim
set_option maxRecDepth 100000 in
theorem same_any (xs ys : List Cel) (p q : Option Addr) (c1 c2 n : Nat) (w : World) (hn : n = xs.length) (hm : n = ys.length) (hl : n ≤ 1000000) (h0 : 0 < n) (hx : CIn w p xs) (hy : CIn w q ys) (hbx : ∀ c ∈ xs, Byte c.2.2) (hby : ∀ c ∈ ys, Byte c.2.2) :
    Calls Tryz.prog 25 #[.slice p n c1, .slice q n c2] w fun e w' => e = .returned (.bool (decide (xs = ys))) ∧ Below w.heap.size w w' := by
  have HC := l2compare_any xs ys p q n n c1 c2 w hn hm (by omega) (by omega) hx hy
  have HR : Hid (decide (xs = ys) = (cmpC xs ys == 0)) := by
    show _ = _
    rw [Bool.eq_iff_iff]
    simp [cmpC_zero xs ys (by rw [← hn, ← hm]) hbx hby]
  rw [HR.out]
  generalize cmpC xs ys = R at HC ⊢
  clear hn hm hx hy hbx hby HR
  have hz : ((n : Int) == 0) = false := by rw [beq_eq_false_iff_ne]; omega
  go_enter Tryz.func25, Tryz.ntmps25
  go_wp2_with fail
  refine HC.mono ?_
  rintro e w1 ⟨rfl, hb1⟩
  have HB : Hid (Below w.heap.size w w1) := hb1
  clear HC hb1
  go_wp2_with fail
  go_ret
  exact ⟨rfl, HB.out⟩
def FlOut (w : World) (cs : List Cel) (e : Ending) (w' : World) : Prop :=
  ∃ ph nh ch pg mg cg, Below w.heap.size w w' ∧
    ((e = .returned (.tuple #[.slice ph nh ch, .slice pg mg cg, .bool false]) ∧ ¬ (validB cs = true ∧ ∀ c k, cs = c :: k.cells → (Fo.node c k .nil).ok → flatB (c, k) = true)) ∨
     (e = .returned (.tuple #[.slice ph nh ch, .slice pg mg cg, .bool true]) ∧ validB cs = true ∧ ∃ c k rs, cs = c :: k.cells ∧ (Fo.node c k .nil).ok ∧ flatB (c, k) = true ∧ cs.length ≤ 2000 ∧ TI w' ph nh ch (kid0 (c, k)) ∧
      mg = (goalsT (kid1 (c, k))).length ∧ w'.ownsRow w.heap.size 27 1 (.slice pg mg cg) mg (rs.map slV) ∧ ArgRowU w' rs (goalsT (kid1 (c, k)))))
set_option maxRecDepth 100000 in
set_option maxHeartbeats 2000000 in
theorem flat_any (cs : List Cel) (p : Option Addr) (w : World) (hxb : ∀ i, i < cs.length → Byte (cs.getD i Cel.none).2.2) (hl : cs.length + tl cs ≤ 1048576) (hin : CIn w p cs) :
    Calls Tryz.prog 14 #[.slice p cs.length cs.length] w (FlOut w cs) := by
  have HV := specValid_any p cs.length cs w (by omega) hin
  have HNO : Hid (¬ (validB cs = true ∧ ∀ c k, cs = c :: k.cells → (Fo.node c k .nil).ok → flatB (c, k) = true) → ∀ W, Below w.heap.size w W → FlOut w cs (.returned (.tuple #[.slice none 0 0, .slice none 0 0, .bool false])) W) := fun h W hW => ⟨none, 0, 0, none, 0, 0, hW, .inl ⟨rfl, h⟩⟩
  by_cases hv : validB cs = true
  · obtain ⟨c, k, ex, hok, hlx⟩ := tree_of hxb hv
    rw [hv] at HV
    have hkl : k.cells.length + 1 = cs.length := by rw [ex]; simp
    have HTI : Hid (TI w p cs.length cs.length (c, k)) := ⟨by show cs.length = k.cells.length + 1; omega, Nat.le_refl _, by omega, by rw [ex] at hin; exact hin⟩
    have HIS : Hid (∀ W, Below w.heap.size w W → Calls Tryz.prog 24 #[.slice p cs.length cs.length, .string ⟨#[58, 45]⟩, .int .i64 2] W fun e w' => e = .returned (.bool (decide (c = ruleC))) ∧ w' = W) := fun W hW => by
      have h9 := isT_any (HTI.out.below hW) ⟨#[58, 45]⟩ 2
      have e9 : isB (strOfNums (c, k).1.2.2) ⟨#[58, 45]⟩ (c, k).1.1 (c, k).1.2.1 2 = decide (c = ruleC) := isB_pos hok.2.1 [58, 45] 2 (by decide)
      rw [e9] at h9
      exact h9
    have HX : Hid (cs = c :: k.cells ∧ (Fo.node c k .nil).ok ∧ validB cs = true ∧ cs.length ≤ 2000) := ⟨ex, hok, hv, hlx⟩
    have HFB : Hid (flatB (c, k) = false → ¬ (validB cs = true ∧ ∀ c k, cs = c :: k.cells → (Fo.node c k .nil).ok → flatB (c, k) = true)) := fun h h9 => by
      have := h9.2 c k HX.out.1 HX.out.2.1
      rw [h] at this
      exact absurd this (by decide)
    have hbm : ∀ x ∈ cs, Byte x.2.2 := byte_mem hxb
    have HRN : Hid (∀ W, Below w.heap.size w W → Calls Tryz.prog 26 #[.slice p cs.length cs.length] W fun e w' => ∃ q m c2, e = .returned (.slice q m c2) ∧ OwnC w' W.heap.size q m c2 (renCells cs) ∧ Below W.heap.size W w') := fun W hW => by
      have := specRen_any cs p cs.length cs.length W rfl (by omega) (hin.below hW)
      rwa [if_pos hv] at this
    have HSM : Hid (∀ (W : World) (q : Option Addr) (c2 : Nat), Below w.heap.size w W → CIn W q (renCells cs) → Calls Tryz.prog 25 #[.slice p cs.length cs.length, .slice q cs.length c2] W fun e w' => e = .returned (.bool (decide (cs = renCells cs))) ∧ Below W.heap.size W w') := fun W q c2 hW hq => same_any cs (renCells cs) p q cs.length c2 cs.length W rfl (by rw [ren_len]) (by omega) (by omega) (hin.below hW) hq hbm (ren_byte hbm)
    have HRL : Hid ((renCells cs).length = cs.length) := ren_len cs
    obtain ⟨m, em⟩ : ∃ m, m = cs.length := ⟨_, rfl⟩
    have hm2 : m ≤ 2000 := by omega
    have HEM : Hid (m = cs.length) := em
    rw [← em] at HV HIS HRN HSM HTI HRL ⊢
    by_cases hr : c = ruleC
    · rw [decide_eq_true hr] at HIS
      have HAR : Hid (∀ W, Below w.heap.size w W → Calls Tryz.prog 27 #[.slice p m m] W (ArgsOutU w W k)) := fun W hW => l2argsU_any c k p m m w W hW (by rw [hr]; rfl) HX.out.2.1 (by simp; omega) (by omega) (Nat.le_refl _) (by omega) HTI.out.2.2.2
      have hcnt : k.count = 2 := by
        have h9 := hok.2.2.1 (by rw [hr]; rfl)
        rw [hr] at h9
        have e2 : (ruleC.2.1 : Int) = 2 := rfl
        omega
      obtain ⟨c1, k1, c2, k2, ek⟩ := two_of hcnt
      have etr : trs k = [(c1, k1), (c2, k2)] := by rw [ek]; rfl
      have HKD : Hid (kid0 (c, k) = (c1, k1) ∧ kid1 (c, k) = (c2, k2) ∧ (Fo.node c1 k1 .nil).ok ∧ (Fo.node c2 k2 .nil).ok ∧ k1.cells.length + k2.cells.length + 3 = m) := by
        have hk := hok.2.2.2.2.1
        rw [ek] at hk
        refine ⟨by unfold kid0; rw [etr]; rfl, by unfold kid1; rw [etr]; rfl, ⟨hk.1, hk.2.1, hk.2.2.1, hk.2.2.2.1, hk.2.2.2.2.1, trivial⟩, hk.2.2.2.2.2, ?_⟩
        rw [ek] at hkl
        simp [Fo.cells] at hkl
        omega
      unfold ArgsOutU at HAR
      rw [etr, hcnt] at HAR
      have HR : Hid (c = ruleC) := hr
      obtain ⟨sm, esm⟩ : ∃ x, x = decide (cs = renCells cs) := ⟨_, rfl⟩
      rw [← esm] at HSM
      have HSE : Hid (decide (renCells (c :: k.cells) = c :: k.cells) = sm) := by
        show _ = _
        rw [esm, ← HX.out.1]
        congr 1
        rw [eq_iff_iff]
        exact eq_comm
      clear hxb hl hin hv ex hok hlx hkl hbm hr hcnt ek etr esm em
      go_enter Tryz.func14, Tryz.ntmps14
      go_wp2_with fail
      refine HV.mono ?_
      rintro e w1 ⟨rfl, hb1⟩
      have HB1 : Hid (Below w.heap.size w w1) := hb1
      have HIS1 := HIS.out w1 hb1
      clear hb1 HV HIS
      go_wp2_with fail
      refine HIS1.mono ?_
      rintro e w1' ⟨rfl, hw1⟩
      subst hw1
      have HRN1 := HRN.out w1' HB1.out
      clear HIS1 HRN
      go_wp2_with fail
      refine HRN1.mono ?_
      rintro e w2 ⟨q2, m2, c2', rfl, ho2, hb2⟩
      have hm2e : m2 = m := by rw [ho2.1, HRL.out]
      subst hm2e
      have HB2 : Hid (Below w.heap.size w w2) := Below.on HB1.out hb2
      have HSM2 := HSM.out w2 q2 c2' HB2.out ho2.cin
      clear ho2 hb2 HRN1 HSM
      go_wp2_with fail
      refine HSM2.mono ?_
      rintro e w3 ⟨rfl, hb3⟩
      have HB3 : Hid (Below w.heap.size w w3) := Below.on HB2.out hb3
      clear hb3 HSM2
      cases sm with
      | false =>
        have HO : Hid _ := HNO.out (HFB.out (by unfold flatB; rw [HSE.out]; simp)) w3 HB3.out
        clear HNO HFB HAR
        go_wp2_with fail
        exact bodyPost_ret (v := .tuple #[.slice none 0 0, .slice none 0 0, .bool false]) (by simp [results, Tryz.results14, go_sem]) rfl HO.out
      | true =>
        have HAR3 := HAR.out w3 HB3.out
        clear HAR
        go_wp2_with fail
        refine HAR3.mono ?_
        rintro e w4 ⟨q5, m5, mc5, rs5, rfl, hm5, hrow5, harg5, hb5⟩
        obtain ⟨r1, r2, e5⟩ : ∃ r1 r2, rs5 = [r1, r2] := by
          have hl := ArgRowU.len harg5
          match rs5, hl with
          | [r1, r2], _ => exact ⟨r1, r2, rfl⟩
        subst e5
        subst hm5
        obtain ⟨g5, cap5, hv5, hbg5, hgl5⟩ := World.ownsRow.form hrow5 (by decide)
        obtain ⟨rfl, rfl⟩ : q5 = some ⟨g5, 0, none⟩ ∧ mc5 = cap5 := by injection hv5 with h1 _ h2; exact ⟨h1, h2⟩
        have x0 : w4.cell? ⟨g5, 0, none⟩ = some (.slice r1.1 r1.2.1 r1.2.2) := hrow5.cellAt 0 (by decide)
        have x1 : w4.cell? ⟨g5, 1, none⟩ = some (.slice r2.1 r2.2.1 r2.2.2) := hrow5.cellAt 1 (by decide)
        obtain ⟨a1, a2, a3, a4, a5, a6, a7, a8, _⟩ := harg5
        have HT1 : Hid (TI w r1.1 r1.2.1 r1.2.2 (c1, k1)) := ⟨by show r1.2.1 = k1.cells.length + 1; simp only at a1; omega, a2, a3, a4⟩
        have HT2 : Hid (TI w r2.1 r2.2.1 r2.2.2 (c2, k2)) := ⟨by show r2.2.1 = k2.cells.length + 1; simp only at a5; omega, a6, a7, a8⟩
        have HB4 : Hid (Below w.heap.size w w4) := Below.on HB3.out hb5
        have hr1 : r1.2.1 ≤ 2000 ∧ r1.2.2 ≤ 9223372036854775807 := ⟨by have h9 := HKD.out.2.2.2.2; have h8 : r1.2.1 = k1.cells.length + 1 := HT1.out.1; omega, a3⟩
        have hr2 : r2.2.1 ≤ 2000 ∧ r2.2.2 ≤ 9223372036854775807 := ⟨by have h9 := HKD.out.2.2.2.2; have h8 : r2.2.1 = k2.cells.length + 1 := HT2.out.1; omega, a7⟩
        clear a1 a2 a3 a4 a5 a6 a7 a8 hrow5 hv5 hbg5 hb5 HAR3
        obtain ⟨rp1, rn1, rc1⟩ := r1
        obtain ⟨rp2, rn2, rc2⟩ := r2
        simp only at x0 x1 HT1 HT2 hr1 hr2
        have HCA := callable_any (HT1.out.below HB4.out) (by omega)
        have HFL : Hid (flatB (c, k) = (calC c1 && (goalsT (c2, k2)).all goodG)) := by
          show _ = _
          unfold flatB
          rw [HSE.out, HKD.out.1, HKD.out.2.1, decide_eq_true HR.out]
          simp
        cases hcal : calC c1 with
        | false =>
          have HO : Hid _ := HNO.out (HFB.out (by rw [HFL.out, hcal]; rfl)) w4 HB4.out
          have hcal' : calC (c1, k1).1 = false := hcal
          rw [hcal'] at HCA
          clear HNO HFB hcal hcal' x1
          go_wp2_with fail
          refine HCA.mono ?_
          rintro e w5 ⟨rfl, hw5⟩
          rw [hw5]
          go_wp2_with fail
          exact bodyPost_ret (v := .tuple #[.slice none 0 0, .slice none 0 0, .bool false]) (by simp [results, Tryz.results14, go_sem]) rfl HO.out
        | true =>
          have hcal' : calC (c1, k1).1 = true := hcal
          rw [hcal'] at HCA
          have HGO := goals_any (c2, k2) rp2 rn2 rc2 w4 HKD.out.2.2.2.1 (by omega) (HT2.out.below HB4.out)
          have HXC : Hid (w4.cell? ⟨g5, 0, none⟩ = some (.slice rp1 rn1 rc1)) := x0
          clear hcal'
          go_wp2_with fail
          refine HCA.mono ?_
          rintro e w5 ⟨rfl, hw5⟩
          rw [hw5]
          go_wp2_with fail
          refine HGO.mono ?_
          rintro e w6 ⟨p6, m6, mc6, rs6, rfl, h6, hb6⟩
          have HB6 : Hid (Below w.heap.size w w6) := Below.on HB4.out hb6
          have x0' := (hb6.cell (World.block_lt_of_cell? _ _ HXC.out)).trans HXC.out
          have HFIN : Hid (FlOut w cs (.returned (.tuple #[.slice rp1 rn1 rc1, .slice p6 m6 mc6, .bool ((goalsT (c2, k2)).all goodG)])) w6) := by
            refine ⟨rp1, rn1, rc1, p6, m6, mc6, HB6.out, ?_⟩
            cases hh : (goalsT (c2, k2)).all goodG with
            | false => exact .inl ⟨rfl, HFB.out (by rw [HFL.out, hh]; simp)⟩
            | true =>
              obtain ⟨f1, f2, f3⟩ := h6 hh
              refine .inr ⟨rfl, HX.out.2.2.1, c, k, rs6, HX.out.1, HX.out.2.1, by rw [HFL.out, hcal, hh]; rfl, HX.out.2.2.2, ?_, ?_, row_mono f2 HB4.out.size, ?_⟩
              · rw [HKD.out.1]; exact HT1.out.below HB6.out
              · rw [HKD.out.2.1]; exact f1
              · rw [HKD.out.2.1]; exact f3.below hb6
          generalize (goalsT (c2, k2)).all goodG = ga at HFIN ⊢
          clear HGO h6 hb6 x0 x1 HNO HFB
          go_wp2_with fail
          exact bodyPost_ret (v := .tuple #[.slice rp1 rn1 rc1, .slice p6 m6 mc6, .bool ga]) (by simp [results, Tryz.results14, go_sem]) rfl HFIN.out
    · rw [decide_eq_false hr] at HIS
      have HO : Hid _ := HNO.out (HFB.out (by unfold flatB; rw [decide_eq_false hr]; rfl))
      clear hxb hl hin hv ex hok hlx hkl hbm hr HNO HFB HRN HSM em
      go_enter Tryz.func14, Tryz.ntmps14
      go_wp2_with fail
      refine HV.mono ?_
      rintro e w1 ⟨rfl, hb1⟩
      have HO1 : Hid _ := HO.out w1 hb1
      have HIS1 := HIS.out w1 hb1
      clear hb1 HV HIS HO
      go_wp2_with fail
      refine HIS1.mono ?_
      rintro e w1' ⟨rfl, hw1⟩
      subst hw1
      go_wp2_with fail
      exact bodyPost_ret (v := .tuple #[.slice none 0 0, .slice none 0 0, .bool false]) (by simp [results, Tryz.results14, go_sem]) rfl HO1.out
  · have hv' : validB cs = false := by simpa using hv
    rw [hv'] at HV
    have HO : Hid _ := HNO.out (fun h => hv h.1)
    obtain ⟨m, em⟩ : ∃ m, m = cs.length := ⟨_, rfl⟩
    rw [← em] at HV ⊢
    clear hxb hl hin hv hv' em HNO
    go_enter Tryz.func14, Tryz.ntmps14
    go_wp2_with fail
    refine HV.mono ?_
    rintro e w1 ⟨rfl, hb1⟩
    have HO1 : Hid _ := HO.out w1 hb1
    clear hb1 HV HO
    go_wp2_with fail
    exact bodyPost_ret (v := .tuple #[.slice none 0 0, .slice none 0 0, .bool false]) (by simp [results, Tryz.results14, go_sem]) rfl HO1.out
end Go.Proofs.YtpigjapbhbdhbaaGreatDoor

