/- Texts of FunG, CellG, NextG, Cp1, AppC. Own work of the verifier. -/
import Derived.Test.YtkklidpnkofipaaGreatDoorUqaf
import Derived.Test.YtkklidpnkofipaaGreatDoorUqae
namespace Go.Proofs.YtkklidpnkofipaaGreatDoor
set_option linter.unusedVariables false
set_option maxRecDepth 100000
section
open Go Go.RowKit
theorem functor_any (b g q : Nat) (str : ByteArray) (w : World) (h0 : w.cell? ⟨b, 0, none⟩ = some (.string str)) (h1 : w.cell? ⟨b, 1, none⟩ = some (.slice (some ⟨g, 0, none⟩) q q)) :
  Calls Tryz.prog 215 #[.pointer (some ⟨b, 0, none⟩)] w fun e w' => e = .returned (.agg #[.string str, .int .i64 q]) ∧ Below w.heap.size w w' := by
 have a0 : ∀ x, (w.alloc x).cell? ⟨b, 0, none⟩ = some (.string str) := fun x => Lib.cell?_alloc_marked x h0
 have a1 : ∀ x, (w.alloc x).cell? ⟨b, 1, none⟩ = some (.slice (some ⟨g, 0, none⟩) q q) := fun x => Lib.cell?_alloc_marked x h1
 go_enter Tryz.func215, Tryz.ntmps215
 go_wp2_with fail
 go_region
 all_goals go_wp2_with fail
 all_goals exact bodyPost_ret (v := .agg #[.string str, .int .i64 q]) (by simp [results, Tryz.results215, go_sem]) rfl ⟨rfl, ((Below.refl _ _).alloc (Nat.le_refl _) _).drew⟩
end
section
open Go Go.RowKit Go.Maps
set_option maxHeartbeats 1000000 in
theorem cellsOf_any (c : Cel) (k : Fo) (v : Value) (Bt : Nat) (w : World) (hok : (Fo.node c k .nil).ok) (hfo : FoIn w Bt (.node c k .nil) [v]) (hl : k.cells.length ≤ 10000) :
  Calls Tryz.prog 25 #[v] w fun e w' => ∃ p n cp, e = .returned (.slice p n cp) ∧ OwnC w' w.heap.size p n cp (c :: k.cells) ∧ Below w.heap.size w w' := by
 have nil := OwnC.nil w w.heap.size
 have fin : ∀ {e : Ending} {w' : World}, AppOut w w.heap.size [] (c :: k.cells) e w' → ∃ p n cp, e = .returned (.slice p n cp) ∧ OwnC w' w.heap.size p n cp (c :: k.cells) ∧ Below w.heap.size w w' := fun ⟨p, n, cp, h1, h2, h3⟩ => ⟨p, n, cp, h1, by simpa using h2, h3⟩
 have FIN : Hid _ := @fin; clear fin; obtain ⟨v', vr, e, hnode, _⟩ := hfo; obtain ⟨rfl, rfl⟩ := List.cons.inj e; have hcl := hok.1; have hby := hok.2.1
 rcases hnode with ⟨h0, rfl⟩ | ⟨h0, rfl⟩ | ⟨h0, rfl⟩ | ⟨h0, b, g, vs, rfl, hcomp⟩
 rotate_right
 case' _ =>
  have hcn := hok.2.2.1 h0; obtain ⟨c0, c1, c2⟩ := c; simp only at h0 hcl hby hcn hcomp; subst h0 hcn; have HS := appComp_any k.cells.length c2 k b g vs none 0 0 [] Bt w.heap.size w w (Nat.le_refl _) hok.2.2.2.2.1 hby hcomp (Below.refl _ _) (Nat.le_refl _) (Nat.le_refl _) nil (by omega); clear hok hcl hby e nil hcomp
 rotate_right
 case' _ =>
  have hk : k = .nil := hok.2.2.2.1 (by rw [h0]; decide); obtain ⟨c0, c1, c2⟩ := c; simp only at h0 hcl hby; subst h0 hk
  have e2 : c1 = 0 := by simp [cellB] at hcl; exact hcl.2
  subst e2; have HS := appAtom_any c2 hby none 0 0 [] w.heap.size w (Nat.le_refl _) (by decide) nil
  obtain ⟨str, es⟩ : ∃ str, str = strOfNums c2 := ⟨_, rfl⟩
  simp only; rw [← es] at HS ⊢; clear hok hcl hby e nil es
 rotate_right
 case' _ =>
  have hk : k = .nil := hok.2.2.2.1 (by rw [h0]; decide); obtain ⟨c0, c1, c2⟩ := c; simp only at h0 hcl; subst h0 hk
  have e2 : c2 = [] := by simp [cellB] at hcl; exact hcl.2.2
  subst e2; have HS := appNum_any c1 none 0 0 [] w.heap.size w (Nat.le_refl _) (by decide) nil; clear hok hcl hby e nil
 rotate_right
 case' _ =>
  have hk : k = .nil := hok.2.2.2.1 (by rw [h0]; decide); obtain ⟨c0, c1, c2⟩ := c; simp only at h0 hcl; subst h0 hk
  have e2 : c2 = [] := by simp [cellB] at hcl; exact hcl.2.2
  subst e2; have HS := appVar_any c1 none 0 0 [] w.heap.size w (Nat.le_refl _) (by decide) nil; clear hok hcl hby e nil
 all_goals
  go_enter Tryz.func25, Tryz.ntmps25
  go_wp2_with fail; refine HS.mono ?_; rintro e w1 ⟨p3, n3, c3, rfl, h1, h2⟩; have HF := FIN.out ⟨p3, n3, c3, rfl, h1, h2⟩; have HFF : Hid _ := HF; clear HF h1 h2; go_wp2_with fail; go_ret; exact HFF.out
end
section
open Go Go.RowKit
theorem CIn.part {w : World} {b o : Nat} {cs ds : List Cel} (h : ∀ i, i < cs.length → CAt w b (o + i * 3) (cs.getD i Cel.none)) (j : Nat) (hd : ds <+: cs.drop j) : CIn w (some ⟨b, o + j * 3, none⟩) ds := fun _ => by
 refine ⟨b, o + j * 3, rfl, fun i hi => ?_⟩; obtain ⟨r, hr⟩ := hd
 have hl : j + i < cs.length := by
  have := congrArg List.length hr
  simp at this; omega
 have e : cs.getD (j + i) Cel.none = ds.getD i Cel.none := by
  have h1 : (cs.drop j)[i]? = ds[i]? := by rw [← hr, List.getElem?_append_left hi]
  rw [List.getElem?_drop] at h1; simp only [List.getD, h1]
 have := h (j + i) hl; rw [e, show o + (j + i) * 3 = o + j * 3 + i * 3 by omega] at this; exact this
theorem drop_cell {cs : List Cel} {j : Nat} {c : Cel} {r : List Cel} (h : cs.drop j = c :: r) : j < cs.length ∧ cs.getD j Cel.none = c ∧ cs.drop (j + 1) = r := by
 have hl : j < cs.length := by
  rcases Nat.lt_or_ge j cs.length with h' | h'
  ·exact h'
  ·rw [List.drop_eq_nil_of_le h'] at h; cases h
 rw [List.drop_eq_getElem_cons hl] at h
 injection h with h1 h2
 exact ⟨hl, by simp [List.getD, hl, h1], h2⟩
theorem l2next_any (p : Option Addr) (n cap : Nat) (cs : List Cel) (at_ : Nat) (c : Cel) (k : Fo) (tail : List Cel) (w : World) (hn : n = cs.length) (hm : n ≤ 1000000) (hd : cs.drop at_ = c :: (k.cells ++ tail)) (hok : (Fo.node c k .nil).ok) (hin : CIn w p cs) :
  Calls Tryz.prog 121 #[.slice p n cap, .int .i64 at_] w fun e w' => e = .returned (.int .i64 ((at_ + 1 + k.cells.length : Nat) : Int)) ∧ w' = w := by
 obtain ⟨E, eE⟩ : ∃ E, E = at_ + 1 + k.cells.length := ⟨_, rfl⟩
 have HE : Hid (E = at_ + 1 + k.cells.length) := eE
 have hEn : E ≤ n := by
  have := congrArg List.length hd
  simp at this; omega
 have HD : Hid (cs.drop at_ = (Fo.node c k .nil).cells ++ tail ∧ n = cs.length) := ⟨by simp [Fo.cells, hd], hn⟩
 have HOK : Hid (Fo.node c k .nil).ok := hok; have HIN : Hid (CIn w p cs) := hin
 have hA : at_ ≤ E := by omega
 rw [← eE]; clear hn hd hok hin eE
 go_enter Tryz.func121, Tryz.ntmps121
 go_wp2
 go_loop [1, 5] (fun a l => ∃ (j : Nat) (q : Nat), j ≤ E ∧ a = .int .i64 j ∧ l = .int .i64 q ∧ q ≤ 1000000 ∧ Hid (∃ F : Fo, F.ok ∧ F.count = q ∧ cs.drop j = F.cells ++ tail ∧ j + F.cells.length = E)) (fun a _ => E - (intOf a).toNat)
 case atStart => exact ⟨at_, 1, hA, rfl, rfl, by decide, .node c k .nil, HOK.out, rfl, HD.out.1, by rw [HE.out]; simp [Fo.cells]; omega⟩
 case round =>
  obtain ⟨j, q, hj, rfl, rfl, hq, HF⟩ := hrel
  by_cases h0 : 0 < q
  ·obtain ⟨F, hFok, hFc, hFd, hFl⟩ := HF.out
   cases F with
   | nil => simp [Fo.count] at hFc; omega
   | node c1 k1 r1 =>
     simp only [Fo.cells, List.cons_append, List.append_assoc] at hFd; obtain ⟨hjl, hg, hd1⟩ := drop_cell hFd
     have hjn : j < n := by rw [HD.out.2]; exact hjl
     obtain ⟨b, o, rfl, hcs⟩ := HIN.out (by omega); obtain ⟨p0, q0, d0, d1, _, _⟩ := hcs j hjl; rw [hg] at d0 d1
     have hjE : j + 1 ≤ E := by rw [← hFl]; simp only [Fo.cells, List.length_cons, List.length_append]; omega
     have hcB := hFok.1
     by_cases h3 : c1.1 = 3
     ·have hc1 := hFok.2.2.1 h3
      rw [h3] at hcB; have hb20 := cellB_comp hcB
      have HN : Hid (∃ F : Fo, F.ok ∧ F.count = q + k1.count - 1 ∧ cs.drop (j + 1) = F.cells ++ tail ∧ j + 1 + F.cells.length = E) := by
       refine ⟨k1.cat r1, (Fo.ok_cat _ _).2 ⟨hFok.2.2.2.2.1, hFok.2.2.2.2.2⟩, ?_, ?_, ?_⟩
       ·rw [Fo.count_cat]; simp [Fo.count] at hFc; omega
       ·rw [Fo.cells_cat, hd1, List.append_assoc]
       ·rw [Fo.cells_cat, ← hFl]; simp [Fo.cells]; omega
      rw [h3] at d0; rw [hc1] at d1
      have hk20 : k1.count ≤ 20 := by omega
      have hq2 : q + k1.count - 1 ≤ 1000000 := by
       obtain ⟨F, _, hc, _, hl⟩ := HN.out; have := Fo.count_le F
       omega
      obtain ⟨m, em⟩ : ∃ m, m = k1.count := ⟨_, rfl⟩
      rw [← em] at d1 hk20 HN hq2
      have hm1 : 1 ≤ m := by omega
      clear hFok hFc hFd hFl hcs hcB h3 hc1 hb20 hd1 hg em HF
      go_wp2
      go_round
      case rel => exact ⟨j + 1, q + m - 1, hjE, by go_num, by go_num, hq2, HN⟩
      case measure => simp [intOf]; omega
     ·have hk1 : k1 = .nil := hFok.2.2.2.1 h3
      have h3' : (c1.1 == 3) = false := by simpa using h3
      have HN : Hid (∃ F : Fo, F.ok ∧ F.count = q - 1 ∧ cs.drop (j + 1) = F.cells ++ tail ∧ j + 1 + F.cells.length = E) := by
       refine ⟨r1, hFok.2.2.2.2.2, ?_, ?_, ?_⟩
       ·simp [Fo.count] at hFc; omega
       ·rw [hd1, hk1]; rfl
       ·rw [← hFl, hk1]; simp [Fo.cells]; omega
      obtain ⟨kd, ekd⟩ : ∃ kd, kd = c1.1 := ⟨_, rfl⟩
      rw [← ekd] at d0 h3'; clear hFok hFc hFd hFl hcs hcB h3 hd1 hg HF hk1 ekd
      go_wp2
      go_round
      case rel => exact ⟨j + 1, q - 1, hjE, by go_num, by go_num, by omega, HN⟩
      case measure => simp [intOf]; omega
  ·obtain rfl : q = 0 := by omega
   have HJ : Hid (j = E) := by
    obtain ⟨F, _, hc, _, hl⟩ := HF.out
    cases F with
    | nil => simpa [Fo.cells, Hid] using hl
    | node a b d => simp [Fo.count] at hc
   clear HF
   go_wp2
   go_ret; exact ⟨ret_int (by rw [HJ.out]), rfl⟩
def slV (r : Option Addr × Nat × Nat) : Value := .slice r.1 r.2.1 r.2.2
theorem app_sl (w : World) {ops : Array Oper} {rest : List Oper} {o : Oper} {a : Act} {Q : Exit → Act → World → Prop} (hgd : o.guard = none) (s x : Operand)
  (ho : o.op = .call { callee := .builtin .append, args := #[s, x], argTypes := #[30, 30] }) (B : Nat) (p : Option Addr) (n c : Nat) (rs : List (Option Addr × Nat × Nat)) (q : Option Addr) (m c' : Nat)
  (hs : a.eval s = .slice p n c) (hown : w.ownsRow B 23 1 (.slice p n c) n (rs.map slV)) (hx : a.eval x = .slice (some ⟨w.heap.size, 0, none⟩) 1 1)
  (hlen : n + 1 ≤ 1000000) (hbase : B ≤ w.heap.size)
  (h : ∀ g cap w', w'.ownsRow B 23 1 (.slice (some ⟨g, 0, none⟩) (n + 1) cap) (n + 1) ((rs ++ [(q, m, c')]).map slV) → (w.alloc (.cells #[.slice q m c'] 23)).grownBy w' (Value.ownBlock (.slice p n c)) → wpList Tryz.prog ops Q rest (a.put o.dst (.slice (some ⟨g, 0, none⟩) (n + 1) cap)) w') : wpList Tryz.prog ops Q (o :: rest) a (w.alloc (.cells #[.slice q m c'] 23)) := by
 obtain ⟨i0, hi, hz0, hz1, hz2⟩ := info_parts infoCells; refine wpList_append_lies _ hgd s x 30 ho B 23 i0 (.slice none 0 0) 1 24 Tryz.underlying30 hi hz0 hz1 hz2 rfl (by decide) (.slice p n c) n (rs.map slV) hs (hown.alloc _) ⟨w.heap.size, 0, none⟩ 1 1 [.slice q m c'] hx rfl (cell_one_new _ _ _) (by simp [Value.oneCell']) (by decide) (by unfold maxLen; omega) (by omega) (by simp; omega) _ rfl ?_
 intro g cap w' hown' hgrow hat hlt
 exact h g cap w' (by rw [List.map_append]; exact hown') hgrow
set_option maxHeartbeats 2000000 in
theorem l2copy_any (p : Option Addr) (n c : Nat) (cs : List Cel) (w : World) (hn : n = cs.length) (hl : cs.length + tl cs ≤ 10000000) (hin : CIn w p cs) :
  Calls Tryz.prog 119 #[.slice p n c] w fun e w' => ∃ q m c2, e = .returned (.slice q m c2) ∧ OwnC w' w.heap.size q m c2 cs ∧ Below w.heap.size w w' := by
 have HI : Hid (CIn w p cs) := hin; have HN : Hid (n = cs.length) := hn
 have hnl : n ≤ 10000000 := by omega
 clear hin hn
 go_enter Tryz.func119, Tryz.ntmps119
 go_wp2_with fail
 go_loopw [3, 4] (fun s i wr => ∃ (j : Nat) (q : Option Addr) (m c2 : Nat), j ≤ n ∧ m = j ∧ i = .int .i64 j ∧ s = .slice q m c2 ∧ Hid (OwnC wr w.heap.size q m c2 (cs.take j)) ∧ Hid (Below w.heap.size w wr)) (fun _ i _ => n - (intOf i).toNat)
 case atStart => exact ⟨0, none, 0, 0, Nat.zero_le _, rfl, rfl, rfl, OwnC.nil _ _, Below.refl _ _⟩
 case round =>
  obtain ⟨j, q, m, c2, hj, rfl, rfl, rfl, HO, HB⟩ := hrel
  by_cases hlt : m < n
  ·have hjl : m < cs.length := by rw [← HN.out]; exact hlt
   obtain ⟨b, o, rfl, hcs⟩ := HI.out (by omega); obtain ⟨p0, q0, d0, d1, d2, d3⟩ := (hcs m hjl).below HB.out; have hbw : b < w.heap.size := World.block_lt_of_cell? _ _ (hcs m hjl).choose_spec.choose_spec.1; have HBW : Hid (b < w.heap.size) := hbw; have htl := tl_at cs m hjl
   have HX : Hid (cs.take m ++ [((cs.getD m Cel.none).1, (cs.getD m Cel.none).2.1, (cs.getD m Cel.none).2.2)] = cs.take (m + 1)) := by
    show _ = _
    rw [List.take_succ_eq_append_getElem hjl, List.getD, List.getElem?_eq_getElem hjl]; rfl
   obtain ⟨xs, exs⟩ : ∃ x, x = (cs.getD m Cel.none).2.2 := ⟨_, rfl⟩
   obtain ⟨c0, e0⟩ : ∃ x, x = (cs.getD m Cel.none).1 := ⟨_, rfl⟩
   obtain ⟨c1, e1⟩ : ∃ x, x = (cs.getD m Cel.none).2.1 := ⟨_, rfl⟩
   rw [← e0] at d0 HX; rw [← e1] at d1 HX; rw [← exs] at d2 d3 HX htl
   obtain ⟨t, et⟩ : ∃ t, t = xs.length := ⟨_, rfl⟩
   rw [← et] at d2
   have HCP : Hid (∀ k, Calls Tryz.prog 120 #[.slice p0 t q0] (wr.drewN k) fun e w' => ∃ p' n' c', e = .returned (.slice p' n' c') ∧ OwnS w' wr.heap.size p' n' c' xs ∧ Below wr.heap.size (wr.drewN k) w') := fun k => l1copy_all p0 t q0 xs (wr.drewN k) et (by omega) d3
   have hB : w.heap.size ≤ wr.heap.size := HB.out.size; clear hcs htl exs e0 e1 et d3 hbw; go_wp2_with fail
   go_region_held3 (fun W => W.cell? ⟨b, o + m * 3, none⟩ = some (.int .i64 c0) ∧ W.cell? ⟨b, o + m * 3 + 1, none⟩ = some (.int .i64 c1) ∧ W.cell? ⟨b, o + m * 3 + 2, none⟩ = some (.slice p0 t q0))
    (first | exact kk | go_keep)
    (first
      | (go_at_call 120; refine (HCP.out 1).mono ?_; rintro e w1 ⟨p1, n1, c1', rfl, ho1, hb1⟩; have kk : w1.cell? ⟨b, o + m * 3, none⟩ = some (.int .i64 c0) ∧ w1.cell? ⟨b, o + m * 3 + 1, none⟩ = some (.int .i64 c1) ∧ w1.cell? ⟨b, o + m * 3 + 2, none⟩ = some (.slice p0 t q0) := ⟨(hb1.cell (World.block_lt_of_cell? wr _ d0)).trans d0, (hb1.cell (World.block_lt_of_cell? wr _ d1)).trans d1, (hb1.cell (World.block_lt_of_cell? wr _ d2)).trans d2⟩)
      | (refine step_app_cell wr _ rfl _ _ rfl w.heap.size q m c2 (cs.take m) rfl HO.out (((below_drewN (Below.refl _ wr) 1).trans hb1).alloc hb1.size _) hB ⟨w1.heap.size, 0, none⟩ 1 rfl c0 c1 p1 n1 c1' xs (ho1.toT.below ((Below.refl _ _).alloc (Nat.le_refl _) _)) (news_rc (Box3.of_block (t := 63) (heap_alloc_new _ _))) (by omega) ?_; intro g n' cap w5 hown5 hb5 hn5; have kk : w5.cell? ⟨b, o + m * 3, none⟩ = some (.int .i64 c0) ∧ w5.cell? ⟨b, o + m * 3 + 1, none⟩ = some (.int .i64 c1) ∧ w5.cell? ⟨b, o + m * 3 + 2, none⟩ = some (.slice p0 t q0) := ⟨(hb5.cell HBW.out).trans (Lib.cell?_alloc_marked _ kk.1), (hb5.cell HBW.out).trans (Lib.cell?_alloc_marked _ kk.2.1), (hb5.cell HBW.out).trans (Lib.cell?_alloc_marked _ kk.2.2)⟩))
   have HO5 : Hid (OwnC w5 w.heap.size (some ⟨g, 0, none⟩) n' cap (cs.take (m + 1))) := by rw [← HX.out]; exact hown5
   have HB5 : Hid (Below w.heap.size w w5) := ((HB.out.trans (((below_drewN (Below.refl _ wr) 1).trans hb1).mono hB)).alloc (Nat.le_trans hB hb1.size) _).trans hb5; have HN5 : Hid (n' = m + 1) := hn5.out; clear hown5 hb5 hn5 kk ho1 hb1 d0 d1 d2; go_wp2_with fail; go_roundw
   case rel => exact ⟨m + 1, _, _, _, by omega, HN5.out, by go_num, rfl, HO5, HB5⟩
   case measure => simp [intOf]; omega
  ·obtain rfl : m = n := by omega
   go_wp2_with fail; go_ret; refine ⟨_, _, _, rfl, ?_, HB.out⟩; have := HO.out
   rwa [List.take_of_length_le (by rw [← HN.out]; exact Nat.le_refl _)] at this
theorem rs_cat_at (a b : List RC) (i : Nat) : (a ++ b).getD i RC.zero = if i < a.length then a.getD i RC.zero else b.getD (i - a.length) RC.zero := by
 by_cases h : i < a.length
 ·rw [if_pos h, List.getD, List.getD, List.getElem?_append_left h]
 ·rw [if_neg h, List.getD, List.getD, List.getElem?_append_right (by omega)]
theorem cs_cat_at (a b : List Cel) (i : Nat) : (a ++ b).getD i Cel.none = if i < a.length then a.getD i Cel.none else b.getD (i - a.length) Cel.none := by
 by_cases h : i < a.length
 ·rw [if_pos h, List.getD, List.getD, List.getElem?_append_left h]
 ·rw [if_neg h, List.getD, List.getD, List.getElem?_append_right (by omega)]
theorem flat_one' (rs : List RC) : ∀ u ∈ flat rs, u.oneCell' = true := fun u hu => by
 obtain ⟨r, _, hr⟩ := List.mem_flatMap.1 hu; exact rcV_one r u hr
theorem ownC_grewL {W0 w w' : World} {B g n cap cp : Nat} {p : Option Addr} {cs ds : List Cel} {rs rs2 : List RC} (hn : n = cs.length) (hl : rs.length = cs.length) (hr0 : W0.ownsRow B 63 3 (.slice p n cp) n (flat rs))
  (hf : ∀ i, i < cs.length → Fits W0 B (rs.getD i RC.zero) (cs.getD i Cel.none)) (ha : ApartC p rs) (hb0 : Below W0.heap.size W0 w) (hB : B ≤ W0.heap.size)
  (hl2 : rs2.length = ds.length) (hf2 : ∀ i, i < ds.length → Fits w W0.heap.size (rs2.getD i RC.zero) (ds.getD i Cel.none)) (ha2 : ∀ i j, i < rs2.length → j < rs2.length → i ≠ j → 0 < (rs2.getD i RC.zero).2.2.2.1 → 0 < (rs2.getD j RC.zero).2.2.2.1 → (rs2.getD i RC.zero).2.2.1 ≠ (rs2.getD j RC.zero).2.2.1)
  (hr : w'.ownsRow B 63 3 (.slice (some ⟨g, 0, none⟩) (n + ds.length) cap) (n + ds.length) (flat rs ++ flat rs2)) (hg : w.grownBy w' (Value.ownBlock (.slice p n cp))) (hat : Value.ownBlock (.slice p n cp) = some g ∨ g = w.heap.size) :
  OwnC w' B (some ⟨g, 0, none⟩) (n + ds.length) cap (cs ++ ds) := by
 have hown : ∀ k, Value.ownBlock (.slice p n cp) = some k → p = some ⟨k, 0, none⟩ ∧ k < W0.heap.size := fun k hk => by
  rcases hr0.2 with ⟨hv, _⟩ | ⟨g', cap', cur, hv, hb, hg', _⟩
  ·simp only [Value.slice.injEq] at hv; rw [hv.1] at hk; simp [Value.ownBlock] at hk
  ·simp only [Value.slice.injEq] at hv
   rw [hv.1] at hk ⊢
   simp [Value.ownBlock] at hk
   subst hk; exact ⟨rfl, (Array.getElem?_eq_some_iff.1 hg').1⟩
 have hlow : ∀ i, i < cs.length → 0 < (rs.getD i RC.zero).2.2.2.1 → ∃ k, (rs.getD i RC.zero).2.2.1 = some ⟨k, 0, none⟩ ∧ k < W0.heap.size := fun i hi hp => by
  obtain ⟨k, e, _, hlt, _⟩ := (hf i hi).2.2.2 hp; exact ⟨k, e, hlt⟩
 have hhigh : ∀ i, i < ds.length → 0 < (rs2.getD i RC.zero).2.2.2.1 → ∃ k, (rs2.getD i RC.zero).2.2.1 = some ⟨k, 0, none⟩ ∧ W0.heap.size ≤ k ∧ k < w.heap.size := fun i hi hp => by
  obtain ⟨k, e, h1, h2, _⟩ := (hf2 i hi).2.2.2 hp; exact ⟨k, e, h1, h2⟩
 have hnewg : g < W0.heap.size ∨ g = w.heap.size := by
  rcases hat with h | h
  ·exact .inl (hown g h).2
  ·exact .inr h
 refine ⟨by simp; omega, rs ++ rs2, by simp; omega, by rw [flat_append]; exact hr, fun i hi => ?_, fun i hi hp => ?_, fun i j hi hj hij hpi hpj => ?_⟩
 ·rw [rs_cat_at, cs_cat_at, hl]
  by_cases e : i < cs.length
  ·rw [if_pos e, if_pos e]
   refine ⟨(hf i e).1, (hf i e).2.1, ((hf i e).2.2.below hb0).other hg.size (fun k hn0 e' => ?_)⟩; obtain ⟨k', e'', h1⟩ := hlow i e hn0; have hkk : k = k' := congrArg Addr.block (Option.some.inj (e'.symm.trans e'')); refine hg.block k (by have := hb0.size; omega) (fun hk => ?_); exact ha.1 i (by omega) hn0 (by rw [e', (hown k hk.symm).1])
  ·have hi' : i - cs.length < ds.length := by simp at hi; omega
   rw [if_neg e, if_neg e]; refine ⟨(hf2 _ hi').1, (hf2 _ hi').2.1, ((hf2 _ hi').2.2.mono hB).other hg.size (fun k hn0 e' => ?_)⟩; obtain ⟨k', e'', h1, h2⟩ := hhigh _ hi' hn0; have hkk : k = k' := congrArg Addr.block (Option.some.inj (e'.symm.trans e'')); refine hg.block k (by omega) (fun hk => ?_); have := (hown k hk.symm).2
   omega
 ·rw [rs_cat_at] at hp ⊢
  by_cases e : i < rs.length
  ·rw [if_pos e] at hp ⊢
   obtain ⟨k', e'', h1⟩ := hlow i (by omega) hp
   rcases hat with h | h
   ·rw [← (hown g h).1]
    exact ha.1 i e hp
   ·rw [e'']
    exact ne_block (by have := hb0.size; omega) hp
  ·rw [if_neg e] at hp ⊢
   obtain ⟨k', e'', h1, h2⟩ := hhigh _ (by simp at hi; omega) hp; rw [e'']; exact ne_block (by omega) hp
 ·rw [rs_cat_at] at hpi hpj ⊢
  rw [rs_cat_at]
  by_cases e : i < rs.length
  ·rw [if_pos e] at hpi ⊢
   by_cases e' : j < rs.length
   ·rw [if_pos e'] at hpj ⊢
    exact ha.2 i j e e' hij hpi hpj
   ·rw [if_neg e'] at hpj ⊢
    obtain ⟨k', e'', h1, h2⟩ := hhigh _ (by simp at hj; omega) hpj; obtain ⟨k2, e2, h3⟩ := hlow i (by omega) hpi; rw [e'', e2]; exact ne_block (by omega) hpi
  ·rw [if_neg e] at hpi ⊢
   by_cases e' : j < rs.length
   ·rw [if_pos e'] at hpj ⊢
    obtain ⟨k', e'', h1, h2⟩ := hhigh _ (by simp at hi; omega) hpi; obtain ⟨k2, e2, h3⟩ := hlow j (by omega) hpj; rw [e'', e2]; exact ne_block (by omega) hpi
   ·rw [if_neg e'] at hpj ⊢
    exact ha2 _ _ (by simp at hi; omega) (by simp at hj; omega) (by omega) hpi hpj
theorem app_cells (W0 w : World) {ops : Array Oper} {rest : List Oper} {o : Oper} {a : Act} {Q : Exit → Act → World → Prop} (hgd : o.guard = none) (s x : Operand)
  (ho : o.op = .call { callee := .builtin .append, args := #[s, x], argTypes := #[23, 23] }) (B : Nat) (p : Option Addr) (n c : Nat) (cs : List Cel)
  (hs : a.eval s = .slice p n c) (hown : OwnC W0 B p n c cs) (hb0 : Below W0.heap.size W0 w) (hB : B ≤ W0.heap.size) (q : Option Addr) (m cq : Nat) (ds : List Cel) (hx : a.eval x = .slice q m cq) (hit : OwnC w W0.heap.size q m cq ds) (hm : 0 < m) (hlen : n + m ≤ 1000000000)
  (h : ∀ g n' cap w', OwnC w' B (some ⟨g, 0, none⟩) n' cap (cs ++ ds) → Below B w w' → Hid (n' = n + m) → wpList Tryz.prog ops Q rest (a.put o.dst (.slice (some ⟨g, 0, none⟩) n' cap)) w') : wpList Tryz.prog ops Q (o :: rest) a w := by
 obtain ⟨i0, hi, hz0, hz1, hz2⟩ := info_parts infoCell; obtain ⟨hn, rs, hl, hr, hf, ha⟩ := hown; obtain ⟨hn2, rs2, hl2, hr2, hf2, ha2⟩ := hit; obtain ⟨gq, cq', hv, hbq, hgq⟩ := hr2.form hm; simp only [Value.slice.injEq, true_and] at hv; obtain ⟨rfl, rfl⟩ := hv; refine wpList_append_lies w hgd s x 23 ho B 63 i0 (.agg #[.int .i64 0, .int .i64 0, .slice none 0 0]) 3 40 Tryz.underlying23 hi hz0 hz1 hz2 rfl (by decide) (.slice p n c) n (flat rs) hs (row_below hr hb0) ⟨gq, 0, none⟩ m cq (flat rs2) hx (by rw [flat_len]; omega) (hr2.cells rfl) (flat_one' rs2) hm (by unfold maxLen; omega) (by omega) (Nat.le_trans hB hb0.size) w.heap.size rfl ?_
 intro g cap w' hown' hgrow hat hlt
 subst hn2; refine h g _ cap w' (ownC_grewL hn hl hr hf ha hb0 hB hl2 hf2 ha2.2 hown' hgrow hat) ((Below.refl _ _).grown hgrow (Nat.le_trans hB hb0.size) (fun k hk => ?_)) rfl; exact (hr.lt k hk).1
end
end Go.Proofs.YtkklidpnkofipaaGreatDoor
