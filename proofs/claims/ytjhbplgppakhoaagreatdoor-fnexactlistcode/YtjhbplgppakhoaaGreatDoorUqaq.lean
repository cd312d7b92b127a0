/- Texts of WtB, NextG, ArgU, WtC. Own work of the verifier. -/
import Derived.Test.YtjhbplgppakhoaaGreatDoorUqao
import Derived.Test.YtjhbplgppakhoaaGreatDoorUqap
import Derived.Test.YtjhbplgppakhoaaGreatDoorUqam
namespace Go.Proofs.YtjhbplgppakhoaaGreatDoor
open Go Go.RowKit
set_option linter.unusedVariables false
set_option maxRecDepth 100000 in
theorem isCurly_any (c : Cel) (rest : List Cel) (p : Option Addr) (n cap : Nat) (w : World) (hb : Byte c.2.2) (hn : n = rest.length + 1) (hin : CIn w p (c :: rest)) :
    Calls Tryz.prog 63 #[.slice p n cap, .string ⟨#[123, 125]⟩, .int .i64 1] w fun e w' => e = .returned (.bool (decide (c = curly))) ∧ w' = w := by
  obtain ⟨b, o, rfl, hcs⟩ := hin (by simp)
  obtain ⟨p0, q0, d0, d1, d2, d3⟩ := hcs 0 (by simp)
  simp only [List.getD_cons_zero, Nat.zero_mul, Nat.add_zero] at d0 d1 d2 d3
  have hcv := conv_str d3 c.2.2.length q0 rfl 9 Tryz.underlying9
  have hstr := str_eq hb [123, 125]
  have hlt : (0 : Int) < n := by omega
  obtain ⟨str, es⟩ : ∃ str, str = strOfNums c.2.2 := ⟨_, rfl⟩
  rw [← es] at hcv hstr
  obtain ⟨m, em⟩ : ∃ m, m = c.2.2.length := ⟨_, rfl⟩
  rw [← em] at hcv d2
  have HEQ : Hid (c = curly ↔ c.1 = 3 ∧ c.2.1 = 1 ∧ c.2.2 = [123, 125]) := by
    obtain ⟨a, b, d⟩ := c
    simp [curly, Hid]
  clear hcs es em hn d3
  by_cases hs : c.2.2 = [123, 125]
  · have hs' : str.toList = [123, 125] := hstr.2 (by rw [hs]; rfl)
    have HS : Hid (c.2.2 = [123, 125]) := hs
    clear hs hstr
    obtain ⟨c0, e0⟩ : ∃ x, x = c.1 := ⟨_, rfl⟩
    obtain ⟨c1, e1⟩ : ∃ x, x = c.2.1 := ⟨_, rfl⟩
    rw [← e0] at d0
    rw [← e1] at d1
    have HE : Hid (c0 = c.1 ∧ c1 = c.2.1) := ⟨e0, e1⟩
    clear e0 e1
    by_cases h3 : c0 = 3
    · subst h3
      go_enter Tryz.func63, Tryz.ntmps63
      go_wp2_with fail
      go_ret
      exact ⟨ret_bool (by
        rw [Bool.eq_iff_iff]
        simp only [decide_eq_true_iff, beq_iff_eq, HEQ.out]
        have := HE.out
        constructor
        · intro h; exact ⟨this.1.symm, by rw [← this.2]; exact h, HS.out⟩
        · intro h; rw [this.2]; exact h.2.1), rfl⟩
    · have h3' : (c0 == 3) = false := by simpa using h3
      have HD : Hid (decide (c = curly) = false) := by
        show _ = _
        rw [decide_eq_false_iff_not, HEQ.out]
        exact fun h => h3 (by rw [HE.out.1]; exact h.1)
      rw [HD.out]
      clear h3
      go_enter Tryz.func63, Tryz.ntmps63
      go_wp2_with fail
      go_ret
      exact ⟨rfl, rfl⟩
  · have hs' : (str.toList == [123, 125]) = false := by rw [beq_eq_false_iff_ne]; exact fun h => hs (by have := hstr.1 h; simpa using this)
    have HD : Hid (decide (c = curly) = false) := by
      show _ = _
      rw [decide_eq_false_iff_not, HEQ.out]
      exact fun h => hs h.2.2
    rw [HD.out]
    clear hs hstr
    go_enter Tryz.func63, Tryz.ntmps63
    go_wp2_with fail
    go_ret
    exact ⟨rfl, rfl⟩
def NIn (w : World) (p : Option Addr) (N : List (List Int)) : Prop := 0 < N.length → ∃ b o, p = some ⟨b, o, none⟩ ∧ ∀ i, i < N.length → ∃ q c, w.cell? ⟨b, o + i, none⟩ = some (.slice q (N.getD i []).length c) ∧ BIn w q (N.getD i [])
theorem NIn.below {w W : World} {p : Option Addr} {N : List (List Int)} (h : NIn w p N) (hb : Below w.heap.size w W) : NIn W p N := fun hn => by
  obtain ⟨b, o, e, h⟩ := h hn
  exact ⟨b, o, e, fun i hi => by
    obtain ⟨q, c, h1, h2⟩ := h i hi
    exact ⟨q, c, (hb.cell (World.block_lt_of_cell? _ _ h1)).trans h1, h2.below hb⟩⟩
structure WEnv (W0 : World) (ob : Nat) (po : Option Addr) (co : Nat) (T : List Cel) (pn : Option Addr) (cn : Nat) (N : List (List Int)) (q : Bool) : Prop where
  c0 : W0.cell? ⟨ob, 0, none⟩ = some (.slice po T.length co)
  c1 : W0.cell? ⟨ob, 1, none⟩ = some (.slice pn N.length cn)
  c2 : W0.cell? ⟨ob, 2, none⟩ = some (.bool q)
  ops : OIn W0 po T
  opb : ∀ i, i < T.length → Byte (T.getD i Cel.none).2.2 ∧ (T.getD i Cel.none).2.2.length ≤ 100 ∧ (0 ≤ (T.getD i Cel.none).1 ∧ (T.getD i Cel.none).1 ≤ 1200) ∧ 0 ≤ (T.getD i Cel.none).2.1 ∧ (T.getD i Cel.none).2.1 ≤ 6
  olen : T.length ≤ 1000
  names : NIn W0 pn N
  nb : ∀ i, i < N.length → Byte (N.getD i []) ∧ (N.getD i []).length ≤ 1048576
  nlen : N.length ≤ 1048576
theorem WEnv.below {W0 W : World} {ob : Nat} {po : Option Addr} {co : Nat} {T : List Cel} {pn : Option Addr} {cn : Nat} {N : List (List Int)} {q : Bool} (h : WEnv W0 ob po co T pn cn N q) (hb : Below W0.heap.size W0 W) : WEnv W ob po co T pn cn N q := ⟨(hb.cell (World.block_lt_of_cell? _ _ h.c0)).trans h.c0, (hb.cell (World.block_lt_of_cell? _ _ h.c1)).trans h.c1, (hb.cell (World.block_lt_of_cell? _ _ h.c2)).trans h.c2, h.ops.below hb, h.opb, h.olen, h.names.below hb, h.nb, h.nlen⟩
def StrO (xs : List Int) (w : World) (e : Ending) (w' : World) : Prop := e = .returned (.string (strOfNums xs)) ∧ Below w.heap.size w w'
set_option maxRecDepth 100000 in
theorem atom_any (ob : Nat) (po : Option Addr) (co : Nat) (T : List Cel) (pn : Option Addr) (cn : Nat) (N : List (List Int)) (q : Bool) (p : Option Addr) (l c : Nat) (xs : List Int) (w : World) (hE : WEnv w ob po co T pn cn N q) (hl : l = xs.length) (hb : Byte xs) (hn : xs.length ≤ 1048576) (hx : BIn w p xs) :
    Calls Tryz.prog 62 #[.pointer (some ⟨ob, 0, none⟩), .slice p l c] w (StrO (atomW q xs) w) := by
  have c2 := hE.c2
  have HQ : Hid (Calls Tryz.prog 49 #[.slice p l c] w fun e w' => ∃ p' n' c', e = .returned (.slice p' n' c') ∧ OwnS w' w.heap.size p' n' c' (quoteB xs) ∧ Below w.heap.size w w') := by rw [hl]; exact specQuote_in p c xs w hb hn hx
  have cv := conv_str hx l c hl 9 Tryz.underlying9
  have HS : Hid (∀ W, Below w.heap.size w W → ∀ s, s = strOfNums xs → StrO xs w (.returned (.string s)) W) := fun W hW s es => ⟨by rw [es], hW⟩
  obtain ⟨s, es⟩ : ∃ s, s = strOfNums xs := ⟨_, rfl⟩
  have HES : Hid (s = strOfNums xs) := es
  rw [← es] at cv
  clear es hE hb hx hn hl
  cases q with
  | true =>
    have e : atomW true xs = quoteB xs := rfl
    rw [e]
    clear e cv
    go_enter Tryz.func62, Tryz.ntmps62
    go_wp2_with fail
    refine HQ.out.mono ?_
    rintro e w1 ⟨p1, n1, c1, rfl, ho, hb1⟩
    have cv1 := conv_str ho.bin n1 c1 ho.1 9 Tryz.underlying9
    have HB1 : Hid (Below w.heap.size w w1) := hb1
    obtain ⟨s1, es1⟩ : ∃ s, s = strOfNums (quoteB xs) := ⟨_, rfl⟩
    rw [← es1] at cv1
    have HE1 : Hid (s1 = strOfNums (quoteB xs)) := es1
    clear ho hb1 es1
    go_wp2_with fail
    go_ret
    exact ⟨by rw [HE1.out]; rfl, HB1.out⟩
  | false =>
    have e : atomW false xs = xs := rfl
    rw [e]
    clear e
    go_enter Tryz.func62, Tryz.ntmps62
    go_wp2_with fail
    go_ret
    exact ⟨by rw [HES.out]; rfl, Below.refl _ _⟩
set_option maxRecDepth 100000 in
theorem left_any (op : Cel) (pq : Option Addr) (n c : Nat) (w : World) (h0 : 0 ≤ op.1 ∧ op.1 ≤ 1200) : Calls Tryz.prog 96 #[.agg #[.slice pq n c, .int .i64 op.1, .int .i64 op.2.1]] w fun e w' => e = .returned (.int .i64 (leftP op)) ∧ Below w.heap.size w w' := by
  obtain ⟨h0, h1⟩ := h0
  have HL : Hid (leftP op = if op.2.1 = 2 ∨ op.2.1 = 6 then op.1 else op.1 - 1) := rfl
  obtain ⟨r, er⟩ : ∃ r, r = leftP op := ⟨_, rfl⟩
  rw [← er] at HL ⊢
  clear er
  obtain ⟨x, ex⟩ : ∃ x, x = op.1 := ⟨_, rfl⟩
  obtain ⟨t, et⟩ : ∃ t, t = op.2.1 := ⟨_, rfl⟩
  rw [← ex, ← et] at HL
  rw [← ex] at h0 h1 ⊢
  rw [← et]
  clear ex et
  by_cases g1 : t = 2
  · have e : Hid (r = x) := by show _ = _; rw [HL.out, if_pos (.inl g1)]
    subst g1
    clear HL
    go_enter Tryz.func96, Tryz.ntmps96
    go_wp2_with fail
    go_ret
    exact ⟨by rw [e.out]; rfl, (Below.refl _ _).alloc (Nat.le_refl _) _⟩
  · by_cases g2 : t = 6
    · have e : Hid (r = x) := by show _ = _; rw [HL.out, if_pos (.inr g2)]
      subst g2
      clear HL
      go_enter Tryz.func96, Tryz.ntmps96
      go_wp2_with fail
      go_ret
      exact ⟨by rw [e.out]; rfl, (Below.refl _ _).alloc (Nat.le_refl _) _⟩
    · have e : Hid (r = x - 1) := by show _ = _; rw [HL.out, if_neg (fun h => h.elim g1 g2)]
      have g1' : (t == 2) = false := by simpa using g1
      have g2' : (t == 6) = false := by simpa using g2
      clear HL
      go_enter Tryz.func96, Tryz.ntmps96
      go_wp2_with fail
      go_ret
      exact ⟨by rw [e.out]; rfl, (Below.refl _ _).alloc (Nat.le_refl _) _⟩
set_option maxRecDepth 100000 in
theorem right_any (op : Cel) (pq : Option Addr) (n c : Nat) (w : World) (h0 : 0 ≤ op.1 ∧ op.1 ≤ 1200) : Calls Tryz.prog 92 #[.agg #[.slice pq n c, .int .i64 op.1, .int .i64 op.2.1]] w fun e w' => e = .returned (.int .i64 (rightP op)) ∧ Below w.heap.size w w' := by
  obtain ⟨h0, h1⟩ := h0
  have HL : Hid (rightP op = if op.2.1 = 1 ∨ op.2.1 = 3 then op.1 else op.1 - 1) := rfl
  obtain ⟨r, er⟩ : ∃ r, r = rightP op := ⟨_, rfl⟩
  rw [← er] at HL ⊢
  clear er
  obtain ⟨x, ex⟩ : ∃ x, x = op.1 := ⟨_, rfl⟩
  obtain ⟨t, et⟩ : ∃ t, t = op.2.1 := ⟨_, rfl⟩
  rw [← ex, ← et] at HL
  rw [← ex] at h0 h1 ⊢
  rw [← et]
  clear ex et
  by_cases g1 : t = 1
  · have e : Hid (r = x) := by show _ = _; rw [HL.out, if_pos (.inl g1)]
    subst g1
    clear HL
    go_enter Tryz.func92, Tryz.ntmps92
    go_wp2_with fail
    go_ret
    exact ⟨by rw [e.out]; rfl, (Below.refl _ _).alloc (Nat.le_refl _) _⟩
  · by_cases g2 : t = 3
    · have e : Hid (r = x) := by show _ = _; rw [HL.out, if_pos (.inr g2)]
      subst g2
      clear HL
      go_enter Tryz.func92, Tryz.ntmps92
      go_wp2_with fail
      go_ret
      exact ⟨by rw [e.out]; rfl, (Below.refl _ _).alloc (Nat.le_refl _) _⟩
    · have e : Hid (r = x - 1) := by show _ = _; rw [HL.out, if_neg (fun h => h.elim g1 g2)]
      have g1' : (t == 1) = false := by simpa using g1
      have g2' : (t == 3) = false := by simpa using g2
      clear HL
      go_enter Tryz.func92, Tryz.ntmps92
      go_wp2_with fail
      go_ret
      exact ⟨by rw [e.out]; rfl, (Below.refl _ _).alloc (Nat.le_refl _) _⟩
end Go.Proofs.YtjhbplgppakhoaaGreatDoor

namespace Go.Proofs.YtjhbplgppakhoaaGreatDoor
open Go Go.RowKit
set_option linter.unusedVariables false
theorem CIn.part {w : World} {b o : Nat} {cs ds : List Cel} (h : ∀ i, i < cs.length → CAt w b (o + i * 3) (cs.getD i Cel.none)) (j : Nat) (hd : ds <+: cs.drop j) : CIn w (some ⟨b, o + j * 3, none⟩) ds := fun _ => by
  refine ⟨b, o + j * 3, rfl, fun i hi => ?_⟩
  obtain ⟨r, hr⟩ := hd
  have hl : j + i < cs.length := by
    have := congrArg List.length hr
    simp at this; omega
  have e : cs.getD (j + i) Cel.none = ds.getD i Cel.none := by
    have h1 : (cs.drop j)[i]? = ds[i]? := by rw [← hr, List.getElem?_append_left hi]
    rw [List.getElem?_drop] at h1
    simp only [List.getD, h1]
  have := h (j + i) hl
  rw [e, show o + (j + i) * 3 = o + j * 3 + i * 3 by omega] at this
  exact this
theorem drop_cell {cs : List Cel} {j : Nat} {c : Cel} {r : List Cel} (h : cs.drop j = c :: r) : j < cs.length ∧ cs.getD j Cel.none = c ∧ cs.drop (j + 1) = r := by
  have hl : j < cs.length := by
    rcases Nat.lt_or_ge j cs.length with h' | h'
    · exact h'
    · rw [List.drop_eq_nil_of_le h'] at h; cases h
  rw [List.drop_eq_getElem_cons hl] at h
  injection h with h1 h2
  exact ⟨hl, by simp [List.getD, hl, h1], h2⟩
set_option maxRecDepth 100000 in
theorem l2next_any (p : Option Addr) (n cap : Nat) (cs : List Cel) (at_ : Nat) (c : Cel) (k : Fo) (tail : List Cel) (w : World) (hn : n = cs.length) (hm : n ≤ 1000000) (hd : cs.drop at_ = c :: (k.cells ++ tail)) (hok : (Fo.node c k .nil).ok) (hin : CIn w p cs) :
    Calls Tryz.prog 87 #[.slice p n cap, .int .i64 at_] w fun e w' => e = .returned (.int .i64 ((at_ + 1 + k.cells.length : Nat) : Int)) ∧ w' = w := by
  obtain ⟨E, eE⟩ : ∃ E, E = at_ + 1 + k.cells.length := ⟨_, rfl⟩
  have HE : Hid (E = at_ + 1 + k.cells.length) := eE
  have hEn : E ≤ n := by
    have := congrArg List.length hd
    simp at this; omega
  have HD : Hid (cs.drop at_ = (Fo.node c k .nil).cells ++ tail ∧ n = cs.length) := ⟨by simp [Fo.cells, hd], hn⟩
  have HOK : Hid (Fo.node c k .nil).ok := hok
  have HIN : Hid (CIn w p cs) := hin
  have hA : at_ ≤ E := by omega
  rw [← eE]
  clear hn hd hok hin eE
  go_enter Tryz.func87, Tryz.ntmps87
  go_wp2
  go_loop [1, 5] (fun a l => ∃ (j : Nat) (q : Nat), j ≤ E ∧ a = .int .i64 j ∧ l = .int .i64 q ∧ q ≤ 1000000 ∧ Hid (∃ F : Fo, F.ok ∧ F.count = q ∧ cs.drop j = F.cells ++ tail ∧ j + F.cells.length = E)) (fun a _ => E - (intOf a).toNat)
  case atStart => exact ⟨at_, 1, hA, rfl, rfl, by decide, .node c k .nil, HOK.out, rfl, HD.out.1, by rw [HE.out]; simp [Fo.cells]; omega⟩
  case round =>
    obtain ⟨j, q, hj, rfl, rfl, hq, HF⟩ := hrel
    by_cases h0 : 0 < q
    · obtain ⟨F, hFok, hFc, hFd, hFl⟩ := HF.out
      cases F with
      | nil => simp [Fo.count] at hFc; omega
      | node c1 k1 r1 =>
        simp only [Fo.cells, List.cons_append, List.append_assoc] at hFd
        obtain ⟨hjl, hg, hd1⟩ := drop_cell hFd
        have hjn : j < n := by rw [HD.out.2]; exact hjl
        obtain ⟨b, o, rfl, hcs⟩ := HIN.out (by omega)
        obtain ⟨p0, q0, d0, d1, _, _⟩ := hcs j hjl
        rw [hg] at d0 d1
        have hjE : j + 1 ≤ E := by rw [← hFl]; simp only [Fo.cells, List.length_cons, List.length_append]; omega
        have hcB := hFok.1
        by_cases h3 : c1.1 = 3
        · have hc1 := hFok.2.2.1 h3
          rw [h3] at hcB
          have hb20 := cellB_comp hcB
          have HN : Hid (∃ F : Fo, F.ok ∧ F.count = q + k1.count - 1 ∧ cs.drop (j + 1) = F.cells ++ tail ∧ j + 1 + F.cells.length = E) := by
            refine ⟨k1.cat r1, (Fo.ok_cat _ _).2 ⟨hFok.2.2.2.2.1, hFok.2.2.2.2.2⟩, ?_, ?_, ?_⟩
            · rw [Fo.count_cat]; simp [Fo.count] at hFc; omega
            · rw [Fo.cells_cat, hd1, List.append_assoc]
            · rw [Fo.cells_cat, ← hFl]; simp [Fo.cells]; omega
          rw [h3] at d0
          rw [hc1] at d1
          have hk20 : k1.count ≤ 20 := by omega
          have hq2 : q + k1.count - 1 ≤ 1000000 := by
            obtain ⟨F, _, hc, _, hl⟩ := HN.out
            have := Fo.count_le F
            omega
          obtain ⟨m, em⟩ : ∃ m, m = k1.count := ⟨_, rfl⟩
          rw [← em] at d1 hk20 HN hq2
          have hm1 : 1 ≤ m := by omega
          clear hFok hFc hFd hFl hcs hcB h3 hc1 hb20 hd1 hg em HF
          go_wp2
          go_round
          case rel => exact ⟨j + 1, q + m - 1, hjE, by go_num, by go_num, hq2, HN⟩
          case measure => simp [intOf]; omega
        · have hk1 : k1 = .nil := hFok.2.2.2.1 h3
          have h3' : (c1.1 == 3) = false := by simpa using h3
          have HN : Hid (∃ F : Fo, F.ok ∧ F.count = q - 1 ∧ cs.drop (j + 1) = F.cells ++ tail ∧ j + 1 + F.cells.length = E) := by
            refine ⟨r1, hFok.2.2.2.2.2, ?_, ?_, ?_⟩
            · simp [Fo.count] at hFc; omega
            · rw [hd1, hk1]; rfl
            · rw [← hFl, hk1]; simp [Fo.cells]; omega
          obtain ⟨kd, ekd⟩ : ∃ kd, kd = c1.1 := ⟨_, rfl⟩
          rw [← ekd] at d0 h3'
          clear hFok hFc hFd hFl hcs hcB h3 hd1 hg HF hk1 ekd
          go_wp2
          go_round
          case rel => exact ⟨j + 1, q - 1, hjE, by go_num, by go_num, by omega, HN⟩
          case measure => simp [intOf]; omega
    · obtain rfl : q = 0 := by omega
      have HJ : Hid (j = E) := by
        obtain ⟨F, _, hc, _, hl⟩ := HF.out
        cases F with
        | nil => simpa [Fo.cells, Hid] using hl
        | node a b d => simp [Fo.count] at hc
      clear HF
      go_wp2
      go_ret
      exact ⟨ret_int (by rw [HJ.out]), rfl⟩
def slV (r : Option Addr × Nat × Nat) : Value := .slice r.1 r.2.1 r.2.2
theorem app_sl (w : World) {ops : Array Oper} {rest : List Oper} {o : Oper} {a : Act} {Q : Exit → Act → World → Prop} (hgd : o.guard = none) (s x : Operand)
    (ho : o.op = .call { callee := .builtin .append, args := #[s, x], argTypes := #[113, 113] }) (B : Nat) (p : Option Addr) (n c : Nat) (rs : List (Option Addr × Nat × Nat)) (q : Option Addr) (m c' : Nat)
    (hs : a.eval s = .slice p n c) (hown : w.ownsRow B 32 1 (.slice p n c) n (rs.map slV)) (hx : a.eval x = .slice (some ⟨w.heap.size, 0, none⟩) 1 1)
    (hlen : n + 1 ≤ 1000000) (hbase : B ≤ w.heap.size)
    (h : ∀ g cap w', w'.ownsRow B 32 1 (.slice (some ⟨g, 0, none⟩) (n + 1) cap) (n + 1) ((rs ++ [(q, m, c')]).map slV) → (w.alloc (.cells #[.slice q m c'] 32)).grownBy w' (Value.ownBlock (.slice p n c)) → wpList Tryz.prog ops Q rest (a.put o.dst (.slice (some ⟨g, 0, none⟩) (n + 1) cap)) w') : wpList Tryz.prog ops Q (o :: rest) a (w.alloc (.cells #[.slice q m c'] 32)) := by
  obtain ⟨i0, hi, hz0, hz1, hz2⟩ := info_parts infoCells
  refine wpList_append_lies _ hgd s x 113 ho B 32 i0 (.slice none 0 0) 1 24 Tryz.underlying113 hi hz0 hz1 hz2 rfl (by decide) (.slice p n c) n (rs.map slV) hs (hown.alloc _) ⟨w.heap.size, 0, none⟩ 1 1 [.slice q m c'] hx rfl (cell_one_new _ _ _) (by simp [Value.oneCell']) (by decide) (by unfold maxLen; omega) (by omega) (by simp; omega) _ rfl ?_
  intro g cap w' hown' hgrow hat hlt
  exact h g cap w' (by rw [List.map_append]; exact hown') hgrow
end Go.Proofs.YtjhbplgppakhoaaGreatDoor

namespace Go.Proofs.YtjhbplgppakhoaaGreatDoor
open Go Go.RowKit
set_option linter.unusedVariables false
set_option linter.unusedSimpArgs false
def ArgRowU (w : World) : List (Option Addr × Nat × Nat) → List Tr → Prop
  | [], [] => True
  | r :: rs, t :: ts => r.2.1 = 1 + t.2.cells.length ∧ r.2.1 ≤ r.2.2 ∧ r.2.2 ≤ 9223372036854775807 ∧ CIn w r.1 (t.1 :: t.2.cells) ∧ ArgRowU w rs ts
  | [], _ :: _ => False
  | _ :: _, [] => False
theorem ArgRowU.snoc {w : World} {r : Option Addr × Nat × Nat} {t : Tr} (h1 : r.2.1 = 1 + t.2.cells.length) (h2 : r.2.1 ≤ r.2.2) (h3 : r.2.2 ≤ 9223372036854775807) (h4 : CIn w r.1 (t.1 :: t.2.cells)) : ∀ {rs : List (Option Addr × Nat × Nat)} {ts : List Tr}, ArgRowU w rs ts → ArgRowU w (rs ++ [r]) (ts ++ [t])
  | [], [], _ => ⟨h1, h2, h3, h4, trivial⟩
  | _ :: _, _ :: _, h => ⟨h.1, h.2.1, h.2.2.1, h.2.2.2.1, ArgRowU.snoc h1 h2 h3 h4 h.2.2.2.2⟩
  | [], _ :: _, h => h.elim
  | _ :: _, [], h => h.elim
structure ArgStU (W0 w wr : World) (cs : List Cel) (k : Fo) (a : Nat) (D : List Tr) (G : Fo) (pt : Option Addr) (nt ct : Nat) (rs : List (Option Addr × Nat × Nat)) : Prop where
  gd : cs.drop a = G.cells
  gok : G.ok
  all : D ++ trs G = trs k
  cnt : nt = D.length
  row : wr.ownsRow w.heap.size 32 1 (.slice pt nt ct) nt (rs.map slV)
  arg : ArgRowU W0 rs D
  low : Below w.heap.size w wr
def ArgsOutU (W0 w : World) (k : Fo) (e : Ending) (w' : World) : Prop := ∃ q m mc rs, e = .returned (.slice q m mc) ∧ m = k.count ∧ w'.ownsRow w.heap.size 32 1 (.slice q m mc) m (rs.map slV) ∧ ArgRowU W0 rs (trs k) ∧ Below w.heap.size w w'
set_option maxRecDepth 100000 in
set_option maxHeartbeats 2000000 in
theorem l2argsU_any (c : Cel) (k : Fo) (p : Option Addr) (n cap : Nat) (W0 w : World) (hW : Below W0.heap.size W0 w) (h3 : c.1 = 3) (hok : (Fo.node c k .nil).ok) (hn : n = (c :: k.cells).length) (hnm : n ≤ 2000) (hcap : n ≤ cap) (hcm : cap ≤ 9223372036854775807) (hin0 : CIn W0 p (c :: k.cells)) :
    Calls Tryz.prog 88 #[.slice p n cap] w (ArgsOutU W0 w k) := by
  have hin := hin0.below hW
  obtain ⟨b, o, rfl, hcs⟩ := hin (by simp)
  obtain ⟨b0, o0, eb0, hcs0⟩ := hin0 (by simp)
  cases eb0
  have HK : Hid (∀ wr, Below w.heap.size w wr → wr.cell? ⟨b, o, none⟩ = some (.int .i64 3) ∧ wr.cell? ⟨b, o + 1, none⟩ = some (.int .i64 k.count)) := fun wr hb => by
    obtain ⟨p0, q0, d0, d1, _, _⟩ := (hcs 0 (by simp)).below hb
    simp only [List.getD_cons_zero, Nat.zero_mul, Nat.add_zero] at d0 d1
    rw [h3] at d0
    rw [hok.2.2.1 h3] at d1
    exact ⟨d0, d1⟩
  obtain ⟨d0, d1⟩ := HK.out w (Below.refl _ _)
  have hb20 : k.count ≤ 20 := by
    have h := hok.1
    rw [h3] at h
    have := cellB_comp h
    have := hok.2.2.1 h3
    omega
  have HST : Hid (ArgStU W0 w w (c :: k.cells) k 1 [] k none 0 0 []) := ⟨rfl, hok.2.2.2.2.1, rfl, rfl, World.ownsRow_nil _ _ _ _, trivial, Below.refl _ _⟩
  have HGL : Hid (1 + k.cells.length = n) := by show _ = _; rw [hn]; simp; omega
  obtain ⟨cs, ecs⟩ : ∃ cs, cs = c :: k.cells := ⟨_, rfl⟩
  rw [← ecs] at hcs hn HST hin hcs0
  have HX : Hid (∀ i, i < cs.length → CAt W0 b (o + i * 3) (cs.getD i Cel.none)) := hcs0
  have HIN : Hid (CIn w (some ⟨b, o, none⟩) cs) := hin
  have HN : Hid (n = cs.length) := hn
  obtain ⟨M, eM⟩ : ∃ M, M = k.count := ⟨_, rfl⟩
  have HM : Hid (M = k.count) := eM
  rw [← eM] at HK d1 hb20
  have hn0 : 0 < n := by have := HGL.out; omega
  have hn00 : ((n : Int) == 0) = false := by rw [beq_eq_false_iff_ne]; omega
  clear hcs hin hn ecs eM h3 hok hcs0 hin0
  go_enter Tryz.func88, Tryz.ntmps88
  go_wp2_with fail
  clear d0 d1
  go_loopw [3, 4, 5] (fun s3 s4 s5 wr => ∃ (a : Nat) (D : List Tr) (G : Fo) (pt : Option Addr) (nt ct : Nat) (rs : List (Option Addr × Nat × Nat)), a ≤ n ∧ nt ≤ M ∧ s3 = .slice pt nt ct ∧ s4 = .int .i64 a ∧ s5 = .int .i64 nt ∧ Hid (a + G.cells.length = n) ∧ Hid (ArgStU W0 w wr cs k a D G pt nt ct rs)) (fun _ _ i _ => M - (intOf i).toNat)
  case atStart => exact ⟨1, [], k, none, 0, 0, [], by omega, Nat.zero_le _, rfl, rfl, rfl, HGL.out, HST.out⟩
  case round =>
    obtain ⟨a, D, G, pt, nt, ct, rs, ha, hnt, rfl, rfl, rfl, HL, HS⟩ := hrel
    obtain ⟨d0, d1⟩ := HK.out wr HS.out.low
    by_cases hlt : nt < M
    · obtain ⟨c1, k1, r1, rfl⟩ : ∃ c k r, G = .node c k r := by
        cases G with
        | nil =>
          have h1 := HS.out.all
          have h2 := congrArg List.length h1
          have h3 := HS.out.cnt
          have h4 := HM.out
          simp [trs, trs_len] at h2
          omega
        | node c k r => exact ⟨c, k, r, rfl⟩
      have hgd : cs.drop a = c1 :: (k1.cells ++ r1.cells) := HS.out.gd
      have HO : Hid (Fo.node c1 k1 r1).ok := HS.out.gok
      have HT : Hid (Fo.node c1 k1 .nil).ok := ⟨HO.out.1, HO.out.2.1, HO.out.2.2.1, HO.out.2.2.2.1, HO.out.2.2.2.2.1, trivial⟩
      have HNX := l2next_any (some ⟨b, o, none⟩) n cap cs a c1 k1 r1.cells wr HN.out (by omega) hgd HT.out (HIN.out.below HS.out.low)
      have HPT : Hid (CIn W0 (some ⟨b, o + a * 3, none⟩) (c1 :: k1.cells)) := CIn.part HX.out a (by rw [hgd]; exact ⟨r1.cells, by simp⟩)
      obtain ⟨L, eL⟩ : ∃ L, L = 1 + k1.cells.length := ⟨_, rfl⟩
      have HEL : Hid (L = 1 + k1.cells.length) := eL
      have hnx : a + 1 + k1.cells.length = a + L := by omega
      have HDR : Hid (cs.drop (a + L) = r1.cells) := by
        show _ = _
        rw [← hnx, show a + 1 + k1.cells.length = (a + 1) + k1.cells.length by omega, ← List.drop_drop, (drop_cell hgd).2.2]; simp
      have hle : a + L ≤ n := by have := HL.out; simp [Fo.cells] at this; omega
      rw [hnx] at HNX
      have HLL : Hid (a + L + r1.cells.length = n) := by show _ = _; have := HL.out; simp [Fo.cells] at this; omega
      have hL1 : 1 ≤ L := by omega
      have hma : (0 : Int) < (cap : Int) - (a : Int) := by omega
      have hL2 : (a : Int) ≤ (a : Int) + (L : Int) := by omega
      have hL3 : (a : Int) + (L : Int) ≤ (n : Int) := by omega
      have hL4 : (a : Int) + (L : Int) ≤ (cap : Int) := by omega
      have hcap1 : ¬ cap = a := by omega
      have hcap2 : ¬ cap - a = 0 := by omega
      have hltI : (nt : Int) < (M : Int) := by omega
      clear hgd eL hnx
      go_wp2_with fail
      refine HNX.mono ?_
      rintro e w3 ⟨rfl, rfl⟩
      clear HNX
      go_wp2_with (at_builtin; refine app_sl _ rfl _ _ rfl w.heap.size pt nt ct rs (some ⟨b, o + a * 3, none⟩) L (cap - a) rfl HS.out.row rfl (by omega) HS.out.low.size ?_; intro g6 cap6 w6 hown6 hg6)
      have hbal := HS.out.low.alloc HS.out.low.size (.cells #[.slice (some ⟨b, o + a * 3, none⟩) L (cap - a)] 32)
      have HS6 : Hid (ArgStU W0 w w6 cs k (a + L) (D ++ [(c1, k1)]) r1 (some ⟨g6, 0, none⟩) (nt + 1) cap6 (rs ++ [(some ⟨b, o + a * 3, none⟩, L, cap - a)])) :=
        ⟨HDR.out, HO.out.2.2.2.2.2, by rw [← HS.out.all]; simp [trs], by rw [HS.out.cnt]; simp, hown6, ArgRowU.snoc HEL.out (by simp only; omega) (by simp only; omega) HPT.out HS.out.arg, hbal.grown hg6 hbal.size (fun k e => (HS.out.row.lt k e).1)⟩
      clear hown6 hg6 hbal
      go_roundw
      case rel => exact ⟨a + L, D ++ [(c1, k1)], r1, some ⟨g6, 0, none⟩, nt + 1, cap6, _, by omega, by omega, rfl, by go_num, by go_num, HLL.out, HS6⟩
      case measure => simp [intOf]; omega
    · obtain rfl : nt = M := by omega
      have HF : Hid (ArgRowU W0 rs (trs k)) := by
        show ArgRowU W0 rs (trs k)
        have h1 := HS.out.all
        have h2 := congrArg List.length h1
        have h3 := HS.out.cnt
        have h4 := HM.out
        simp [trs_len] at h2
        have h5 : trs G = [] := List.length_eq_zero_iff.1 (by rw [trs_len]; omega)
        rw [h5, List.append_nil] at h1
        rw [← h1]; exact HS.out.arg
      go_wp2_with fail
      go_ret
      exact ⟨pt, _, ct, rs, rfl, HM.out, HS.out.row, HF.out, HS.out.low⟩
theorem ArgRowU.len {w : World} : ∀ {rs : List (Option Addr × Nat × Nat)} {ts : List Tr}, ArgRowU w rs ts → rs.length = ts.length
  | [], [], _ => rfl
  | _ :: _, _ :: _, h => by simp [ArgRowU.len h.2.2.2.2]
  | [], _ :: _, h => h.elim
  | _ :: _, [], h => h.elim
theorem ArgRowU.below {w w' : World} (hb : Below w.heap.size w w') : ∀ {rs : List (Option Addr × Nat × Nat)} {ts : List Tr}, ArgRowU w rs ts → ArgRowU w' rs ts
  | [], [], _ => trivial
  | _ :: _, _ :: _, h => ⟨h.1, h.2.1, h.2.2.1, h.2.2.2.1.below hb, ArgRowU.below hb h.2.2.2.2⟩
  | [], _ :: _, h => h.elim
  | _ :: _, [], h => h.elim
end Go.Proofs.YtjhbplgppakhoaaGreatDoor

namespace Go.Proofs.YtjhbplgppakhoaaGreatDoor
open Go Go.RowKit
set_option linter.unusedVariables false
def TW (W0 : World) (q : Option Addr) (n c : Nat) (t : Tr) : Prop := n = (itC t).length ∧ n ≤ c ∧ c ≤ 9223372036854775807 ∧ CIn W0 q (itC t)
theorem TW.below {W0 W : World} {q : Option Addr} {n c : Nat} {t : Tr} (h : TW W0 q n c t) (hb : Below W0.heap.size W0 W) : TW W q n c t := ⟨h.1, h.2.1, h.2.2.1, h.2.2.2.below hb⟩
theorem fIdx_rng (s : List UInt8) (pf : Bool) : ∀ (T : List Cel) (k : Nat), fIdx s pf k T = -1 ∨ ∃ j, j < T.length ∧ fIdx s pf k T = ((k + j : Nat) : Int)
  | [], k => .inl rfl
  | x :: r, k => by
    unfold fIdx
    split
    · exact .inr ⟨0, by simp, by simp⟩
    · rcases fIdx_rng s pf r (k + 1) with h | ⟨j, h1, h2⟩
      · exact .inl h
      · exact .inr ⟨j + 1, by simpa using h1, by rw [h2]; congr 1; omega⟩
theorem find_rng (T : List Cel) (xs : List Int) (pf : Bool) : findW T xs pf = -1 ∨ ∃ j, j < T.length ∧ findW T xs pf = (j : Int) := by
  rcases fIdx_rng (strOfNums xs).toList pf T 0 with h | ⟨j, h1, h2⟩
  · exact .inl h
  · exact .inr ⟨j, h1, by rw [Nat.zero_add] at h2; exact h2⟩
theorem findW_any {w0 : World} {ob : Nat} {po : Option Addr} {co : Nat} {T : List Cel} {pn : Option Addr} {cn : Nat} {N : List (List Int)} {q : Bool} (hE : WEnv w0 ob po co T pn cn N q) (tp : Option Addr) (l tc : Nat) (xs : List Int) (pf : Bool) (b o : Nat) (hl : l = xs.length) (hx : BIn w0 tp xs) (hc : w0.cell? ⟨b, o, none⟩ = some (.slice tp l tc)) (W : World) (hW : Below w0.heap.size w0 W) :
    Calls Tryz.prog 121 #[.slice po T.length co, .slice tp l tc, .bool pf] W fun e w' => e = .returned (.int .i64 (findW T xs pf)) ∧ w'.cell? ⟨ob, 0, none⟩ = some (.slice po T.length co) ∧ w'.cell? ⟨b, o, none⟩ = some (.slice tp l tc) ∧ Hid (Below w0.heap.size w0 w') := by
  refine (l3find_any po co T tp l tc xs pf W hl (by have := hE.olen; omega) (hE.ops.below hW) (hx.below hW)).mono ?_
  rintro e w' ⟨rfl, m, rfl⟩
  have hb : Below w0.heap.size w0 (W.drewN m) := hW.trans ⟨by simp [World.drewN], by simp [World.drewN], by simp [World.drewN], by simp [World.drewN], fun k _ => by simp [World.drewN]⟩
  exact ⟨rfl, (hb.cell (World.block_lt_of_cell? _ _ hE.c0)).trans hE.c0, (hb.cell (World.block_lt_of_cell? _ _ hc)).trans hc, hb⟩
end Go.Proofs.YtjhbplgppakhoaaGreatDoor

