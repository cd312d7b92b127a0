/- Texts of TreeI, CaA, NextG, EvA, EvP. Own work of the verifier. -/
import Derived.Test.YtfgaenggbbgboaaGreatDoorUqau
import Derived.Test.YtfgaenggbbgboaaGreatDoorUqai
import Derived.Test.YtfgaenggbbgboaaGreatDoorUqad
import Derived.Test.YtfgaenggbbgboaaGreatDoorUqaw
import Derived.Test.YtfgaenggbbgboaaGreatDoorUqan
import Derived.Test.YtfgaenggbbgboaaGreatDoorUqae
import Derived.Test.YtfgaenggbbgboaaGreatDoorUqaa
namespace Go.Proofs.YtfgaenggbbgboaaGreatDoor
open Go Go.RowKit
set_option linter.unusedVariables false
def TI (w : World) (q : Option Addr) (n c : Nat) (t : Tr) : Prop := n = t.2.cells.length + 1 ∧ n ≤ c ∧ c ≤ 9223372036854775807 ∧ CIn w q (t.1 :: t.2.cells)
theorem TI.below {w w' : World} {q : Option Addr} {n c : Nat} {t : Tr} (h : TI w q n c t) (hb : Below w.heap.size w w') : TI w' q n c t := ⟨h.1, h.2.1, h.2.2.1, h.2.2.2.below hb⟩
theorem TI.head {w : World} {q : Option Addr} {n c : Nat} {t : Tr} (h : TI w q n c t) : ∃ b o q1 qc, q = some ⟨b, o, none⟩ ∧ w.cell? ⟨b, o, none⟩ = some (.int .i64 t.1.1) ∧ w.cell? ⟨b, o + 1, none⟩ = some (.int .i64 t.1.2.1) ∧ w.cell? ⟨b, o + 2, none⟩ = some (.slice q1 t.1.2.2.length qc) ∧ BIn w q1 t.1.2.2 := by
  obtain ⟨b, o, rfl, hc⟩ := h.2.2.2 (by simp)
  obtain ⟨q1, qc, d0, d1, d2, d3⟩ := hc 0 (by simp)
  simp only [Nat.zero_mul, Nat.add_zero, List.getD_cons_zero] at d0 d1 d2 d3
  exact ⟨b, o, q1, qc, rfl, d0, d1, d2, d3⟩
theorem isT_any {w : World} {q : Option Addr} {n c : Nat} {t : Tr} (h : TI w q n c t) (nm : ByteArray) (ar : Int) :
    Calls Tryz.prog 37 #[.slice q n c, .string nm, .int .i64 ar] w fun e w' => e = .returned (.bool (isB (strOfNums t.1.2.2) nm t.1.1 t.1.2.1 ar)) ∧ w' = w := by
  obtain ⟨b, o, q1, qc, rfl, d0, d1, d2, d3⟩ := h.head
  exact l2isG_any (strOfNums t.1.2.2) nm t.1.1 t.1.2.1 ar b o q1 _ qc n c w (by have := h.1; omega) d0 d1 d2 (conv_str d3 _ qc rfl 9 Tryz.underlying9)
theorem isB_pos {c : Cel} (hb : Byte c.2.2) (l : List UInt8) (a : Int) (ha : 0 < a) : isB (strOfNums c.2.2) ⟨l.toArray⟩ c.1 c.2.1 a = decide (c = (3, a, l.map fun u => (u.toNat : Int))) := by
  unfold isB
  have e1 : (ByteArray.mk l.toArray).toList = l := by rw [ByteArray.toList_eq]
  have e2 : (a == 0) = false := by rw [beq_eq_false_iff_ne]; omega
  rw [e1, e2, Bool.eq_iff_iff]
  simp only [Bool.false_eq_true, if_false, Bool.and_eq_true, beq_iff_eq, decide_eq_true_eq]
  constructor
  · rintro ⟨h1, h2, h3⟩
    exact Prod.ext h2 (Prod.ext h3 ((str_eq hb l).1 h1))
  · intro h
    refine ⟨(str_eq hb l).2 (by rw [h]), by rw [h], by rw [h]⟩
end Go.Proofs.YtfgaenggbbgboaaGreatDoor

namespace Go.Proofs.YtfgaenggbbgboaaGreatDoor
open Go Go.RowKit
set_option linter.unusedVariables false
theorem callable_any {w : World} {q : Option Addr} {n c : Nat} {t : Tr} (h : TI w q n c t) (hn : n ≤ 1000000) :
    Calls Tryz.prog 40 #[.slice q n c] w fun e w' => e = .returned (.bool (calC t.1)) ∧ w' = w := by
  obtain ⟨b, o, q1, qc, rfl, d0, d1, d2, d3⟩ := h.head
  have hn0 : 0 < n := by have := h.1; omega
  have HE : Hid (calC t.1 = ((t.1.1 == 2) || (t.1.1 == 3))) := by
    show _ = _
    unfold calC
    rw [Bool.eq_iff_iff]
    simp
  rw [HE.out]
  generalize t.1.1 = k at d0 ⊢
  clear h d1 d2 d3 HE
  cases h2 : (k == 2) with
  | true =>
    go_enter Tryz.func40, Tryz.ntmps40
    go_wp2_with fail
    go_ret
    exact ⟨rfl, rfl⟩
  | false =>
    go_enter Tryz.func40, Tryz.ntmps40
    go_wp2_with fail
    go_ret
    exact ⟨by simp, rfl⟩
theorem arity_any {w : World} {q : Option Addr} {n c : Nat} {t : Tr} (h : TI w q n c t) (hn : n ≤ 1000000) :
    Calls Tryz.prog 41 #[.slice q n c] w fun e w' => e = .returned (.int .i64 (fA t.1)) ∧ w' = w := by
  obtain ⟨b, o, q1, qc, rfl, d0, d1, d2, d3⟩ := h.head
  have hn0 : 0 < n := by have := h.1; omega
  by_cases h3 : t.1.1 = 3
  · have e : fA t.1 = t.1.2.1 := by unfold fA; rw [if_pos h3]
    rw [e]
    rw [h3] at d0
    generalize t.1.2.1 = m at d1 ⊢
    clear h d2 d3 h3 e
    go_enter Tryz.func41, Tryz.ntmps41
    go_wp2_with fail
    go_ret
    exact ⟨rfl, rfl⟩
  · have e : fA t.1 = 0 := by unfold fA; rw [if_neg h3]
    rw [e]
    generalize t.1.1 = k at d0 h3
    clear h d1 d2 d3 e
    go_enter Tryz.func41, Tryz.ntmps41
    go_wp2_with fail
    go_ret
    exact ⟨rfl, rfl⟩
end Go.Proofs.YtfgaenggbbgboaaGreatDoor

namespace Go.Proofs.YtfgaenggbbgboaaGreatDoor
open Go Go.RowKit
set_option linter.unusedVariables false
theorem CIn.part {w : World} {b o : Nat} {cs ds : List Cel} (h : ∀ i, i < cs.length → CAt w b (o + i * 3) (cs.getD i Cel.none)) (j : Nat) (hd : ds <+: cs.drop j) : CIn w (some ⟨b, o + j * 3, none⟩) ds := fun _ => by
  refine ⟨b, o + j * 3, rfl, fun i hi => ?_⟩
  obtain ⟨r, hr⟩ := hd
  have hl : j + i < cs.length := by
    have := congrArg List.length hr
    simp at this; omega
  have e : cs.getD (j + i) Cel.none = ds.getD i Cel.none := by
    have h1 : (cs.drop j)[i]? = ds[i]? := by rw [← hr, List.getElem?_append_left hi]
    rw [List.getElem?_drop] at h1
    simp only [List.getD, h1]
  have := h (j + i) hl
  rw [e, show o + (j + i) * 3 = o + j * 3 + i * 3 by omega] at this
  exact this
theorem drop_cell {cs : List Cel} {j : Nat} {c : Cel} {r : List Cel} (h : cs.drop j = c :: r) : j < cs.length ∧ cs.getD j Cel.none = c ∧ cs.drop (j + 1) = r := by
  have hl : j < cs.length := by
    rcases Nat.lt_or_ge j cs.length with h' | h'
    · exact h'
    · rw [List.drop_eq_nil_of_le h'] at h; cases h
  rw [List.drop_eq_getElem_cons hl] at h
  injection h with h1 h2
  exact ⟨hl, by simp [List.getD, hl, h1], h2⟩
set_option maxRecDepth 100000 in
theorem l2next_any (p : Option Addr) (n cap : Nat) (cs : List Cel) (at_ : Nat) (c : Cel) (k : Fo) (tail : List Cel) (w : World) (hn : n = cs.length) (hm : n ≤ 1000000) (hd : cs.drop at_ = c :: (k.cells ++ tail)) (hok : (Fo.node c k .nil).ok) (hin : CIn w p cs) :
    Calls Tryz.prog 61 #[.slice p n cap, .int .i64 at_] w fun e w' => e = .returned (.int .i64 ((at_ + 1 + k.cells.length : Nat) : Int)) ∧ w' = w := by
  obtain ⟨E, eE⟩ : ∃ E, E = at_ + 1 + k.cells.length := ⟨_, rfl⟩
  have HE : Hid (E = at_ + 1 + k.cells.length) := eE
  have hEn : E ≤ n := by
    have := congrArg List.length hd
    simp at this; omega
  have HD : Hid (cs.drop at_ = (Fo.node c k .nil).cells ++ tail ∧ n = cs.length) := ⟨by simp [Fo.cells, hd], hn⟩
  have HOK : Hid (Fo.node c k .nil).ok := hok
  have HIN : Hid (CIn w p cs) := hin
  have hA : at_ ≤ E := by omega
  rw [← eE]
  clear hn hd hok hin eE
  go_enter Tryz.func61, Tryz.ntmps61
  go_wp2
  go_loop [1, 5] (fun a l => ∃ (j : Nat) (q : Nat), j ≤ E ∧ a = .int .i64 j ∧ l = .int .i64 q ∧ q ≤ 1000000 ∧ Hid (∃ F : Fo, F.ok ∧ F.count = q ∧ cs.drop j = F.cells ++ tail ∧ j + F.cells.length = E)) (fun a _ => E - (intOf a).toNat)
  case atStart => exact ⟨at_, 1, hA, rfl, rfl, by decide, .node c k .nil, HOK.out, rfl, HD.out.1, by rw [HE.out]; simp [Fo.cells]; omega⟩
  case round =>
    obtain ⟨j, q, hj, rfl, rfl, hq, HF⟩ := hrel
    by_cases h0 : 0 < q
    · obtain ⟨F, hFok, hFc, hFd, hFl⟩ := HF.out
      cases F with
      | nil => simp [Fo.count] at hFc; omega
      | node c1 k1 r1 =>
        simp only [Fo.cells, List.cons_append, List.append_assoc] at hFd
        obtain ⟨hjl, hg, hd1⟩ := drop_cell hFd
        have hjn : j < n := by rw [HD.out.2]; exact hjl
        obtain ⟨b, o, rfl, hcs⟩ := HIN.out (by omega)
        obtain ⟨p0, q0, d0, d1, _, _⟩ := hcs j hjl
        rw [hg] at d0 d1
        have hjE : j + 1 ≤ E := by rw [← hFl]; simp only [Fo.cells, List.length_cons, List.length_append]; omega
        have hcB := hFok.1
        by_cases h3 : c1.1 = 3
        · have hc1 := hFok.2.2.1 h3
          rw [h3] at hcB
          have hb20 := cellB_comp hcB
          have HN : Hid (∃ F : Fo, F.ok ∧ F.count = q + k1.count - 1 ∧ cs.drop (j + 1) = F.cells ++ tail ∧ j + 1 + F.cells.length = E) := by
            refine ⟨k1.cat r1, (Fo.ok_cat _ _).2 ⟨hFok.2.2.2.2.1, hFok.2.2.2.2.2⟩, ?_, ?_, ?_⟩
            · rw [Fo.count_cat]; simp [Fo.count] at hFc; omega
            · rw [Fo.cells_cat, hd1, List.append_assoc]
            · rw [Fo.cells_cat, ← hFl]; simp [Fo.cells]; omega
          rw [h3] at d0
          rw [hc1] at d1
          have hk20 : k1.count ≤ 20 := by omega
          have hq2 : q + k1.count - 1 ≤ 1000000 := by
            obtain ⟨F, _, hc, _, hl⟩ := HN.out
            have := Fo.count_le F
            omega
          obtain ⟨m, em⟩ : ∃ m, m = k1.count := ⟨_, rfl⟩
          rw [← em] at d1 hk20 HN hq2
          have hm1 : 1 ≤ m := by omega
          clear hFok hFc hFd hFl hcs hcB h3 hc1 hb20 hd1 hg em HF
          go_wp2
          go_round
          case rel => exact ⟨j + 1, q + m - 1, hjE, by go_num, by go_num, hq2, HN⟩
          case measure => simp [intOf]; omega
        · have hk1 : k1 = .nil := hFok.2.2.2.1 h3
          have h3' : (c1.1 == 3) = false := by simpa using h3
          have HN : Hid (∃ F : Fo, F.ok ∧ F.count = q - 1 ∧ cs.drop (j + 1) = F.cells ++ tail ∧ j + 1 + F.cells.length = E) := by
            refine ⟨r1, hFok.2.2.2.2.2, ?_, ?_, ?_⟩
            · simp [Fo.count] at hFc; omega
            · rw [hd1, hk1]; rfl
            · rw [← hFl, hk1]; simp [Fo.cells]; omega
          obtain ⟨kd, ekd⟩ : ∃ kd, kd = c1.1 := ⟨_, rfl⟩
          rw [← ekd] at d0 h3'
          clear hFok hFc hFd hFl hcs hcB h3 hd1 hg HF hk1 ekd
          go_wp2
          go_round
          case rel => exact ⟨j + 1, q - 1, hjE, by go_num, by go_num, by omega, HN⟩
          case measure => simp [intOf]; omega
    · obtain rfl : q = 0 := by omega
      have HJ : Hid (j = E) := by
        obtain ⟨F, _, hc, _, hl⟩ := HF.out
        cases F with
        | nil => simpa [Fo.cells, Hid] using hl
        | node a b d => simp [Fo.count] at hc
      clear HF
      go_wp2
      go_ret
      exact ⟨ret_int (by rw [HJ.out]), rfl⟩
def slV (r : Option Addr × Nat × Nat) : Value := .slice r.1 r.2.1 r.2.2
theorem app_sl (w : World) {ops : Array Oper} {rest : List Oper} {o : Oper} {a : Act} {Q : Exit → Act → World → Prop} (hgd : o.guard = none) (s x : Operand)
    (ho : o.op = .call { callee := .builtin .append, args := #[s, x], argTypes := #[29, 29] }) (B : Nat) (p : Option Addr) (n c : Nat) (rs : List (Option Addr × Nat × Nat)) (q : Option Addr) (m c' : Nat)
    (hs : a.eval s = .slice p n c) (hown : w.ownsRow B 43 1 (.slice p n c) n (rs.map slV)) (hx : a.eval x = .slice (some ⟨w.heap.size, 0, none⟩) 1 1)
    (hlen : n + 1 ≤ 1000000) (hbase : B ≤ w.heap.size)
    (h : ∀ g cap w', w'.ownsRow B 43 1 (.slice (some ⟨g, 0, none⟩) (n + 1) cap) (n + 1) ((rs ++ [(q, m, c')]).map slV) → (w.alloc (.cells #[.slice q m c'] 43)).grownBy w' (Value.ownBlock (.slice p n c)) → wpList Tryz.prog ops Q rest (a.put o.dst (.slice (some ⟨g, 0, none⟩) (n + 1) cap)) w') : wpList Tryz.prog ops Q (o :: rest) a (w.alloc (.cells #[.slice q m c'] 43)) := by
  obtain ⟨i0, hi, hz0, hz1, hz2⟩ := info_parts infoCells
  refine wpList_append_lies _ hgd s x 29 ho B 43 i0 (.slice none 0 0) 1 24 Tryz.underlying29 hi hz0 hz1 hz2 rfl (by decide) (.slice p n c) n (rs.map slV) hs (hown.alloc _) ⟨w.heap.size, 0, none⟩ 1 1 [.slice q m c'] hx rfl (cell_one_new _ _ _) (by simp [Value.oneCell']) (by decide) (by unfold maxLen; omega) (by omega) (by simp; omega) _ rfl ?_
  intro g cap w' hown' hgrow hat hlt
  exact h g cap w' (by rw [List.map_append]; exact hown') hgrow
end Go.Proofs.YtfgaenggbbgboaaGreatDoor

namespace Go.Proofs.YtfgaenggbbgboaaGreatDoor
open Go Go.RowKit
set_option linter.unusedVariables false
def InB (v : Int) : Prop := -1000000000000000 ≤ v ∧ v ≤ 1000000000000000
instance (v : Int) : Decidable (InB v) := inferInstanceAs (Decidable (_ ∧ _))
end Go.Proofs.YtfgaenggbbgboaaGreatDoor

namespace Go.Proofs.YtfgaenggbbgboaaGreatDoor
open Go Go.RowKit
set_option linter.unusedVariables false
def ones : List (List Int) := [[45], [43], [97, 98, 115], [115, 105, 103, 110], [92]]
end Go.Proofs.YtfgaenggbbgboaaGreatDoor

