/- Texts of WiC, TreeI, ArgU, ItS. Own work of the verifier. -/
import Derived.Test.YtbnmmcegjlmdmaaGreatDoorUqbf
import Derived.Test.YtbnmmcegjlmdmaaGreatDoorUqad
import Derived.Lib.AppendStr
import Derived.Test.YtbnmmcegjlmdmaaGreatDoorUqbd
import Derived.Test.YtbnmmcegjlmdmaaGreatDoorUqaf
import Derived.Test.YtbnmmcegjlmdmaaGreatDoorUqah
import Derived.Test.YtbnmmcegjlmdmaaGreatDoorUqar
namespace Go.Proofs.YtbnmmcegjlmdmaaGreatDoor
open Go Go.RowKit
set_option linter.unusedVariables false
end Go.Proofs.YtbnmmcegjlmdmaaGreatDoor

namespace Go.Proofs.YtbnmmcegjlmdmaaGreatDoor
open Go Go.RowKit
set_option linter.unusedVariables false
def TI (w : World) (q : Option Addr) (n c : Nat) (t : Tr) : Prop := n = t.2.cells.length + 1 ∧ n ≤ c ∧ c ≤ 9223372036854775807 ∧ CIn w q (t.1 :: t.2.cells)
theorem TI.below {w w' : World} {q : Option Addr} {n c : Nat} {t : Tr} (h : TI w q n c t) (hb : Below w.heap.size w w') : TI w' q n c t := ⟨h.1, h.2.1, h.2.2.1, h.2.2.2.below hb⟩
theorem TI.head {w : World} {q : Option Addr} {n c : Nat} {t : Tr} (h : TI w q n c t) : ∃ b o q1 qc, q = some ⟨b, o, none⟩ ∧ w.cell? ⟨b, o, none⟩ = some (.int .i64 t.1.1) ∧ w.cell? ⟨b, o + 1, none⟩ = some (.int .i64 t.1.2.1) ∧ w.cell? ⟨b, o + 2, none⟩ = some (.slice q1 t.1.2.2.length qc) ∧ BIn w q1 t.1.2.2 := by
  obtain ⟨b, o, rfl, hc⟩ := h.2.2.2 (by simp)
  obtain ⟨q1, qc, d0, d1, d2, d3⟩ := hc 0 (by simp)
  simp only [Nat.zero_mul, Nat.add_zero, List.getD_cons_zero] at d0 d1 d2 d3
  exact ⟨b, o, q1, qc, rfl, d0, d1, d2, d3⟩
theorem isT_any {w : World} {q : Option Addr} {n c : Nat} {t : Tr} (h : TI w q n c t) (nm : ByteArray) (ar : Int) :
    Calls Tryz.prog 13 #[.slice q n c, .string nm, .int .i64 ar] w fun e w' => e = .returned (.bool (isB (strOfNums t.1.2.2) nm t.1.1 t.1.2.1 ar)) ∧ w' = w := by
  obtain ⟨b, o, q1, qc, rfl, d0, d1, d2, d3⟩ := h.head
  exact l2isG_any (strOfNums t.1.2.2) nm t.1.1 t.1.2.1 ar b o q1 _ qc n c w (by have := h.1; omega) d0 d1 d2 (conv_str d3 _ qc rfl 9 Tryz.underlying9)
theorem isB_pos {c : Cel} (hb : Byte c.2.2) (l : List UInt8) (a : Int) (ha : 0 < a) : isB (strOfNums c.2.2) ⟨l.toArray⟩ c.1 c.2.1 a = decide (c = (3, a, l.map fun u => (u.toNat : Int))) := by
  unfold isB
  have e1 : (ByteArray.mk l.toArray).toList = l := by rw [ByteArray.toList_eq]
  have e2 : (a == 0) = false := by rw [beq_eq_false_iff_ne]; omega
  rw [e1, e2, Bool.eq_iff_iff]
  simp only [Bool.false_eq_true, if_false, Bool.and_eq_true, beq_iff_eq, decide_eq_true_eq]
  constructor
  · rintro ⟨h1, h2, h3⟩
    exact Prod.ext h2 (Prod.ext h3 ((str_eq hb l).1 h1))
  · intro h
    refine ⟨(str_eq hb l).2 (by rw [h]), by rw [h], by rw [h]⟩
theorem isB_zero {c : Cel} (hb : Byte c.2.2) (hc : cellB c.1 c.2.1 c.2.2.length = true) (l : List UInt8) : isB (strOfNums c.2.2) ⟨l.toArray⟩ c.1 c.2.1 0 = decide (c = (2, 0, l.map fun u => (u.toNat : Int))) := by
  simp only [cellB, decide_eq_true_eq] at hc
  unfold isB
  have e1 : (ByteArray.mk l.toArray).toList = l := by rw [ByteArray.toList_eq]
  rw [e1, Bool.eq_iff_iff]
  simp only [beq_self_eq_true, if_true, Bool.and_eq_true, beq_iff_eq, decide_eq_true_eq]
  constructor
  · rintro ⟨h1, h2⟩
    exact Prod.ext h2 (Prod.ext (by show c.2.1 = 0; omega) ((str_eq hb l).1 h1))
  · intro h
    exact ⟨(str_eq hb l).2 (by rw [h]), by rw [h]⟩
end Go.Proofs.YtbnmmcegjlmdmaaGreatDoor

namespace Go.Proofs.YtbnmmcegjlmdmaaGreatDoor
open Go Go.RowKit
set_option linter.unusedVariables false
set_option linter.unusedSimpArgs false
def ArgRowU (w : World) : List (Option Addr × Nat × Nat) → List Tr → Prop
  | [], [] => True
  | r :: rs, t :: ts => r.2.1 = 1 + t.2.cells.length ∧ r.2.1 ≤ r.2.2 ∧ r.2.2 ≤ 9223372036854775807 ∧ CIn w r.1 (t.1 :: t.2.cells) ∧ ArgRowU w rs ts
  | [], _ :: _ => False
  | _ :: _, [] => False
theorem ArgRowU.snoc {w : World} {r : Option Addr × Nat × Nat} {t : Tr} (h1 : r.2.1 = 1 + t.2.cells.length) (h2 : r.2.1 ≤ r.2.2) (h3 : r.2.2 ≤ 9223372036854775807) (h4 : CIn w r.1 (t.1 :: t.2.cells)) : ∀ {rs : List (Option Addr × Nat × Nat)} {ts : List Tr}, ArgRowU w rs ts → ArgRowU w (rs ++ [r]) (ts ++ [t])
  | [], [], _ => ⟨h1, h2, h3, h4, trivial⟩
  | _ :: _, _ :: _, h => ⟨h.1, h.2.1, h.2.2.1, h.2.2.2.1, ArgRowU.snoc h1 h2 h3 h4 h.2.2.2.2⟩
  | [], _ :: _, h => h.elim
  | _ :: _, [], h => h.elim
structure ArgStU (W0 w wr : World) (cs : List Cel) (k : Fo) (a : Nat) (D : List Tr) (G : Fo) (pt : Option Addr) (nt ct : Nat) (rs : List (Option Addr × Nat × Nat)) : Prop where
  gd : cs.drop a = G.cells
  gok : G.ok
  all : D ++ trs G = trs k
  cnt : nt = D.length
  row : wr.ownsRow w.heap.size 24 1 (.slice pt nt ct) nt (rs.map slV)
  arg : ArgRowU W0 rs D
  low : Below w.heap.size w wr
def ArgsOutU (W0 w : World) (k : Fo) (e : Ending) (w' : World) : Prop := ∃ q m mc rs, e = .returned (.slice q m mc) ∧ m = k.count ∧ w'.ownsRow w.heap.size 24 1 (.slice q m mc) m (rs.map slV) ∧ ArgRowU W0 rs (trs k) ∧ Below w.heap.size w w'
set_option maxRecDepth 100000 in
set_option maxHeartbeats 2000000 in
theorem l2argsU_any (c : Cel) (k : Fo) (p : Option Addr) (n cap : Nat) (W0 w : World) (hW : Below W0.heap.size W0 w) (h3 : c.1 = 3) (hok : (Fo.node c k .nil).ok) (hn : n = (c :: k.cells).length) (hnm : n ≤ 2000) (hcap : n ≤ cap) (hcm : cap ≤ 9223372036854775807) (hin0 : CIn W0 p (c :: k.cells)) :
    Calls Tryz.prog 15 #[.slice p n cap] w (ArgsOutU W0 w k) := by
  have hin := hin0.below hW
  obtain ⟨b, o, rfl, hcs⟩ := hin (by simp)
  obtain ⟨b0, o0, eb0, hcs0⟩ := hin0 (by simp)
  cases eb0
  have HK : Hid (∀ wr, Below w.heap.size w wr → wr.cell? ⟨b, o, none⟩ = some (.int .i64 3) ∧ wr.cell? ⟨b, o + 1, none⟩ = some (.int .i64 k.count)) := fun wr hb => by
    obtain ⟨p0, q0, d0, d1, _, _⟩ := (hcs 0 (by simp)).below hb
    simp only [List.getD_cons_zero, Nat.zero_mul, Nat.add_zero] at d0 d1
    rw [h3] at d0
    rw [hok.2.2.1 h3] at d1
    exact ⟨d0, d1⟩
  obtain ⟨d0, d1⟩ := HK.out w (Below.refl _ _)
  have hb20 : k.count ≤ 20 := by
    have h := hok.1
    rw [h3] at h
    have := cellB_comp h
    have := hok.2.2.1 h3
    omega
  have HST : Hid (ArgStU W0 w w (c :: k.cells) k 1 [] k none 0 0 []) := ⟨rfl, hok.2.2.2.2.1, rfl, rfl, World.ownsRow_nil _ _ _ _, trivial, Below.refl _ _⟩
  have HGL : Hid (1 + k.cells.length = n) := by show _ = _; rw [hn]; simp; omega
  obtain ⟨cs, ecs⟩ : ∃ cs, cs = c :: k.cells := ⟨_, rfl⟩
  rw [← ecs] at hcs hn HST hin hcs0
  have HX : Hid (∀ i, i < cs.length → CAt W0 b (o + i * 3) (cs.getD i Cel.none)) := hcs0
  have HIN : Hid (CIn w (some ⟨b, o, none⟩) cs) := hin
  have HN : Hid (n = cs.length) := hn
  obtain ⟨M, eM⟩ : ∃ M, M = k.count := ⟨_, rfl⟩
  have HM : Hid (M = k.count) := eM
  rw [← eM] at HK d1 hb20
  have hn0 : 0 < n := by have := HGL.out; omega
  have hn00 : ((n : Int) == 0) = false := by rw [beq_eq_false_iff_ne]; omega
  clear hcs hin hn ecs eM h3 hok hcs0 hin0
  go_enter Tryz.func15, Tryz.ntmps15
  go_wp2_with fail
  clear d0 d1
  go_loopw [3, 4, 5] (fun s3 s4 s5 wr => ∃ (a : Nat) (D : List Tr) (G : Fo) (pt : Option Addr) (nt ct : Nat) (rs : List (Option Addr × Nat × Nat)), a ≤ n ∧ nt ≤ M ∧ s3 = .slice pt nt ct ∧ s4 = .int .i64 a ∧ s5 = .int .i64 nt ∧ Hid (a + G.cells.length = n) ∧ Hid (ArgStU W0 w wr cs k a D G pt nt ct rs)) (fun _ _ i _ => M - (intOf i).toNat)
  case atStart => exact ⟨1, [], k, none, 0, 0, [], by omega, Nat.zero_le _, rfl, rfl, rfl, HGL.out, HST.out⟩
  case round =>
    obtain ⟨a, D, G, pt, nt, ct, rs, ha, hnt, rfl, rfl, rfl, HL, HS⟩ := hrel
    obtain ⟨d0, d1⟩ := HK.out wr HS.out.low
    by_cases hlt : nt < M
    · obtain ⟨c1, k1, r1, rfl⟩ : ∃ c k r, G = .node c k r := by
        cases G with
        | nil =>
          have h1 := HS.out.all
          have h2 := congrArg List.length h1
          have h3 := HS.out.cnt
          have h4 := HM.out
          simp [trs, trs_len] at h2
          omega
        | node c k r => exact ⟨c, k, r, rfl⟩
      have hgd : cs.drop a = c1 :: (k1.cells ++ r1.cells) := HS.out.gd
      have HO : Hid (Fo.node c1 k1 r1).ok := HS.out.gok
      have HT : Hid (Fo.node c1 k1 .nil).ok := ⟨HO.out.1, HO.out.2.1, HO.out.2.2.1, HO.out.2.2.2.1, HO.out.2.2.2.2.1, trivial⟩
      have HNX := l2next_any (some ⟨b, o, none⟩) n cap cs a c1 k1 r1.cells wr HN.out (by omega) hgd HT.out (HIN.out.below HS.out.low)
      have HPT : Hid (CIn W0 (some ⟨b, o + a * 3, none⟩) (c1 :: k1.cells)) := CIn.part HX.out a (by rw [hgd]; exact ⟨r1.cells, by simp⟩)
      obtain ⟨L, eL⟩ : ∃ L, L = 1 + k1.cells.length := ⟨_, rfl⟩
      have HEL : Hid (L = 1 + k1.cells.length) := eL
      have hnx : a + 1 + k1.cells.length = a + L := by omega
      have HDR : Hid (cs.drop (a + L) = r1.cells) := by
        show _ = _
        rw [← hnx, show a + 1 + k1.cells.length = (a + 1) + k1.cells.length by omega, ← List.drop_drop, (drop_cell hgd).2.2]; simp
      have hle : a + L ≤ n := by have := HL.out; simp [Fo.cells] at this; omega
      rw [hnx] at HNX
      have HLL : Hid (a + L + r1.cells.length = n) := by show _ = _; have := HL.out; simp [Fo.cells] at this; omega
      have hL1 : 1 ≤ L := by omega
      have hma : (0 : Int) < (cap : Int) - (a : Int) := by omega
      have hL2 : (a : Int) ≤ (a : Int) + (L : Int) := by omega
      have hL3 : (a : Int) + (L : Int) ≤ (n : Int) := by omega
      have hL4 : (a : Int) + (L : Int) ≤ (cap : Int) := by omega
      have hcap1 : ¬ cap = a := by omega
      have hcap2 : ¬ cap - a = 0 := by omega
      have hltI : (nt : Int) < (M : Int) := by omega
      clear hgd eL hnx
      go_wp2_with fail
      refine HNX.mono ?_
      rintro e w3 ⟨rfl, rfl⟩
      clear HNX
      go_wp2_with (at_builtin; refine app_sl _ rfl _ _ rfl w.heap.size pt nt ct rs (some ⟨b, o + a * 3, none⟩) L (cap - a) rfl HS.out.row rfl (by omega) HS.out.low.size ?_; intro g6 cap6 w6 hown6 hg6)
      have hbal := HS.out.low.alloc HS.out.low.size (.cells #[.slice (some ⟨b, o + a * 3, none⟩) L (cap - a)] 24)
      have HS6 : Hid (ArgStU W0 w w6 cs k (a + L) (D ++ [(c1, k1)]) r1 (some ⟨g6, 0, none⟩) (nt + 1) cap6 (rs ++ [(some ⟨b, o + a * 3, none⟩, L, cap - a)])) :=
        ⟨HDR.out, HO.out.2.2.2.2.2, by rw [← HS.out.all]; simp [trs], by rw [HS.out.cnt]; simp, hown6, ArgRowU.snoc HEL.out (by simp only; omega) (by simp only; omega) HPT.out HS.out.arg, hbal.grown hg6 hbal.size (fun k e => (HS.out.row.lt k e).1)⟩
      clear hown6 hg6 hbal
      go_roundw
      case rel => exact ⟨a + L, D ++ [(c1, k1)], r1, some ⟨g6, 0, none⟩, nt + 1, cap6, _, by omega, by omega, rfl, by go_num, by go_num, HLL.out, HS6⟩
      case measure => simp [intOf]; omega
    · obtain rfl : nt = M := by omega
      have HF : Hid (ArgRowU W0 rs (trs k)) := by
        show ArgRowU W0 rs (trs k)
        have h1 := HS.out.all
        have h2 := congrArg List.length h1
        have h3 := HS.out.cnt
        have h4 := HM.out
        simp [trs_len] at h2
        have h5 : trs G = [] := List.length_eq_zero_iff.1 (by rw [trs_len]; omega)
        rw [h5, List.append_nil] at h1
        rw [← h1]; exact HS.out.arg
      go_wp2_with fail
      go_ret
      exact ⟨pt, _, ct, rs, rfl, HM.out, HS.out.row, HF.out, HS.out.low⟩
end Go.Proofs.YtbnmmcegjlmdmaaGreatDoor

namespace Go.Proofs.YtbnmmcegjlmdmaaGreatDoor
open Go Go.RowKit
set_option linter.unusedVariables false
set_option maxRecDepth 100000 in
theorem isDot_any (c : Cel) (rest : List Cel) (p : Option Addr) (n cap : Nat) (w : World) (hb : Byte c.2.2) (hn : n = rest.length + 1) (hin : CIn w p (c :: rest)) :
    Calls Tryz.prog 13 #[.slice p n cap, .string ⟨#[46]⟩, .int .i64 2] w fun e w' => e = .returned (.bool (decide (c = dot))) ∧ w' = w := by
  obtain ⟨b, o, rfl, hcs⟩ := hin (by simp)
  obtain ⟨p0, q0, d0, d1, d2, d3⟩ := hcs 0 (by simp)
  simp only [List.getD_cons_zero, Nat.zero_mul, Nat.add_zero] at d0 d1 d2 d3
  have hcv := conv_str d3 c.2.2.length q0 rfl 9 Tryz.underlying9
  have hstr := str_eq hb [46]
  have hlt : (0 : Int) < n := by omega
  obtain ⟨str, es⟩ : ∃ str, str = strOfNums c.2.2 := ⟨_, rfl⟩
  rw [← es] at hcv hstr
  obtain ⟨m, em⟩ : ∃ m, m = c.2.2.length := ⟨_, rfl⟩
  rw [← em] at hcv d2
  have HEQ : Hid (c = dot ↔ c.1 = 3 ∧ c.2.1 = 2 ∧ c.2.2 = [46]) := by
    obtain ⟨a, b, d⟩ := c
    simp [dot, Hid]
  clear hcs es em hn d3
  by_cases hs : c.2.2 = [46]
  · have hs' : str.toList = [46] := hstr.2 (by rw [hs]; rfl)
    have HS : Hid (c.2.2 = [46]) := hs
    clear hs hstr
    obtain ⟨c0, e0⟩ : ∃ x, x = c.1 := ⟨_, rfl⟩
    obtain ⟨c1, e1⟩ : ∃ x, x = c.2.1 := ⟨_, rfl⟩
    rw [← e0] at d0
    rw [← e1] at d1
    have HE : Hid (c0 = c.1 ∧ c1 = c.2.1) := ⟨e0, e1⟩
    clear e0 e1
    by_cases h3 : c0 = 3
    · subst h3
      go_enter Tryz.func13, Tryz.ntmps13
      go_wp2_with fail
      go_ret
      exact ⟨ret_bool (by
        rw [Bool.eq_iff_iff]
        simp only [decide_eq_true_iff, beq_iff_eq, HEQ.out]
        have := HE.out
        constructor
        · intro h; exact ⟨this.1.symm, by rw [← this.2]; exact h, HS.out⟩
        · intro h; rw [this.2]; exact h.2.1), rfl⟩
    · have h3' : (c0 == 3) = false := by simpa using h3
      have HD : Hid (decide (c = dot) = false) := by
        show _ = _
        rw [decide_eq_false_iff_not, HEQ.out]
        exact fun h => h3 (by rw [HE.out.1]; exact h.1)
      rw [HD.out]
      clear h3
      go_enter Tryz.func13, Tryz.ntmps13
      go_wp2_with fail
      go_ret
      exact ⟨rfl, rfl⟩
  · have hs' : (str.toList == [46]) = false := by rw [beq_eq_false_iff_ne]; exact fun h => hs (by have := hstr.1 h; simpa using this)
    have HD : Hid (decide (c = dot) = false) := by
      show _ = _
      rw [decide_eq_false_iff_not, HEQ.out]
      exact fun h => hs h.2.2
    rw [HD.out]
    clear hs hstr
    go_enter Tryz.func13, Tryz.ntmps13
    go_wp2_with fail
    go_ret
    exact ⟨rfl, rfl⟩
theorem next_any (cs : List Cel) (p : Option Addr) (n cap : Nat) (i : Nat) (c : Cel) (k : Fo) (rest : List Cel) (w : World) (hn : n = cs.length) (hl : n ≤ 2000) (hok : (Fo.node c k .nil).ok) (hd : cs.drop i = (c :: k.cells) ++ rest) (hin : CIn w p cs) :
    Calls Tryz.prog 33 #[.slice p n cap, .int .i64 i] w fun e w' => e = .returned (.int .i64 ((i + 1 + k.cells.length : Nat) : Int)) ∧ w' = w := by
  have HI : Hid (CIn w p cs) := hin
  have HN : Hid (n = cs.length) := hn
  obtain ⟨tot, et⟩ : ∃ tot, tot = i + 1 + k.cells.length := ⟨_, rfl⟩
  have htot : tot ≤ n := by
    have := congrArg List.length hd
    simp at this
    omega
  have HST : Hid (cs.drop i = (Fo.node c k .nil).cells ++ rest ∧ i + (Fo.node c k .nil).cells.length = tot ∧ (Fo.node c k .nil).ok) := ⟨by rw [hd]; simp [Fo.cells], by simp [Fo.cells]; omega, hok⟩
  rw [← et]
  have hit : i ≤ tot := by omega
  clear hin hn hd hok et
  go_enter Tryz.func33, Tryz.ntmps33
  go_wp2_with fail
  go_loop [1, 5] (fun a s => ∃ (R : Fo) (j m : Nat), j ≤ tot ∧ m ≤ 2000 ∧ a = .int .i64 j ∧ s = .int .i64 m ∧ Hid (cs.drop j = R.cells ++ rest ∧ j + R.cells.length = tot ∧ R.ok ∧ m = R.count)) (fun a _ => tot - (intOf a).toNat)
  case atStart => exact ⟨.node c k .nil, i, 1, hit, by decide, rfl, rfl, HST.out.1, HST.out.2.1, HST.out.2.2, rfl⟩
  case round =>
    obtain ⟨R, j, m, hj, hm, rfl, rfl, HR⟩ := hrel
    cases R with
    | nil =>
      have hm0 : m = 0 := HR.out.2.2.2
      have HJ : Hid (j = tot) := by show _ = _; have := HR.out.2.1; simpa [Fo.cells] using this
      subst hm0
      go_wp2_with fail
      go_ret
      exact ⟨ret_int (by rw [HJ.out]), rfl⟩
    | node c' k' r' =>
      have hmm : m = r'.count + 1 := HR.out.2.2.2
      obtain ⟨hd, hjt, hok', _⟩ := HR.out
      have hjl : j < cs.length := by
        have := congrArg List.length hd
        simp [Fo.cells] at this
        omega
      have hcj : cs.getD j Cel.none = c' := by
        have h1 := drop_at cs j hjl
        rw [hd] at h1
        simp only [Fo.cells, List.cons_append] at h1
        exact (List.cons.inj h1).1.symm
      have hdn : cs.drop (j + 1) = (k'.cat r').cells ++ rest := by
        have h1 := drop_at cs j hjl
        rw [hd] at h1
        simp only [Fo.cells, List.cons_append] at h1
        rw [← (List.cons.inj h1).2, Fo.cells_cat]
      obtain ⟨b, o, rfl, hcs⟩ := HI.out (by omega)
      obtain ⟨p0, q0, d0, d1, _, _⟩ := hcs j hjl
      rw [hcj] at d0 d1
      have hmp : (0 : Int) < m := by omega
      have hjn : (j : Int) < n := by rw [HN.out]; omega
      have HNEXT : Hid (cs.drop (j + 1) = (k'.cat r').cells ++ rest ∧ j + 1 + (k'.cat r').cells.length = tot ∧ (k'.cat r').ok ∧ (k'.cat r').count = k'.count + r'.count) := ⟨hdn, by rw [Fo.cells_cat]; simp [Fo.cells] at hjt; simp; omega, (Fo.ok_cat _ _).2 ⟨hok'.2.2.2.2.1, hok'.2.2.2.2.2⟩, Fo.count_cat _ _⟩
      have hcnt : k'.count + r'.count ≤ 2000 := by
        have := Fo.count_le (k'.cat r')
        have h2 := HNEXT.out.2.1
        rw [Fo.count_cat] at this
        omega
      have hjt2 : j + 1 ≤ tot := by have := HNEXT.out.2.1; omega
      have HMM : Hid (m = r'.count + 1) := hmm
      obtain ⟨c0, e0⟩ : ∃ x, x = c'.1 := ⟨_, rfl⟩
      rw [← e0] at d0
      by_cases h3 : c0 = 3
      · subst h3
        have hcn := hok'.2.2.1 e0.symm
        rw [hcn] at d1
        have HK : Hid (k'.count ≤ 2000) := by show _ ≤ _; omega
        have hk2 : k'.count ≤ 2000 := by omega
        obtain ⟨kc, ekc⟩ : ∃ kc, kc = k'.count := ⟨_, rfl⟩
        rw [← ekc] at d1 hk2
        have HKC : Hid (kc = k'.count) := ekc
        clear hcs hcj hdn hd hjt hok' hcn e0 ekc hmm HI HR
        go_wp2_with fail
        go_round
        case rel => exact ⟨k'.cat r', j + 1, kc + r'.count, hjt2, by have := HKC.out; omega, by go_num, by have := HMM.out; congr 1; omega, HNEXT.out.1, HNEXT.out.2.1, HNEXT.out.2.2.1, by rw [HNEXT.out.2.2.2, HKC.out]⟩
        case measure => simp [intOf]; omega
      · have h3' : (c0 == 3) = false := by simpa using h3
        have hk' : k' = .nil := hok'.2.2.2.1 (by rw [← e0]; exact h3)
        subst hk'
        clear hcs hcj hdn hd hjt hok' e0 hmm HI HR h3
        go_wp2_with fail
        go_round
        case rel => exact ⟨Fo.nil.cat r', j + 1, r'.count, hjt2, by simp [Fo.count] at hcnt; omega, by go_num, by have := HMM.out; congr 1; omega, HNEXT.out.1, HNEXT.out.2.1, HNEXT.out.2.2.1, rfl⟩
        case measure => simp [intOf]; omega
theorem CIn.partI {w : World} {b o : Nat} {cs a m r : List Cel} (h : CIn w (some ⟨b, o, none⟩) cs) (e : cs = a ++ (m ++ r)) : CIn w (some ⟨b, o + a.length * 3, none⟩) m := fun hm => by
  obtain ⟨b', o', e', hc⟩ := h (by rw [e]; simp; omega)
  cases e'
  refine ⟨b, o + a.length * 3, rfl, fun i hi => ?_⟩
  have := hc (a.length + i) (by rw [e]; simp; omega)
  rw [show o + (a.length + i) * 3 = o + a.length * 3 + i * 3 by omega] at this
  have e2 : cs.getD (a.length + i) Cel.none = m.getD i Cel.none := by
    rw [e, List.getD, List.getElem?_append_right (by omega), show a.length + i - a.length = i by omega, List.getElem?_append_left hi, List.getD]
  rwa [e2] at this
def ItV (w : World) (its : List (Cel × Fo)) (us : List Value) : Prop := us.length = its.length ∧ ∀ i (h : i < its.length), ∃ q c, us[i]? = some (.slice q (itC its[i]).length c) ∧ CIn w q (itC its[i])
theorem ItV.snoc {w : World} {its : List (Cel × Fo)} {us : List Value} (h : ItV w its us) (x : Cel × Fo) (q : Option Addr) (c : Nat) (hq : CIn w q (itC x)) : ItV w (its ++ [x]) (us ++ [.slice q (itC x).length c]) := by
  refine ⟨by simp [h.1], fun i hi => ?_⟩
  by_cases e : i < its.length
  · obtain ⟨q', c', h1, h2⟩ := h.2 i e
    refine ⟨q', c', ?_, ?_⟩
    · rw [List.getElem?_append_left (by rw [h.1]; exact e), h1, List.getElem_append_left e]
    · rw [List.getElem_append_left e]; exact h2
  · have e' : i = its.length := by simp at hi; omega
    subst e'
    refine ⟨q, c, ?_, ?_⟩
    · rw [List.getElem?_append_right (by rw [h.1]; exact Nat.le_refl _), h.1]; simp
    · simpa using hq
theorem one_slice (q : Option Addr) (m c : Nat) : ∀ u ∈ [Value.slice q m c], u.oneCell' = true := fun u hu => by simp at hu; rw [hu]; rfl
end Go.Proofs.YtbnmmcegjlmdmaaGreatDoor

