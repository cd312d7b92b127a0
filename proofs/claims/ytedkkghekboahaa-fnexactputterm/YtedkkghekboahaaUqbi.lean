/- Texts of NextG, ArgU, PtK0. Own work of the verifier. -/
import Derived.Test.YtedkkghekboahaaUqap
import Derived.Test.YtedkkghekboahaaUqbh
import Derived.Test.YtedkkghekboahaaUqao
namespace Go.Proofs.Ytedkkghekboahaa
open Go Go.RowKit
set_option linter.unusedVariables false

theorem CIn.part {w : World} {b o : Nat} {cs ds : List Cel} (h : ∀ i, i < cs.length → CAt w b (o + i * 3) (cs.getD i Cel.none)) (j : Nat) (hd : ds <+: cs.drop j) : CIn w (some ⟨b, o + j * 3, none⟩) ds := fun _ => by
  refine ⟨b, o + j * 3, rfl, fun i hi => ?_⟩
  obtain ⟨r, hr⟩ := hd
  have hl : j + i < cs.length := by
    have := congrArg List.length hr
    simp at this; omega
  have e : cs.getD (j + i) Cel.none = ds.getD i Cel.none := by
    have h1 : (cs.drop j)[i]? = ds[i]? := by rw [← hr, List.getElem?_append_left hi]
    rw [List.getElem?_drop] at h1
    simp only [List.getD, h1]
  have := h (j + i) hl
  rw [e, show o + (j + i) * 3 = o + j * 3 + i * 3 by omega] at this
  exact this
/-- The k-th cell of what a forest's cells begin with. -/
theorem drop_cell {cs : List Cel} {j : Nat} {c : Cel} {r : List Cel} (h : cs.drop j = c :: r) : j < cs.length ∧ cs.getD j Cel.none = c ∧ cs.drop (j + 1) = r := by
  have hl : j < cs.length := by
    rcases Nat.lt_or_ge j cs.length with h' | h'
    · exact h'
    · rw [List.drop_eq_nil_of_le h'] at h; cases h
  rw [List.drop_eq_getElem_cons hl] at h
  injection h with h1 h2
  exact ⟨hl, by simp [List.getD, hl, h1], h2⟩

set_option maxRecDepth 100000 in
theorem l2next_any (p : Option Addr) (n cap : Nat) (cs : List Cel) (at_ : Nat) (c : Cel) (k : Fo) (tail : List Cel) (w : World) (hn : n = cs.length) (hm : n ≤ 1000000) (hd : cs.drop at_ = c :: (k.cells ++ tail)) (hok : (Fo.node c k .nil).ok) (hin : CIn w p cs) :
    Calls Try.prog 117 #[.slice p n cap, .int .i64 at_] w fun e w' => e = .returned (.int .i64 ((at_ + 1 + k.cells.length : Nat) : Int)) ∧ w' = w := by
  obtain ⟨E, eE⟩ : ∃ E, E = at_ + 1 + k.cells.length := ⟨_, rfl⟩
  have HE : Hid (E = at_ + 1 + k.cells.length) := eE
  have hEn : E ≤ n := by
    have := congrArg List.length hd
    simp at this; omega
  have HD : Hid (cs.drop at_ = (Fo.node c k .nil).cells ++ tail ∧ n = cs.length) := ⟨by simp [Fo.cells, hd], hn⟩
  have HOK : Hid (Fo.node c k .nil).ok := hok
  have HIN : Hid (CIn w p cs) := hin
  have hA : at_ ≤ E := by omega
  rw [← eE]
  clear hn hd hok hin eE
  go_enter Try.func117, Try.ntmps117
  go_wp2
  go_loop [1, 5] (fun a l => ∃ (j : Nat) (q : Nat), j ≤ E ∧ a = .int .i64 j ∧ l = .int .i64 q ∧ q ≤ 1000000 ∧ Hid (∃ F : Fo, F.ok ∧ F.count = q ∧ cs.drop j = F.cells ++ tail ∧ j + F.cells.length = E)) (fun a _ => E - (intOf a).toNat)
  case atStart => exact ⟨at_, 1, hA, rfl, rfl, by decide, .node c k .nil, HOK.out, rfl, HD.out.1, by rw [HE.out]; simp [Fo.cells]; omega⟩
  case round =>
    obtain ⟨j, q, hj, rfl, rfl, hq, HF⟩ := hrel
    by_cases h0 : 0 < q
    · obtain ⟨F, hFok, hFc, hFd, hFl⟩ := HF.out
      cases F with
      | nil => simp [Fo.count] at hFc; omega
      | node c1 k1 r1 =>
        simp only [Fo.cells, List.cons_append, List.append_assoc] at hFd
        obtain ⟨hjl, hg, hd1⟩ := drop_cell hFd
        have hjn : j < n := by rw [HD.out.2]; exact hjl
        obtain ⟨b, o, rfl, hcs⟩ := HIN.out (by omega)
        obtain ⟨p0, q0, d0, d1, _, _⟩ := hcs j hjl
        rw [hg] at d0 d1
        have hjE : j + 1 ≤ E := by rw [← hFl]; simp only [Fo.cells, List.length_cons, List.length_append]; omega
        have hcB := hFok.1
        by_cases h3 : c1.1 = 3
        · have hc1 := hFok.2.2.1 h3
          rw [h3] at hcB
          have hb20 := cellB_comp hcB
          have HN : Hid (∃ F : Fo, F.ok ∧ F.count = q + k1.count - 1 ∧ cs.drop (j + 1) = F.cells ++ tail ∧ j + 1 + F.cells.length = E) := by
            refine ⟨k1.cat r1, (Fo.ok_cat _ _).2 ⟨hFok.2.2.2.2.1, hFok.2.2.2.2.2⟩, ?_, ?_, ?_⟩
            · rw [Fo.count_cat]; simp [Fo.count] at hFc; omega
            · rw [Fo.cells_cat, hd1, List.append_assoc]
            · rw [Fo.cells_cat, ← hFl]; simp [Fo.cells]; omega
          rw [h3] at d0
          rw [hc1] at d1
          have hk20 : k1.count ≤ 20 := by omega
          have hq2 : q + k1.count - 1 ≤ 1000000 := by
            obtain ⟨F, _, hc, _, hl⟩ := HN.out
            have := Fo.count_le F
            omega
          obtain ⟨m, em⟩ : ∃ m, m = k1.count := ⟨_, rfl⟩
          rw [← em] at d1 hk20 HN hq2
          have hm1 : 1 ≤ m := by omega
          clear hFok hFc hFd hFl hcs hcB h3 hc1 hb20 hd1 hg em HF
          go_wp2
          go_round
          case rel => exact ⟨j + 1, q + m - 1, hjE, by go_num, by go_num, hq2, HN⟩
          case measure => simp [intOf]; omega
        · have hk1 : k1 = .nil := hFok.2.2.2.1 h3
          have h3' : (c1.1 == 3) = false := by simpa using h3
          have HN : Hid (∃ F : Fo, F.ok ∧ F.count = q - 1 ∧ cs.drop (j + 1) = F.cells ++ tail ∧ j + 1 + F.cells.length = E) := by
            refine ⟨r1, hFok.2.2.2.2.2, ?_, ?_, ?_⟩
            · simp [Fo.count] at hFc; omega
            · rw [hd1, hk1]; rfl
            · rw [← hFl, hk1]; simp [Fo.cells]; omega
          obtain ⟨kd, ekd⟩ : ∃ kd, kd = c1.1 := ⟨_, rfl⟩
          rw [← ekd] at d0 h3'
          clear hFok hFc hFd hFl hcs hcB h3 hd1 hg HF hk1 ekd
          go_wp2
          go_round
          case rel => exact ⟨j + 1, q - 1, hjE, by go_num, by go_num, by omega, HN⟩
          case measure => simp [intOf]; omega
    · obtain rfl : q = 0 := by omega
      have HJ : Hid (j = E) := by
        obtain ⟨F, _, hc, _, hl⟩ := HF.out
        cases F with
        | nil => simpa [Fo.cells, Hid] using hl
        | node a b d => simp [Fo.count] at hc
      clear HF
      go_wp2
      go_ret
      exact ⟨ret_int (by rw [HJ.out]), rfl⟩

/-- Rows of different kinds lie apart. -/
theorem rows_apart {w : World} {B B' s s' n n' : Nat} {e e' : TypeId} {v v' : Value} {xs xs' : List Value} (h : w.ownsRow B e s v n xs) (h' : w.ownsRow B' e' s' v' n' xs') (hne : e ≠ e') : v.ownBlock = none ∨ v.ownBlock ≠ v'.ownBlock := by
  rcases h.2 with ⟨rfl, _⟩ | ⟨g, cap, cur, rfl, _, hh, _⟩
  · exact .inl rfl
  · right
    intro e0
    rcases h'.2 with ⟨rfl, _⟩ | ⟨g', cap', cur', rfl, _, hh', _⟩
    · cases e0
    · cases e0
      rw [hh] at hh'
      cases hh'
      exact hne rfl
def slV (r : Option Addr × Nat × Nat) : Value := .slice r.1 r.2.1 r.2.2
/-- append of a slice of cells. -/
theorem app_sl (w : World) {ops : Array Oper} {rest : List Oper} {o : Oper} {a : Act} {Q : Exit → Act → World → Prop} (hgd : o.guard = none) (s x : Operand)
    (ho : o.op = .call { callee := .builtin .append, args := #[s, x], argTypes := #[169, 169] }) (B : Nat) (p : Option Addr) (n c : Nat) (rs : List (Option Addr × Nat × Nat)) (q : Option Addr) (m c' : Nat)
    (hs : a.eval s = .slice p n c) (hown : w.ownsRow B 34 1 (.slice p n c) n (rs.map slV)) (hx : a.eval x = .slice (some ⟨w.heap.size, 0, none⟩) 1 1)
    (hlen : n + 1 ≤ 1000000) (hbase : B ≤ w.heap.size)
    (h : ∀ g cap w', w'.ownsRow B 34 1 (.slice (some ⟨g, 0, none⟩) (n + 1) cap) (n + 1) ((rs ++ [(q, m, c')]).map slV) → (w.alloc (.cells #[.slice q m c'] 34)).grownBy w' (Value.ownBlock (.slice p n c)) → wpList Try.prog ops Q rest (a.put o.dst (.slice (some ⟨g, 0, none⟩) (n + 1) cap)) w') : wpList Try.prog ops Q (o :: rest) a (w.alloc (.cells #[.slice q m c'] 34)) := by
  obtain ⟨i0, hi, hz0, hz1, hz2⟩ := info_parts infoCells
  refine wpList_append_lies _ hgd s x 169 ho B 34 i0 (.slice none 0 0) 1 24 Try.underlying169 hi hz0 hz1 hz2 rfl (by decide) (.slice p n c) n (rs.map slV) hs (hown.alloc _) ⟨w.heap.size, 0, none⟩ 1 1 [.slice q m c'] hx rfl (cell_one_new _ _ _) (by simp [Value.oneCell']) (by decide) (by unfold maxLen; omega) (by omega) (by simp; omega) _ rfl ?_
  intro g cap w' hown' hgrow hat hlt
  exact h g cap w' (by rw [List.map_append]; exact hown') hgrow

end Go.Proofs.Ytedkkghekboahaa

namespace Go.Proofs.Ytedkkghekboahaa
open Go Go.RowKit
set_option linter.unusedVariables false
set_option linter.unusedSimpArgs false

/-- Slices of cells, each a tree. -/
def ArgRowU (w : World) : List (Option Addr × Nat × Nat) → List Tr → Prop
  | [], [] => True
  | r :: rs, t :: ts => r.2.1 = 1 + t.2.cells.length ∧ r.2.1 ≤ r.2.2 ∧ r.2.2 ≤ 1000000000 ∧ CIn w r.1 (t.1 :: t.2.cells) ∧ ArgRowU w rs ts
  | [], _ :: _ => False
  | _ :: _, [] => False
theorem ArgRowU.snoc {w : World} {r : Option Addr × Nat × Nat} {t : Tr} (h1 : r.2.1 = 1 + t.2.cells.length) (h2 : r.2.1 ≤ r.2.2) (h3 : r.2.2 ≤ 1000000000) (h4 : CIn w r.1 (t.1 :: t.2.cells)) : ∀ {rs : List (Option Addr × Nat × Nat)} {ts : List Tr}, ArgRowU w rs ts → ArgRowU w (rs ++ [r]) (ts ++ [t])
  | [], [], _ => ⟨h1, h2, h3, h4, trivial⟩
  | _ :: _, _ :: _, h => ⟨h.1, h.2.1, h.2.2.1, h.2.2.2.1, ArgRowU.snoc h1 h2 h3 h4 h.2.2.2.2⟩
  | [], _ :: _, h => h.elim
  | _ :: _, [], h => h.elim
/-- What l2args has done: D, what is left: G. -/
structure ArgStU (W0 w wr : World) (cs : List Cel) (k : Fo) (a : Nat) (D : List Tr) (G : Fo) (pt : Option Addr) (nt ct : Nat) (rs : List (Option Addr × Nat × Nat)) : Prop where
  gd : cs.drop a = G.cells
  gok : G.ok
  all : D ++ trs G = trs k
  cnt : nt = D.length
  row : wr.ownsRow w.heap.size 34 1 (.slice pt nt ct) nt (rs.map slV)
  arg : ArgRowU W0 rs D
  low : Below w.heap.size w wr
def ArgsOutU (W0 w : World) (k : Fo) (e : Ending) (w' : World) : Prop := ∃ q m mc rs, e = .returned (.slice q m mc) ∧ m = k.count ∧ w'.ownsRow w.heap.size 34 1 (.slice q m mc) m (rs.map slV) ∧ ArgRowU W0 rs (trs k) ∧ Below w.heap.size w w'

set_option maxRecDepth 100000 in
set_option maxHeartbeats 2000000 in
theorem l2argsU_any (c : Cel) (k : Fo) (p : Option Addr) (n cap : Nat) (W0 w : World) (hW : Below W0.heap.size W0 w) (h3 : c.1 = 3) (hok : (Fo.node c k .nil).ok) (hn : n = (c :: k.cells).length) (hnm : n ≤ 2000) (hcap : n ≤ cap) (hcm : cap ≤ 1000000000) (hin0 : CIn W0 p (c :: k.cells)) :
    Calls Try.prog 109 #[.slice p n cap] w (ArgsOutU W0 w k) := by
  have hin := hin0.below hW
  obtain ⟨b, o, rfl, hcs⟩ := hin (by simp)
  obtain ⟨b0, o0, eb0, hcs0⟩ := hin0 (by simp)
  cases eb0
  have HK : Hid (∀ wr, Below w.heap.size w wr → wr.cell? ⟨b, o, none⟩ = some (.int .i64 3) ∧ wr.cell? ⟨b, o + 1, none⟩ = some (.int .i64 k.count)) := fun wr hb => by
    obtain ⟨p0, q0, d0, d1, _, _⟩ := (hcs 0 (by simp)).below hb
    simp only [List.getD_cons_zero, Nat.zero_mul, Nat.add_zero] at d0 d1
    rw [h3] at d0
    rw [hok.2.2.1 h3] at d1
    exact ⟨d0, d1⟩
  obtain ⟨d0, d1⟩ := HK.out w (Below.refl _ _)
  have hb20 : k.count ≤ 20 := by
    have h := hok.1
    rw [h3] at h
    have := cellB_comp h
    have := hok.2.2.1 h3
    omega
  have HST : Hid (ArgStU W0 w w (c :: k.cells) k 1 [] k none 0 0 []) := ⟨rfl, hok.2.2.2.2.1, rfl, rfl, World.ownsRow_nil _ _ _ _, trivial, Below.refl _ _⟩
  have HGL : Hid (1 + k.cells.length = n) := by show _ = _; rw [hn]; simp; omega
  obtain ⟨cs, ecs⟩ : ∃ cs, cs = c :: k.cells := ⟨_, rfl⟩
  rw [← ecs] at hcs hn HST hin hcs0
  have HX : Hid (∀ i, i < cs.length → CAt W0 b (o + i * 3) (cs.getD i Cel.none)) := hcs0
  have HIN : Hid (CIn w (some ⟨b, o, none⟩) cs) := hin
  have HN : Hid (n = cs.length) := hn
  obtain ⟨M, eM⟩ : ∃ M, M = k.count := ⟨_, rfl⟩
  have HM : Hid (M = k.count) := eM
  rw [← eM] at HK d1 hb20
  have hn0 : 0 < n := by have := HGL.out; omega
  have hn00 : ((n : Int) == 0) = false := by rw [beq_eq_false_iff_ne]; omega
  clear hcs hin hn ecs eM h3 hok hcs0 hin0
  go_enter Try.func109, Try.ntmps109
  go_wp2_with fail
  clear d0 d1
  go_loopw [3, 4, 5] (fun s3 s4 s5 wr => ∃ (a : Nat) (D : List Tr) (G : Fo) (pt : Option Addr) (nt ct : Nat) (rs : List (Option Addr × Nat × Nat)), a ≤ n ∧ nt ≤ M ∧ s3 = .slice pt nt ct ∧ s4 = .int .i64 a ∧ s5 = .int .i64 nt ∧ Hid (a + G.cells.length = n) ∧ Hid (ArgStU W0 w wr cs k a D G pt nt ct rs)) (fun _ _ i _ => M - (intOf i).toNat)
  case atStart => exact ⟨1, [], k, none, 0, 0, [], by omega, Nat.zero_le _, rfl, rfl, rfl, HGL.out, HST.out⟩
  case round =>
    obtain ⟨a, D, G, pt, nt, ct, rs, ha, hnt, rfl, rfl, rfl, HL, HS⟩ := hrel
    obtain ⟨d0, d1⟩ := HK.out wr HS.out.low
    by_cases hlt : nt < M
    · obtain ⟨c1, k1, r1, rfl⟩ : ∃ c k r, G = .node c k r := by
        cases G with
        | nil =>
          have h1 := HS.out.all
          have h2 := congrArg List.length h1
          have h3 := HS.out.cnt
          have h4 := HM.out
          simp [trs, trs_len] at h2
          omega
        | node c k r => exact ⟨c, k, r, rfl⟩
      have hgd : cs.drop a = c1 :: (k1.cells ++ r1.cells) := HS.out.gd
      have HO : Hid (Fo.node c1 k1 r1).ok := HS.out.gok
      have HT : Hid (Fo.node c1 k1 .nil).ok := ⟨HO.out.1, HO.out.2.1, HO.out.2.2.1, HO.out.2.2.2.1, HO.out.2.2.2.2.1, trivial⟩
      have HNX := l2next_any (some ⟨b, o, none⟩) n cap cs a c1 k1 r1.cells wr HN.out (by omega) hgd HT.out (HIN.out.below HS.out.low)
      have HPT : Hid (CIn W0 (some ⟨b, o + a * 3, none⟩) (c1 :: k1.cells)) := CIn.part HX.out a (by rw [hgd]; exact ⟨r1.cells, by simp⟩)
      obtain ⟨L, eL⟩ : ∃ L, L = 1 + k1.cells.length := ⟨_, rfl⟩
      have HEL : Hid (L = 1 + k1.cells.length) := eL
      have hnx : a + 1 + k1.cells.length = a + L := by omega
      have HDR : Hid (cs.drop (a + L) = r1.cells) := by
        show _ = _
        rw [← hnx, show a + 1 + k1.cells.length = (a + 1) + k1.cells.length by omega, ← List.drop_drop, (drop_cell hgd).2.2]; simp
      have hle : a + L ≤ n := by have := HL.out; simp [Fo.cells] at this; omega
      rw [hnx] at HNX
      have HLL : Hid (a + L + r1.cells.length = n) := by show _ = _; have := HL.out; simp [Fo.cells] at this; omega
      have hL1 : 1 ≤ L := by omega
      have hma : (0 : Int) < (cap : Int) - (a : Int) := by omega
      have hL2 : (a : Int) ≤ (a : Int) + (L : Int) := by omega
      have hL3 : (a : Int) + (L : Int) ≤ (n : Int) := by omega
      have hL4 : (a : Int) + (L : Int) ≤ (cap : Int) := by omega
      have hcap1 : ¬ cap = a := by omega
      have hcap2 : ¬ cap - a = 0 := by omega
      have hltI : (nt : Int) < (M : Int) := by omega
      clear hgd eL hnx
      go_wp2_with fail
      refine HNX.mono ?_
      rintro e w3 ⟨rfl, rfl⟩
      clear HNX
      go_wp2_with (at_builtin; refine app_sl _ rfl _ _ rfl w.heap.size pt nt ct rs (some ⟨b, o + a * 3, none⟩) L (cap - a) rfl HS.out.row rfl (by omega) HS.out.low.size ?_; intro g6 cap6 w6 hown6 hg6)
      have hbal := HS.out.low.alloc HS.out.low.size (.cells #[.slice (some ⟨b, o + a * 3, none⟩) L (cap - a)] 34)
      have HS6 : Hid (ArgStU W0 w w6 cs k (a + L) (D ++ [(c1, k1)]) r1 (some ⟨g6, 0, none⟩) (nt + 1) cap6 (rs ++ [(some ⟨b, o + a * 3, none⟩, L, cap - a)])) :=
        ⟨HDR.out, HO.out.2.2.2.2.2, by rw [← HS.out.all]; simp [trs], by rw [HS.out.cnt]; simp, hown6, ArgRowU.snoc HEL.out (by simp only; omega) (by simp only; omega) HPT.out HS.out.arg, hbal.grown hg6 hbal.size (fun k e => (HS.out.row.lt k e).1)⟩
      clear hown6 hg6 hbal
      go_roundw
      case rel => exact ⟨a + L, D ++ [(c1, k1)], r1, some ⟨g6, 0, none⟩, nt + 1, cap6, _, by omega, by omega, rfl, by go_num, by go_num, HLL.out, HS6⟩
      case measure => simp [intOf]; omega
    · obtain rfl : nt = M := by omega
      have HF : Hid (ArgRowU W0 rs (trs k)) := by
        show ArgRowU W0 rs (trs k)
        have h1 := HS.out.all
        have h2 := congrArg List.length h1
        have h3 := HS.out.cnt
        have h4 := HM.out
        simp [trs_len] at h2
        have h5 : trs G = [] := List.length_eq_zero_iff.1 (by rw [trs_len]; omega)
        rw [h5, List.append_nil] at h1
        rw [← h1]; exact HS.out.arg
      go_wp2_with fail
      go_ret
      exact ⟨pt, _, ct, rs, rfl, HM.out, HS.out.row, HF.out, HS.out.low⟩

set_option maxRecDepth 100000 in
set_option maxHeartbeats 1000000 in
theorem l2args_leaf (c : Cel) (k : Fo) (p : Option Addr) (n cap : Nat) (w : World) (h3 : c.1 ≠ 3) (hn : n = (c :: k.cells).length) (hnm : n ≤ 2000) (hin : CIn w p (c :: k.cells)) :
    Calls Try.prog 109 #[.slice p n cap] w fun e w' => e = .returned (.slice none 0 0) ∧ w' = w := by
  obtain ⟨b, o, rfl, hcs⟩ := hin (by simp)
  obtain ⟨p0, q0, d0, _⟩ := hcs 0 (by simp)
  simp only [List.getD_cons_zero, Nat.zero_mul, Nat.add_zero] at d0
  have hn0 : 0 < n := by rw [hn]; simp
  have hn00 : ((n : Int) == 0) = false := by rw [beq_eq_false_iff_ne]; omega
  have hk : (c.1 == 3) = false := by simpa using h3
  obtain ⟨kd, ek⟩ : ∃ kd, kd = c.1 := ⟨_, rfl⟩
  rw [← ek] at d0 hk
  clear hcs hin hn h3 ek
  go_enter Try.func109, Try.ntmps109
  go_wp2_with fail
  go_ret
  exact ⟨rfl, rfl⟩

end Go.Proofs.Ytedkkghekboahaa

namespace Go.Proofs.Ytedkkghekboahaa
open Go Go.RowKit Go.Maps
set_option linter.unusedVariables false

/-- Variables that stand for themselves. -/
def selfL : Nat → Nat → List Cel
  | _, 0 => []
  | a, n + 1 => (0, (a : Int), []) :: selfL (a + 1) n
theorem selfL_len : ∀ (n a : Nat), (selfL a n).length = n
  | 0, a => rfl
  | n + 1, a => by simp [selfL, selfL_len n]
theorem selfL_snoc : ∀ (n a : Nat), selfL a (n + 1) = selfL a n ++ [(0, ((a + n : Nat) : Int), [])]
  | 0, a => by simp [selfL]
  | n + 1, a => by
    rw [selfL, selfL_snoc n (a + 1)]
    simp only [selfL, List.cons_append]
    rw [show a + 1 + n = a + (n + 1) by omega]
/-- The cells while the parts are put. -/
def midM (X : List Cel) (f : Cel) (n j : Nat) (R : List Cel × List Cel × PSt) : List Cel := X ++ (f :: (R.1 ++ (selfL (X.length + 1 + j) (n - j) ++ R.2.1)))
theorem midM_len (X : List Cel) (f : Cel) (n j : Nat) (R : List Cel × List Cel × PSt) (h : R.1.length = j) (hj : j ≤ n) : (midM X f n j R).length = X.length + 1 + n + R.2.1.length := by simp [midM, h, selfL_len]; omega
theorem midM_step (X : List Cel) (f : Cel) (n j : Nat) (R : List Cel × List Cel × PSt) (A : Cel × List Cel × PSt) (h : R.1.length = j) (hj : j < n) : (midM X f n j R ++ A.2.1).set (X.length + 1 + j) A.1 = midM X f n (j + 1) (R.1 ++ [A.1], R.2.1 ++ A.2.1, A.2.2) := by
  unfold midM
  rw [List.append_assoc, List.set_append_right _ _ (by omega), show X.length + 1 + j - X.length = j + 1 by omega, List.cons_append, List.set_cons_succ, List.append_assoc, List.set_append_right _ _ (by omega), h, show j - j = 0 by omega, show n - j = (n - (j + 1)) + 1 by omega, selfL]
  simp [List.append_assoc, Nat.add_assoc]
theorem putL_snocM (base : Int) (x : Fo) (c : Cel) (k : Fo) (p L : Nat) (s : PSt) : putL base (x.cat (.node c k .nil)) p L s = ((putL base x p L s).1 ++ [(put1 base c k (p + x.count) (L + (putL base x p L s).2.1.length) (putL base x p L s).2.2).1], (putL base x p L s).2.1 ++ (put1 base c k (p + x.count) (L + (putL base x p L s).2.1.length) (putL base x p L s).2.2).2.1, (put1 base c k (p + x.count) (L + (putL base x p L s).2.1.length) (putL base x p L s).2.2).2.2) := by
  rw [putL_cat, putL_node]
  simp [putN, putL]
theorem put1_E (base : Int) (c : Cel) (k : Fo) (p L : Nat) (s : PSt) (h : ∀ p L s, (putL base k p L s).2.2.length ≤ s.length + k.cells.length) : (put1 base c k p L s).2.2.length ≤ s.length + (1 + k.cells.length) := by
  have := h (L + 1) (L + 1 + k.count) s
  unfold put1 putH
  split
  · split
    · simp
    · split <;> simp <;> omega
  · split
    · simp
    · split
      · simp
      · simp only; omega
theorem putL_E (base : Int) : ∀ (F : Fo) (p L : Nat) (s : PSt), (putL base F p L s).2.2.length ≤ s.length + F.cells.length
  | .nil, p, L, s => by simp [putL, Fo.cells]
  | .node c k r, p, L, s => by
    rw [putL_node]
    have h1 := put1_E base c k p L s (putL_E base k)
    have h2 := putL_E base r (p + 1) (L + (put1 base c k p L s).2.1.length) (put1 base c k p L s).2.2
    simp only [putN, Fo.cells, List.length_cons, List.length_append] at h2 ⊢
    omega
theorem trs_catM : ∀ a b : Fo, trs (a.cat b) = trs a ++ trs b
  | .nil, b => rfl
  | .node c k r, b => by simp [Fo.cat, trs, trs_catM r b]
theorem argRow_at {w : World} : ∀ (rs : List (Option Addr × Nat × Nat)) (ts : List Tr) (i : Nat) (t : Tr), ArgRowU w rs ts → ts[i]? = some t → ∃ r, rs[i]? = some r ∧ r.2.1 = 1 + t.2.cells.length ∧ r.2.1 ≤ r.2.2 ∧ r.2.2 ≤ 1000000000 ∧ CIn w r.1 (t.1 :: t.2.cells)
  | [], [], i, t, _, h => by simp at h
  | r :: rs, u :: ts, 0, t, ha, h => by
    simp only [List.getElem?_cons_zero, Option.some.injEq] at h
    subst h
    exact ⟨r, rfl, ha.1, ha.2.1, ha.2.2.1, ha.2.2.2.1⟩
  | r :: rs, u :: ts, i + 1, t, ha, h => argRow_at rs ts i t ha.2.2.2.2 h
  | [], _ :: _, i, t, ha, _ => ha.elim
  | _ :: _, [], i, t, ha, _ => ha.elim
/-- A cell of the model's heap was set. -/
theorem PMo.setC {V : World} {h pb : Nat} {base : Int} {X : List Cel} {tr : List Int} {E : PSt} {s : Sl8} {W : World} {g : Nat} (H : PMo V h pb base X tr E s W) (hg : s.1.1 = some ⟨g, 0, none⟩) {a : Nat} (ha : a < X.length) (c : Cel) (p : Option Addr) (cp : Nat) (hp : BIn V p c.2.2) :
    PMo V h pb base (X.set a c) tr E s (((W.setCell ⟨g, a * 3, none⟩ (.int .i64 c.1)).setCell ⟨g, a * 3 + 1, none⟩ (.int .i64 c.2.1)).setCell ⟨g, a * 3 + 2, none⟩ (.slice p c.2.2.length cp)) ∧ FrT h pb s s W (((W.setCell ⟨g, a * 3, none⟩ (.int .i64 c.1)).setCell ⟨g, a * 3 + 1, none⟩ (.int .i64 c.2.1)).setCell ⟨g, a * 3 + 2, none⟩ (.slice p c.2.2.length cp)) := by
  have hbg : bl s.1 = some g := by unfold bl; rw [hg]; rfl
  obtain ⟨B1, B2, B3, B4⟩ := H.blocks
  obtain ⟨g1, g2, g3, g4, g5, g6, g7⟩ := B1 g hbg
  have far : ∀ k, k ≠ g → (((W.setCell ⟨g, a * 3, none⟩ (.int .i64 c.1)).setCell ⟨g, a * 3 + 1, none⟩ (.int .i64 c.2.1)).setCell ⟨g, a * 3 + 2, none⟩ (.slice p c.2.2.length cp)).heap[k]? = W.heap[k]? := fun k hk => by
    rw [heap_setCell_other _ _ _ _ hk, heap_setCell_other _ _ _ _ hk, heap_setCell_other _ _ _ _ hk]
  obtain ⟨h0, ⟨hn, rs, hl, hr, hf⟩, h2, h3, h4, h5, ⟨h6, h7, h8⟩, h9, hA⟩ := H
  have int : ∀ {p' : Option Addr} {n c' : Nat} {ys : List Int}, OwnI W V.heap.size 3 p' n c' ys → bl (p', c') ≠ some g → OwnI (((W.setCell ⟨g, a * 3, none⟩ (.int .i64 c.1)).setCell ⟨g, a * 3 + 1, none⟩ (.int .i64 c.2.1)).setCell ⟨g, a * 3 + 2, none⟩ (.slice p c.2.2.length cp)) V.heap.size 3 p' n c' ys := fun ho hb => ⟨ho.1, row_stayB ho.2 (fun k hk => far k (fun e => hb (by rw [← e]; exact (bl_of (_, _) _).symm.trans hk)))⟩
  refine ⟨⟨?_, ⟨by simp, rs.set a (c.1, c.2.1, p, c.2.2.length, cp), by simp [hl], ?_, fun i hi => ?_⟩, int h2 g3, (far pb (fun e => g2 e.symm)).trans h3, int h4 g4, int h5 g5, ⟨h6, h7, below_put3g h8 g6⟩, h9, hA⟩, by simp, fun k hk _ _ k3 _ _ => far k (fun e => k3 (by rw [e]; exact hbg)), fun k e => .inl e, fun k e => .inl e, fun k e => .inl e, rfl⟩
  · rw [List.length_set]; exact (far h (fun e => g1 e.symm)).trans h0
  · rw [hg] at hr ⊢
    have h3' := (((hr.stored (a * 3) (.int .i64 c.1)).1.stored (a * 3 + 1) (.int .i64 c.2.1)).1.stored (a * 3 + 2) (.slice p c.2.2.length cp)).1
    rw [flat_set rs a (c.1, c.2.1, p, c.2.2.length, cp) (by omega)] at h3'
    rw [List.length_set]
    exact h3'
  · rw [List.length_set] at hi
    by_cases e : i = a
    · subst e
      have e1 : (rs.set i (c.1, c.2.1, p, c.2.2.length, cp)).getD i RC.zero = (c.1, c.2.1, p, c.2.2.length, cp) := by
        have : i < rs.length := by omega
        simp [List.getD, this]
      have e2 : (X.set i c).getD i Cel.none = c := by simp [List.getD, hi]
      rw [e1, e2]
      exact ⟨rfl, rfl, rfl, hp⟩
    · have ne : ¬ a = i := fun x => e x.symm
      have e1 : (rs.set a (c.1, c.2.1, p, c.2.2.length, cp)).getD i RC.zero = rs.getD i RC.zero := by simp [List.getD, ne]
      have e2 : (X.set a c).getD i Cel.none = X.getD i Cel.none := by simp [List.getD, ne]
      rw [e1, e2]
      exact hf i hi
/-- A cell of the row, with its block. -/
theorem PMo.rowAt {V : World} {h pb : Nat} {base : Int} {X : List Cel} {tr : List Int} {E : PSt} {s : Sl8} {W : World} (H : PMo V h pb base X tr E s W) {a : Nat} (ha : a < X.length) : ∃ g, s.1.1 = some ⟨g, 0, none⟩ ∧ (∃ u0 u1 u2, W.cell? ⟨g, a * 3, none⟩ = some u0 ∧ W.cell? ⟨g, a * 3 + 1, none⟩ = some u1 ∧ W.cell? ⟨g, a * 3 + 2, none⟩ = some u2) ∧ ∀ j, W.frozen? ⟨g, j, none⟩ = false := by
  obtain ⟨g, q, cq, hp, _, _, d0, d1, d2, _⟩ := H.2.1.at a ha
  refine ⟨g, hp, ⟨_, _, _, d0, d1, d2⟩, fun j => ?_⟩
  obtain ⟨_, rs, _, hr, _⟩ := H.2.1
  rw [hp] at hr
  exact hr.frozenAt j
/-- The contract of l10term at trees with less than so many cells below. -/
def TermM (V : World) (h pb : Nat) (base : Int) (tr : List Int) (n : Nat) : Prop := ∀ (c : Cel) (k : Fo) (q : Option Addr) (m cap pl : Nat) (X : List Cel) (E : PSt) (s : Sl8) (W : World), k.cells.length < n → (Fo.node c k .nil).ok → m = 1 + k.cells.length → m ≤ 2000 → m ≤ cap → cap ≤ 1000000000 → CIn V q (c :: k.cells) → X.length + 2 * (1 + k.cells.length) ≤ 1000000 → pl ≤ 1000000 → E.length + (1 + k.cells.length) ≤ 20000 → PMo V h pb base X tr E s W →
  Calls Try.prog 95 #[.pointer (some ⟨h, 0, none⟩), .pointer (some ⟨pb, 0, none⟩), .slice q m cap, .int .i64 (pl : Nat)] W (TmOut V h pb base X tr s W (put1 base c k pl X.length E))

end Go.Proofs.Ytedkkghekboahaa

