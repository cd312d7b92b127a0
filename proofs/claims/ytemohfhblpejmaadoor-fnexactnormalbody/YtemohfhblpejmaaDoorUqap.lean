/- Texts of EvS6, NbS2, RegK. Own work of the verifier. -/
import Derived.Test.YtemohfhblpejmaaDoorUqaj
import Derived.Test.YtemohfhblpejmaaDoorUqao
import Derived.Test.YtemohfhblpejmaaDoorUqam
import Derived.Test.YtemohfhblpejmaaDoorUqan
import Derived.Deep.RegionHeld3
namespace Go.Proofs.YtemohfhblpejmaaDoor
open Go Go.RowKit
set_option linter.unusedVariables false
set_option linter.unusedSimpArgs false

def trsF : Fo → List Tr
  | .nil => []
  | .node c k r => (c, k) :: trsF r
theorem trsF_len : ∀ F : Fo, (trsF F).length = F.count
  | .nil => rfl
  | .node _ _ r => by simp [trsF, Fo.count, trsF_len r]
/-- Slices of cells, each a tree. -/
def ArgRow (w : World) : List (Option Addr × Nat × Nat) → List Tr → Prop
  | [], [] => True
  | r :: rs, t :: ts => r.2.1 = 1 + t.2.cells.length ∧ r.2.1 ≤ r.2.2 ∧ r.2.2 ≤ 1000000000 ∧ CIn w r.1 (t.1 :: t.2.cells) ∧ ArgRow w rs ts
  | [], _ :: _ => False
  | _ :: _, [] => False
theorem ArgRow.snoc {w : World} {r : Option Addr × Nat × Nat} {t : Tr} (h1 : r.2.1 = 1 + t.2.cells.length) (h2 : r.2.1 ≤ r.2.2) (h3 : r.2.2 ≤ 1000000000) (h4 : CIn w r.1 (t.1 :: t.2.cells)) : ∀ {rs : List (Option Addr × Nat × Nat)} {ts : List Tr}, ArgRow w rs ts → ArgRow w (rs ++ [r]) (ts ++ [t])
  | [], [], _ => ⟨h1, h2, h3, h4, trivial⟩
  | _ :: _, _ :: _, h => ⟨h.1, h.2.1, h.2.2.1, h.2.2.2.1, ArgRow.snoc h1 h2 h3 h4 h.2.2.2.2⟩
  | [], _ :: _, h => h.elim
  | _ :: _, [], h => h.elim
/-- What l2args has done: D, what is left: G. -/
structure ArgSt (w wr : World) (cs : List Cel) (k : Fo) (a : Nat) (D : List Tr) (G : Fo) (pt : Option Addr) (nt ct : Nat) (rs : List (Option Addr × Nat × Nat)) : Prop where
  gd : cs.drop a = G.cells
  gok : G.ok
  all : D ++ trsF G = trsF k
  cnt : nt = D.length
  row : wr.ownsRow w.heap.size 24 1 (.slice pt nt ct) nt (rs.map slV)
  arg : ArgRow w rs D
  low : Below w.heap.size w wr
def ArgsOut (w : World) (k : Fo) (e : Ending) (w' : World) : Prop := ∃ q m mc rs, e = .returned (.slice q m mc) ∧ m = k.count ∧ w'.ownsRow w.heap.size 24 1 (.slice q m mc) m (rs.map slV) ∧ ArgRow w rs (trsF k) ∧ Below w.heap.size w w'

set_option maxRecDepth 100000 in
set_option maxHeartbeats 2000000 in
theorem l2args_any (c : Cel) (k : Fo) (p : Option Addr) (n cap : Nat) (w : World) (h3 : c.1 = 3) (hok : (Fo.node c k .nil).ok) (hn : n = (c :: k.cells).length) (hnm : n ≤ 2000) (hcap : n ≤ cap) (hcm : cap ≤ 1000000000) (hin : CIn w p (c :: k.cells)) :
    Calls Tryd.prog 27 #[.slice p n cap] w (ArgsOut w k) := by
  obtain ⟨b, o, rfl, hcs⟩ := hin (by simp)
  have HK : Hid (∀ wr, Below w.heap.size w wr → wr.cell? ⟨b, o, none⟩ = some (.int .i64 3) ∧ wr.cell? ⟨b, o + 1, none⟩ = some (.int .i64 k.count)) := fun wr hb => by
    obtain ⟨p0, q0, d0, d1, _, _⟩ := (hcs 0 (by simp)).below hb
    simp only [List.getD_cons_zero, Nat.zero_mul, Nat.add_zero] at d0 d1
    rw [h3] at d0
    rw [hok.2.2.1 h3] at d1
    exact ⟨d0, d1⟩
  obtain ⟨d0, d1⟩ := HK.out w (Below.refl _ _)
  have hb20 : k.count ≤ 20 := by
    have h := hok.1
    rw [h3] at h
    have := cellB_comp h
    have := hok.2.2.1 h3
    omega
  have HST : Hid (ArgSt w w (c :: k.cells) k 1 [] k none 0 0 []) := ⟨rfl, hok.2.2.2.2.1, rfl, rfl, World.ownsRow_nil _ _ _ _, trivial, Below.refl _ _⟩
  have HGL : Hid (1 + k.cells.length = n) := by show _ = _; rw [hn]; simp; omega
  obtain ⟨cs, ecs⟩ : ∃ cs, cs = c :: k.cells := ⟨_, rfl⟩
  rw [← ecs] at hcs hn HST hin
  have HX : Hid (∀ i, i < cs.length → CAt w b (o + i * 3) (cs.getD i Cel.none)) := hcs
  have HIN : Hid (CIn w (some ⟨b, o, none⟩) cs) := hin
  have HN : Hid (n = cs.length) := hn
  obtain ⟨M, eM⟩ : ∃ M, M = k.count := ⟨_, rfl⟩
  have HM : Hid (M = k.count) := eM
  rw [← eM] at HK d1 hb20
  have hn0 : 0 < n := by have := HGL.out; omega
  have hn00 : ((n : Int) == 0) = false := by rw [beq_eq_false_iff_ne]; omega
  clear hcs hin hn ecs eM h3 hok
  go_enter Tryd.func27, Tryd.ntmps27
  go_wp2_with fail
  clear d0 d1
  go_loopw [3, 4, 5] (fun s3 s4 s5 wr => ∃ (a : Nat) (D : List Tr) (G : Fo) (pt : Option Addr) (nt ct : Nat) (rs : List (Option Addr × Nat × Nat)), a ≤ n ∧ nt ≤ M ∧ s3 = .slice pt nt ct ∧ s4 = .int .i64 a ∧ s5 = .int .i64 nt ∧ Hid (a + G.cells.length = n) ∧ Hid (ArgSt w wr cs k a D G pt nt ct rs)) (fun _ _ i _ => M - (intOf i).toNat)
  case atStart => exact ⟨1, [], k, none, 0, 0, [], by omega, Nat.zero_le _, rfl, rfl, rfl, HGL.out, HST.out⟩
  case round =>
    obtain ⟨a, D, G, pt, nt, ct, rs, ha, hnt, rfl, rfl, rfl, HL, HS⟩ := hrel
    obtain ⟨d0, d1⟩ := HK.out wr HS.out.low
    by_cases hlt : nt < M
    · obtain ⟨c1, k1, r1, rfl⟩ : ∃ c k r, G = .node c k r := by
        cases G with
        | nil =>
          have h1 := HS.out.all
          have h2 := congrArg List.length h1
          have h3 := HS.out.cnt
          have h4 := HM.out
          simp [trsF, trsF_len] at h2
          omega
        | node c k r => exact ⟨c, k, r, rfl⟩
      have hgd : cs.drop a = c1 :: (k1.cells ++ r1.cells) := HS.out.gd
      have HO : Hid (Fo.node c1 k1 r1).ok := HS.out.gok
      have HT : Hid (Fo.node c1 k1 .nil).ok := ⟨HO.out.1, HO.out.2.1, HO.out.2.2.1, HO.out.2.2.2.1, HO.out.2.2.2.2.1, trivial⟩
      have HNX := l2next_any (some ⟨b, o, none⟩) n cap cs a c1 k1 r1.cells wr HN.out (by omega) hgd HT.out (HIN.out.below HS.out.low)
      have HPT : Hid (CIn w (some ⟨b, o + a * 3, none⟩) (c1 :: k1.cells)) := CIn.part HX.out a (by rw [hgd]; exact ⟨r1.cells, by simp⟩)
      obtain ⟨L, eL⟩ : ∃ L, L = 1 + k1.cells.length := ⟨_, rfl⟩
      have HEL : Hid (L = 1 + k1.cells.length) := eL
      have hnx : a + 1 + k1.cells.length = a + L := by omega
      have HDR : Hid (cs.drop (a + L) = r1.cells) := by
        show _ = _
        rw [← hnx, show a + 1 + k1.cells.length = (a + 1) + k1.cells.length by omega, ← List.drop_drop, (drop_cell hgd).2.2]; simp
      have hle : a + L ≤ n := by have := HL.out; simp [Fo.cells] at this; omega
      rw [hnx] at HNX
      have HLL : Hid (a + L + r1.cells.length = n) := by show _ = _; have := HL.out; simp [Fo.cells] at this; omega
      have hL1 : 1 ≤ L := by omega
      have hma : (0 : Int) < (cap : Int) - (a : Int) := by omega
      have hL2 : (a : Int) ≤ (a : Int) + (L : Int) := by omega
      have hL3 : (a : Int) + (L : Int) ≤ (n : Int) := by omega
      have hL4 : (a : Int) + (L : Int) ≤ (cap : Int) := by omega
      have hcap1 : ¬ cap = a := by omega
      have hcap2 : ¬ cap - a = 0 := by omega
      have hltI : (nt : Int) < (M : Int) := by omega
      clear hgd eL hnx
      go_wp2_with fail
      refine HNX.mono ?_
      rintro e w3 ⟨rfl, rfl⟩
      clear HNX
      go_wp2_with (at_builtin; refine app_sl _ rfl _ _ rfl w.heap.size pt nt ct rs (some ⟨b, o + a * 3, none⟩) L (cap - a) rfl HS.out.row rfl (by omega) HS.out.low.size ?_; intro g6 cap6 w6 hown6 hg6)
      have hbal := HS.out.low.alloc HS.out.low.size (.cells #[.slice (some ⟨b, o + a * 3, none⟩) L (cap - a)] 24)
      have HS6 : Hid (ArgSt w w6 cs k (a + L) (D ++ [(c1, k1)]) r1 (some ⟨g6, 0, none⟩) (nt + 1) cap6 (rs ++ [(some ⟨b, o + a * 3, none⟩, L, cap - a)])) :=
        ⟨HDR.out, HO.out.2.2.2.2.2, by rw [← HS.out.all]; simp [trsF], by rw [HS.out.cnt]; simp, hown6, ArgRow.snoc HEL.out (by simp only; omega) (by simp only; omega) HPT.out HS.out.arg, hbal.grown hg6 hbal.size (fun k e => (HS.out.row.lt k e).1)⟩
      clear hown6 hg6 hbal
      go_roundw
      case rel => exact ⟨a + L, D ++ [(c1, k1)], r1, some ⟨g6, 0, none⟩, nt + 1, cap6, _, by omega, by omega, rfl, by go_num, by go_num, HLL.out, HS6⟩
      case measure => simp [intOf]; omega
    · obtain rfl : nt = M := by omega
      have HF : Hid (ArgRow w rs (trsF k)) := by
        show ArgRow w rs (trsF k)
        have h1 := HS.out.all
        have h2 := congrArg List.length h1
        have h3 := HS.out.cnt
        have h4 := HM.out
        simp [trsF_len] at h2
        have h5 : trsF G = [] := List.length_eq_zero_iff.1 (by rw [trsF_len]; omega)
        rw [h5, List.append_nil] at h1
        rw [← h1]; exact HS.out.arg
      go_wp2_with fail
      go_ret
      exact ⟨pt, _, ct, rs, rfl, HM.out, HS.out.row, HF.out, HS.out.low⟩

end Go.Proofs.YtemohfhblpejmaaDoor

namespace Go.Proofs.YtemohfhblpejmaaDoor
open Go Go.RowKit
set_option linter.unusedVariables false

/-- What l8body answers. -/
def SbOut (w : World) (G : Option Fo) (e : Ending) (w' : World) : Prop :=
  Below w.heap.size w w' ∧ match G with
    | none => e = .returned (.tuple #[.slice none 0 0, .int .i64 4])
    | some G => ∃ q m c2, e = .returned (.tuple #[.slice q m c2, .int .i64 0]) ∧ OwnC w' w.heap.size q m c2 G.cells
theorem sbOut_none {w w' : World} {G : Option Fo} (hG : G = none) (hb : Below w.heap.size w w') : SbOut w G (.returned (.tuple #[.slice none 0 0, .int .i64 4])) w' := by
  subst hG
  exact ⟨hb, rfl⟩
theorem sbOut_some {w w' : World} {G : Option Fo} {F : Fo} {cs : List Cel} {q : Option Addr} {m c2 : Nat} (hG : G = some F) (hF : F.cells = cs) (hb : Below w.heap.size w w') (ho : OwnC w' w.heap.size q m c2 cs) : SbOut w G (.returned (.tuple #[.slice q m c2, .int .i64 0])) w' := by
  subst hG
  subst hF
  exact ⟨hb, q, m, c2, rfl, ho⟩
theorem tl_append : ∀ (a b : List Cel), tl (a ++ b) = tl a + tl b
  | [], b => by simp [tl]
  | c :: r, b => by simp [tl, tl_append r b]; omega
theorem tl_ok : ∀ F : Fo, F.ok → tl F.cells ≤ 100 * F.cells.length
  | .nil, _ => by simp [Fo.cells, tl]
  | .node c k r, h => by
    have h1 := tl_ok k h.2.2.2.2.1
    have h2 := tl_ok r h.2.2.2.2.2
    have h3 : c.2.2.length ≤ 100 := by have h0 := h.1; simp only [cellB, decide_eq_true_eq] at h0; omega
    simp only [Fo.cells, tl, tl_append, List.length_cons, List.length_append]
    omega
/-- What is said of every tree no greater than M. -/
def SbOk (M : Nat) : Prop := ∀ (c : Cel) (k : Fo) (p : Option Addr) (n cap : Nat) (w : World), k.cells.length ≤ M → (Fo.node c k .nil).ok → n = 1 + k.cells.length → n ≤ 2000 → n ≤ cap → cap ≤ 1000000000 → CIn w p (c :: k.cells) →
  Calls Tryd.prog 16 #[.slice p n cap] w (SbOut w (normT c k))

set_option maxRecDepth 100000 in
theorem l8body_var (x : Int) (p : Option Addr) (cap : Nat) (w : World) (hin : CIn w p [(0, x, [])]) : Calls Tryd.prog 16 #[.slice p 1 cap] w (SbOut w (normT (0, x, []) .nil)) := by
  have HN : Hid (normT (0, x, []) .nil = some (.node (3, 1, nCall) (.node (0, x, []) .nil .nil) .nil)) := rfl
  have HX := l2oneO_any nCall (byte_of rfl) p 1 cap [(0, x, [])] w rfl hin (by simp) (by simp [tl])
  rw [sCall] at HX
  obtain ⟨b, o, rfl, hcs⟩ := hin (by simp)
  obtain ⟨p0, q0, d0, d1, d2, d3⟩ := hcs 0 (by simp)
  simp only [List.getD_cons_zero, Nat.zero_mul, Nat.add_zero] at d0 d1 d2 d3
  clear hcs d3
  go_enter Tryd.func16, Tryd.ntmps16
  go_wp2_with fail
  refine HX.mono ?_
  rintro e w1 ⟨q, m, c2, rfl, ho, hb⟩
  have HF : Hid (SbOut w (normT (0, x, []) .nil) (.returned (.tuple #[.slice q m c2, .int .i64 0])) w1) := sbOut_some HN.out (by simp [Fo.cells]) hb ho
  clear ho hb HX
  go_wp2_with fail
  go_ret2
  exact HF.out
set_option maxRecDepth 100000 in
theorem l8body_num (x : Int) (p : Option Addr) (cap : Nat) (w : World) (hin : CIn w p [(1, x, [])]) : Calls Tryd.prog 16 #[.slice p 1 cap] w (SbOut w (normT (1, x, []) .nil)) := by
  have HN : Hid (normT (1, x, []) .nil = none) := rfl
  obtain ⟨b, o, rfl, hcs⟩ := hin (by simp)
  obtain ⟨p0, q0, d0, d1, d2, d3⟩ := hcs 0 (by simp)
  simp only [List.getD_cons_zero, Nat.zero_mul, Nat.add_zero] at d0 d1 d2 d3
  clear hcs d3
  go_enter Tryd.func16, Tryd.ntmps16
  go_wp2_with fail
  go_ret2
  exact sbOut_none HN.out (Below.refl _ _)
/-- A name that begins with a dollar sign. -/
theorem l8body_dol (c : Cel) (k : Fo) (p : Option Addr) (n cap : Nat) (w : World) (hk : c.1 = 2 ∨ c.1 = 3) (hd : dolL c.2.2 = true) (hok : (Fo.node c k .nil).ok) (hn : n = 1 + k.cells.length) (hin : CIn w p (c :: k.cells)) : Calls Tryd.prog 16 #[.slice p n cap] w (SbOut w (normT c k)) := by
  have HN : Hid (normT c k = none) := by
    show _ = _
    unfold normT normH
    rw [if_neg (by omega), if_pos (.inr hd)]
  obtain ⟨b, o, rfl, hcs⟩ := hin (by simp)
  obtain ⟨p0, q0, d0, d1, d2, d3⟩ := hcs 0 (by simp)
  simp only [List.getD_cons_zero, Nat.zero_mul, Nat.add_zero] at d0 d1 d2 d3
  have hl : c.2.2.length ≤ 100 := by have h0 := hok.1; simp only [cellB, decide_eq_true_eq] at h0; omega
  have HD := l8dollar_any p0 c.2.2.length q0 c.2.2 w rfl (by omega) hok.2.1 d3
  rw [hd] at HD
  obtain ⟨x, ex⟩ : ∃ x, x = c.1 := ⟨_, rfl⟩
  rw [← ex] at d0 hk
  obtain ⟨m, em⟩ : ∃ m, m = c.2.2.length := ⟨_, rfl⟩
  rw [← em] at d2 HD
  have hn0 : (0 : Int) < (n : Int) := by omega
  clear hcs d3 d1 hin hok hn hd hl ex em
  rcases hk with rfl | rfl
  all_goals
    go_enter Tryd.func16, Tryd.ntmps16
    go_wp2_with fail
    refine HD.mono ?_
    rintro e w1 ⟨rfl, rfl⟩
    go_wp2_with fail
    go_ret2
    exact sbOut_none HN.out (Below.refl _ _)
/-- What is answered as it is. -/
theorem l8body_same (c : Cel) (k : Fo) (p : Option Addr) (n cap : Nat) (w : World) (hk : c.1 = 2 ∨ (c.1 = 3 ∧ conC c = false)) (hd : dolL c.2.2 = false) (hok : (Fo.node c k .nil).ok) (hn : n = 1 + k.cells.length) (hnl : n ≤ 2000) (hin : CIn w p (c :: k.cells)) : Calls Tryd.prog 16 #[.slice p n cap] w (SbOut w (normT c k)) := by
  have hcc : conC c = false := by
    rcases hk with h | h
    · unfold conC; rw [h]; rfl
    · exact h.2
  have HN : Hid (normT c k = some (.node c k .nil)) := by
    show _ = _
    unfold normT normH
    rw [if_neg (by omega), if_neg (by rw [hd]; simp; omega), if_neg (by rw [hcc]; decide)]
  have htl : (c :: k.cells).length + tl (c :: k.cells) ≤ 10000000 := by
    have := tl_ok _ hok
    simp only [Fo.cells, List.append_nil] at this
    simp only [List.length_cons] at this ⊢
    omega
  have HCP := l2copy_any p n cap (c :: k.cells) w (by rw [hn]; simp; omega) htl hin
  obtain ⟨b, o, rfl, hcs⟩ := hin (by simp)
  obtain ⟨p0, q0, d0, d1, d2, d3⟩ := hcs 0 (by simp)
  simp only [List.getD_cons_zero, Nat.zero_mul, Nat.add_zero] at d0 d1 d2 d3
  have hl : c.2.2.length ≤ 100 := by have h0 := hok.1; simp only [cellB, decide_eq_true_eq] at h0; omega
  have HD := l8dollar_any p0 c.2.2.length q0 c.2.2 w rfl (by omega) hok.2.1 d3
  rw [hd] at HD
  have hcv := conv_str d3 c.2.2.length q0 rfl 9 Tryd.underlying9
  have HC := l8construct_any (strOfNums c.2.2) c.1 c.2.1 b o p0 c.2.2.length q0 n cap w (by omega) d0 d1 d2 hcv
  have hcon : c.1 = 2 ∨ (c.1 = 3 ∧ con7 (strOfNums c.2.2) c.1 c.2.1 = false) := by
    rcases hk with h | h
    · exact .inl h
    · have h0 := hok.1
      rw [h.1] at h0
      have := cellB_comp h0
      have h2 := h.2
      rw [show c = (3, c.2.1, c.2.2) by rw [← h.1]] at h2
      exact .inr ⟨h.1, by rw [h.1, con7_comp hok.2.1 _ this.1]; exact h2⟩
  obtain ⟨z, ez⟩ : ∃ z, z = con7 (strOfNums c.2.2) c.1 c.2.1 := ⟨_, rfl⟩
  rw [← ez] at HC hcon
  have HX : Hid ((Fo.node c k .nil).cells = c :: k.cells) := by show _ = _; simp [Fo.cells]
  obtain ⟨cs, ecs⟩ : ∃ cs, cs = c :: k.cells := ⟨_, rfl⟩
  rw [← ecs] at HCP HX
  obtain ⟨x, ex⟩ : ∃ x, x = c.1 := ⟨_, rfl⟩
  rw [← ex] at d0 hcon
  obtain ⟨m, em⟩ : ∃ m, m = c.2.2.length := ⟨_, rfl⟩
  rw [← em] at d2 HD
  have hn0 : (0 : Int) < (n : Int) := by omega
  clear hcs d3 d1 hin hok hn hd hl em htl hcv ez ecs ex hcc hk
  rcases hcon with rfl | ⟨rfl, rfl⟩
  · cases z
    all_goals
      go_enter Tryd.func16, Tryd.ntmps16
      go_wp2_with fail
      refine HD.mono ?_
      rintro e w1 ⟨rfl, rfl⟩
      go_wp2_with fail
      refine HC.mono ?_
      rintro e w2 ⟨rfl, rfl⟩
      go_wp2_with fail
      refine HCP.mono ?_
      rintro e w3 ⟨q, m3, c3, rfl, ho, hb⟩
      have HF : Hid (SbOut w2 (normT c k) (.returned (.tuple #[.slice q m3 c3, .int .i64 0])) w3) := sbOut_some HN.out HX.out hb ho
      clear ho hb HCP
      go_wp2_with fail
      go_ret2
      exact HF.out
  · go_enter Tryd.func16, Tryd.ntmps16
    go_wp2_with fail
    refine HD.mono ?_
    rintro e w1 ⟨rfl, rfl⟩
    go_wp2_with fail
    refine HC.mono ?_
    rintro e w2 ⟨rfl, rfl⟩
    go_wp2_with fail
    refine HCP.mono ?_
    rintro e w3 ⟨q, m3, c3, rfl, ho, hb⟩
    have HF : Hid (SbOut w2 (normT c k) (.returned (.tuple #[.slice q m3 c3, .int .i64 0])) w3) := sbOut_some HN.out HX.out hb ho
    clear ho hb HCP
    go_wp2_with fail
    go_ret2
    exact HF.out

end Go.Proofs.YtemohfhblpejmaaDoor

namespace Go.Proofs.YtemohfhblpejmaaDoor
open Go
section
variable {P : Program} {ops : Array Oper} {Q : Exit → Act → World → Prop} {md : Region.Mode} {S : World → Prop}

theorem hTake {i : Nat} {v : Value} {fuel : Nat} {listed : Array Bool} {a : Act} {w : World} (d : Option Tmp) (hd : (ops[i]?).map (·.dst) = some d)
    (hs : Region.noSelect ops = true) (hf : Region.free md ops listed i = true) (hr : (Region.ready md ops listed).contains i = true) (hw : (ops[i]?).map (fun o => Region.wanted o (yielded ops a.tmps)) = some true)
    (hQ : ∀ c a w, Q (.panic c) (a.put d v) w → Q (.panic c) a w) (hrun : ∀ o, ops[i]? = some o → ∀ w, S w → (execOp a.eval o).run P w = .ok (.value v) w) (hS : S w)
    (h : wpAnyH P md ops Q S fuel (listed.setIfInBounds i true) (a.put d v) w) : wpAnyH P md ops Q S (fuel + 1) listed a w := by
  cases hi : ops[i]? with
  | none => simp [hi] at hd
  | some o =>
    have hd' : o.dst = d := by simpa [hi] using hd
    have hw' : Region.wanted o (yielded ops a.tmps) = true := by simpa [hi] using hw
    subst hd'
    exact wpAnyH_take hi hs hf hr hQ (.inl ⟨hw', hrun o hi⟩) hS h
theorem hSkip {i : Nat} {fuel : Nat} {listed : Array Bool} {a : Act} {w : World} (d : Option Tmp) (hd : (ops[i]?).map (·.dst) = some d)
    (hs : Region.noSelect ops = true) (hf : Region.free md ops listed i = true) (hr : (Region.ready md ops listed).contains i = true) (hw : (ops[i]?).map (fun o => Region.wanted o (yielded ops a.tmps)) = some false)
    (hQ : ∀ c a w, Q (.panic c) (a.put d undef) w → Q (.panic c) a w) (hS : S w)
    (h : wpAnyH P md ops Q S fuel (listed.setIfInBounds i true) (a.put d undef) w) : wpAnyH P md ops Q S (fuel + 1) listed a w := by
  cases hi : ops[i]? with
  | none => simp [hi] at hd
  | some o =>
    have hd' : o.dst = d := by simpa [hi] using hd
    have hw' : Region.wanted o (yielded ops a.tmps) = false := by simpa [hi] using hw
    subst hd'
    exact wpAnyH_take hi hs hf hr hQ (.inr ⟨hw', rfl⟩) hS h
theorem hCall {i : Nat} {f : FuncId} {args : Array Value} {v : Value} {T : World → Prop} {fuel : Nat} {listed : Array Bool} {a : Act} {w : World} (d : Option Tmp) (hd : (ops[i]?).map (·.dst) = some d)
    (hr : Region.ready md ops listed = [i]) (hw : (ops[i]?).map (fun o => Region.wanted o (yielded ops a.tmps)) = some true)
    (hrun : ∀ o, ops[i]? = some o → (execOp a.eval o).run P w = .ok (.enter f args) w) (hC : Calls P f args w fun e w' => e = .returned v ∧ T w')
    (hK : ∀ w', T w' → S w' ∧ wpAnyH P md ops Q S fuel (listed.setIfInBounds i true) (a.put d v) w') : wpAnyH P md ops Q S (fuel + 1) listed a w := by
  refine wpAnyH_all hr (by simp) ?_
  intro j hj
  obtain rfl : j = i := by simpa using hj
  cases hi : ops[j]? with
  | none => simp [hi] at hd
  | some o =>
    have hd' : o.dst = d := by simpa [hi] using hd
    have hw' : Region.wanted o (yielded ops a.tmps) = true := by simpa [hi] using hw
    subst hd'
    unfold wpOp
    simp only [hi, hw', if_true, Oper.wp, hrun o hi, Oper.upon]
    refine .inl (hC.mono fun e w'' he => ?_)
    obtain ⟨rfl, ht⟩ := he
    exact hK _ ht
end
end Go.Proofs.YtemohfhblpejmaaDoor

