/- Texts of ArgU, ClO, Cmp0, VtP. Own work of the verifier. -/
import Derived.Test.YtpigjapbhbdhbaaGreatDoorUqaw
import Derived.Test.YtpigjapbhbdhbaaGreatDoorUqak
import Derived.Test.YtpigjapbhbdhbaaGreatDoorUqas
import Derived.Test.YtpigjapbhbdhbaaGreatDoorUqad
import Derived.Test.YtpigjapbhbdhbaaGreatDoorUqae
import Derived.Test.YtpigjapbhbdhbaaGreatDoorUqaf
import Derived.Test.YtpigjapbhbdhbaaGreatDoorUqao
namespace Go.Proofs.YtpigjapbhbdhbaaGreatDoor
open Go Go.RowKit
set_option linter.unusedVariables false
set_option linter.unusedSimpArgs false
def ArgRowU (w : World) : List (Option Addr × Nat × Nat) → List Tr → Prop
  | [], [] => True
  | r :: rs, t :: ts => r.2.1 = 1 + t.2.cells.length ∧ r.2.1 ≤ r.2.2 ∧ r.2.2 ≤ 9223372036854775807 ∧ CIn w r.1 (t.1 :: t.2.cells) ∧ ArgRowU w rs ts
  | [], _ :: _ => False
  | _ :: _, [] => False
theorem ArgRowU.snoc {w : World} {r : Option Addr × Nat × Nat} {t : Tr} (h1 : r.2.1 = 1 + t.2.cells.length) (h2 : r.2.1 ≤ r.2.2) (h3 : r.2.2 ≤ 9223372036854775807) (h4 : CIn w r.1 (t.1 :: t.2.cells)) : ∀ {rs : List (Option Addr × Nat × Nat)} {ts : List Tr}, ArgRowU w rs ts → ArgRowU w (rs ++ [r]) (ts ++ [t])
  | [], [], _ => ⟨h1, h2, h3, h4, trivial⟩
  | _ :: _, _ :: _, h => ⟨h.1, h.2.1, h.2.2.1, h.2.2.2.1, ArgRowU.snoc h1 h2 h3 h4 h.2.2.2.2⟩
  | [], _ :: _, h => h.elim
  | _ :: _, [], h => h.elim
structure ArgStU (W0 w wr : World) (cs : List Cel) (k : Fo) (a : Nat) (D : List Tr) (G : Fo) (pt : Option Addr) (nt ct : Nat) (rs : List (Option Addr × Nat × Nat)) : Prop where
  gd : cs.drop a = G.cells
  gok : G.ok
  all : D ++ trs G = trs k
  cnt : nt = D.length
  row : wr.ownsRow w.heap.size 27 1 (.slice pt nt ct) nt (rs.map slV)
  arg : ArgRowU W0 rs D
  low : Below w.heap.size w wr
def ArgsOutU (W0 w : World) (k : Fo) (e : Ending) (w' : World) : Prop := ∃ q m mc rs, e = .returned (.slice q m mc) ∧ m = k.count ∧ w'.ownsRow w.heap.size 27 1 (.slice q m mc) m (rs.map slV) ∧ ArgRowU W0 rs (trs k) ∧ Below w.heap.size w w'
set_option maxRecDepth 100000 in
set_option maxHeartbeats 2000000 in
theorem l2argsU_any (c : Cel) (k : Fo) (p : Option Addr) (n cap : Nat) (W0 w : World) (hW : Below W0.heap.size W0 w) (h3 : c.1 = 3) (hok : (Fo.node c k .nil).ok) (hn : n = (c :: k.cells).length) (hnm : n ≤ 2000) (hcap : n ≤ cap) (hcm : cap ≤ 9223372036854775807) (hin0 : CIn W0 p (c :: k.cells)) :
    Calls Tryz.prog 27 #[.slice p n cap] w (ArgsOutU W0 w k) := by
  have hin := hin0.below hW
  obtain ⟨b, o, rfl, hcs⟩ := hin (by simp)
  obtain ⟨b0, o0, eb0, hcs0⟩ := hin0 (by simp)
  cases eb0
  have HK : Hid (∀ wr, Below w.heap.size w wr → wr.cell? ⟨b, o, none⟩ = some (.int .i64 3) ∧ wr.cell? ⟨b, o + 1, none⟩ = some (.int .i64 k.count)) := fun wr hb => by
    obtain ⟨p0, q0, d0, d1, _, _⟩ := (hcs 0 (by simp)).below hb
    simp only [List.getD_cons_zero, Nat.zero_mul, Nat.add_zero] at d0 d1
    rw [h3] at d0
    rw [hok.2.2.1 h3] at d1
    exact ⟨d0, d1⟩
  obtain ⟨d0, d1⟩ := HK.out w (Below.refl _ _)
  have hb20 : k.count ≤ 20 := by
    have h := hok.1
    rw [h3] at h
    have := cellB_comp h
    have := hok.2.2.1 h3
    omega
  have HST : Hid (ArgStU W0 w w (c :: k.cells) k 1 [] k none 0 0 []) := ⟨rfl, hok.2.2.2.2.1, rfl, rfl, World.ownsRow_nil _ _ _ _, trivial, Below.refl _ _⟩
  have HGL : Hid (1 + k.cells.length = n) := by show _ = _; rw [hn]; simp; omega
  obtain ⟨cs, ecs⟩ : ∃ cs, cs = c :: k.cells := ⟨_, rfl⟩
  rw [← ecs] at hcs hn HST hin hcs0
  have HX : Hid (∀ i, i < cs.length → CAt W0 b (o + i * 3) (cs.getD i Cel.none)) := hcs0
  have HIN : Hid (CIn w (some ⟨b, o, none⟩) cs) := hin
  have HN : Hid (n = cs.length) := hn
  obtain ⟨M, eM⟩ : ∃ M, M = k.count := ⟨_, rfl⟩
  have HM : Hid (M = k.count) := eM
  rw [← eM] at HK d1 hb20
  have hn0 : 0 < n := by have := HGL.out; omega
  have hn00 : ((n : Int) == 0) = false := by rw [beq_eq_false_iff_ne]; omega
  clear hcs hin hn ecs eM h3 hok hcs0 hin0
  go_enter Tryz.func27, Tryz.ntmps27
  go_wp2_with fail
  clear d0 d1
  go_loopw [3, 4, 5] (fun s3 s4 s5 wr => ∃ (a : Nat) (D : List Tr) (G : Fo) (pt : Option Addr) (nt ct : Nat) (rs : List (Option Addr × Nat × Nat)), a ≤ n ∧ nt ≤ M ∧ s3 = .slice pt nt ct ∧ s4 = .int .i64 a ∧ s5 = .int .i64 nt ∧ Hid (a + G.cells.length = n) ∧ Hid (ArgStU W0 w wr cs k a D G pt nt ct rs)) (fun _ _ i _ => M - (intOf i).toNat)
  case atStart => exact ⟨1, [], k, none, 0, 0, [], by omega, Nat.zero_le _, rfl, rfl, rfl, HGL.out, HST.out⟩
  case round =>
    obtain ⟨a, D, G, pt, nt, ct, rs, ha, hnt, rfl, rfl, rfl, HL, HS⟩ := hrel
    obtain ⟨d0, d1⟩ := HK.out wr HS.out.low
    by_cases hlt : nt < M
    · obtain ⟨c1, k1, r1, rfl⟩ : ∃ c k r, G = .node c k r := by
        cases G with
        | nil =>
          have h1 := HS.out.all
          have h2 := congrArg List.length h1
          have h3 := HS.out.cnt
          have h4 := HM.out
          simp [trs, trs_len] at h2
          omega
        | node c k r => exact ⟨c, k, r, rfl⟩
      have hgd : cs.drop a = c1 :: (k1.cells ++ r1.cells) := HS.out.gd
      have HO : Hid (Fo.node c1 k1 r1).ok := HS.out.gok
      have HT : Hid (Fo.node c1 k1 .nil).ok := ⟨HO.out.1, HO.out.2.1, HO.out.2.2.1, HO.out.2.2.2.1, HO.out.2.2.2.2.1, trivial⟩
      have HNX := l2next_any (some ⟨b, o, none⟩) n cap cs a c1 k1 r1.cells wr HN.out (by omega) hgd HT.out (HIN.out.below HS.out.low)
      have HPT : Hid (CIn W0 (some ⟨b, o + a * 3, none⟩) (c1 :: k1.cells)) := CIn.part HX.out a (by rw [hgd]; exact ⟨r1.cells, by simp⟩)
      obtain ⟨L, eL⟩ : ∃ L, L = 1 + k1.cells.length := ⟨_, rfl⟩
      have HEL : Hid (L = 1 + k1.cells.length) := eL
      have hnx : a + 1 + k1.cells.length = a + L := by omega
      have HDR : Hid (cs.drop (a + L) = r1.cells) := by
        show _ = _
        rw [← hnx, show a + 1 + k1.cells.length = (a + 1) + k1.cells.length by omega, ← List.drop_drop, (drop_cell hgd).2.2]; simp
      have hle : a + L ≤ n := by have := HL.out; simp [Fo.cells] at this; omega
      rw [hnx] at HNX
      have HLL : Hid (a + L + r1.cells.length = n) := by show _ = _; have := HL.out; simp [Fo.cells] at this; omega
      have hL1 : 1 ≤ L := by omega
      have hma : (0 : Int) < (cap : Int) - (a : Int) := by omega
      have hL2 : (a : Int) ≤ (a : Int) + (L : Int) := by omega
      have hL3 : (a : Int) + (L : Int) ≤ (n : Int) := by omega
      have hL4 : (a : Int) + (L : Int) ≤ (cap : Int) := by omega
      have hcap1 : ¬ cap = a := by omega
      have hcap2 : ¬ cap - a = 0 := by omega
      have hltI : (nt : Int) < (M : Int) := by omega
      clear hgd eL hnx
      go_wp2_with fail
      refine HNX.mono ?_
      rintro e w3 ⟨rfl, rfl⟩
      clear HNX
      go_wp2_with (at_builtin; refine app_sl _ rfl _ _ rfl w.heap.size pt nt ct rs (some ⟨b, o + a * 3, none⟩) L (cap - a) rfl HS.out.row rfl (by omega) HS.out.low.size ?_; intro g6 cap6 w6 hown6 hg6)
      have hbal := HS.out.low.alloc HS.out.low.size (.cells #[.slice (some ⟨b, o + a * 3, none⟩) L (cap - a)] 27)
      have HS6 : Hid (ArgStU W0 w w6 cs k (a + L) (D ++ [(c1, k1)]) r1 (some ⟨g6, 0, none⟩) (nt + 1) cap6 (rs ++ [(some ⟨b, o + a * 3, none⟩, L, cap - a)])) :=
        ⟨HDR.out, HO.out.2.2.2.2.2, by rw [← HS.out.all]; simp [trs], by rw [HS.out.cnt]; simp, hown6, ArgRowU.snoc HEL.out (by simp only; omega) (by simp only; omega) HPT.out HS.out.arg, hbal.grown hg6 hbal.size (fun k e => (HS.out.row.lt k e).1)⟩
      clear hown6 hg6 hbal
      go_roundw
      case rel => exact ⟨a + L, D ++ [(c1, k1)], r1, some ⟨g6, 0, none⟩, nt + 1, cap6, _, by omega, by omega, rfl, by go_num, by go_num, HLL.out, HS6⟩
      case measure => simp [intOf]; omega
    · obtain rfl : nt = M := by omega
      have HF : Hid (ArgRowU W0 rs (trs k)) := by
        show ArgRowU W0 rs (trs k)
        have h1 := HS.out.all
        have h2 := congrArg List.length h1
        have h3 := HS.out.cnt
        have h4 := HM.out
        simp [trs_len] at h2
        have h5 : trs G = [] := List.length_eq_zero_iff.1 (by rw [trs_len]; omega)
        rw [h5, List.append_nil] at h1
        rw [← h1]; exact HS.out.arg
      go_wp2_with fail
      go_ret
      exact ⟨pt, _, ct, rs, rfl, HM.out, HS.out.row, HF.out, HS.out.low⟩
end Go.Proofs.YtpigjapbhbdhbaaGreatDoor

namespace Go.Proofs.YtpigjapbhbdhbaaGreatDoor
open Go Go.RowKit
set_option linter.unusedVariables false
theorem one_sliceC (q : Option Addr) (m c : Nat) : ∀ u ∈ [Value.slice q m c], u.oneCell' = true := fun u hu => by simp at hu; rw [hu]; rfl
theorem ArgRowU.len {w : World} : ∀ {rs : List (Option Addr × Nat × Nat)} {ts : List Tr}, ArgRowU w rs ts → rs.length = ts.length
  | [], [], _ => rfl
  | _ :: _, _ :: _, h => by simp [ArgRowU.len h.2.2.2.2]
  | [], _ :: _, h => h.elim
  | _ :: _, [], h => h.elim
theorem ArgRowU.at {w : World} : ∀ {rs : List (Option Addr × Nat × Nat)} {ts : List Tr}, ArgRowU w rs ts → ∀ i (h : i < ts.length), ∃ r, rs[i]? = some r ∧ TI w r.1 r.2.1 r.2.2 ts[i]
  | [], [], _, i, h => by simp at h
  | r :: rs, t :: ts, h, 0, _ => ⟨r, rfl, show r.2.1 = t.2.cells.length + 1 by have := h.1; omega, h.2.1, h.2.2.1, h.2.2.2.1⟩
  | r :: rs, t :: ts, h, i + 1, hi => by
    obtain ⟨r', h1, h2⟩ := ArgRowU.at h.2.2.2.2 i (by simpa using hi)
    exact ⟨r', by simpa using h1, by simpa using h2⟩
  | [], _ :: _, h, _, _ => h.elim
  | _ :: _, [], h, _, _ => h.elim
theorem ArgRowU.cat {w : World} : ∀ {rs : List (Option Addr × Nat × Nat)} {ts : List Tr} {r : Option Addr × Nat × Nat} {t : Tr}, ArgRowU w rs ts → TI w r.1 r.2.1 r.2.2 t → ArgRowU w (rs ++ [r]) (ts ++ [t]) := fun h ht => ArgRowU.snoc (by have := ht.1; omega) ht.2.1 ht.2.2.1 ht.2.2.2 h
def GoOut (w0 w : World) (t : Tr) (e : Ending) (w' : World) : Prop :=
  ∃ p m mc rs, e = .returned (.tuple #[.slice p m mc, .bool ((goalsT t).all goodG)]) ∧ ((goalsT t).all goodG = true → m = (goalsT t).length ∧ w'.ownsRow w.heap.size 27 1 (.slice p m mc) m (rs.map slV) ∧ ArgRowU w0 rs (goalsT t)) ∧ Below w.heap.size w w'
theorem conj_size : ∀ (N : Nat) (c : Cel) (k : Fo), k.cells.length ≤ N → ∀ x ∈ conjL c k, x.2.cells.length ≤ k.cells.length
  | N, c, k, hN, x, hx => by
    by_cases hc : c = comma
    · match k with
      | .node c1 k1 (.node c2 k2 .nil) =>
        subst hc
        cases N with
        | zero => simp [Fo.cells] at hN
        | succ N =>
          rw [conjL_comma] at hx
          rcases List.mem_cons.1 hx with rfl | hx
          · simp [Fo.cells]; omega
          · have ih := conj_size N c2 k2 (by simp [Fo.cells] at hN; omega) x hx
            simp [Fo.cells]; omega
      | .nil => unfold conjL at hx; unfold splitC at hx; simp at hx; rw [hx]; simp
      | .node c1 k1 .nil => unfold conjL at hx; unfold splitC at hx; simp at hx; rw [hx]; simp
      | .node c1 k1 (.node c2 k2 (.node c3 k3 r)) => unfold conjL at hx; unfold splitC at hx; simp at hx; rw [hx]; simp
    · rw [conjL_other c k hc] at hx; simp at hx; rw [hx]; simp
theorem conj_ok : ∀ (N : Nat) (c : Cel) (k : Fo), k.cells.length ≤ N → (Fo.node c k .nil).ok → ∀ x ∈ conjL c k, (Fo.node x.1 x.2 .nil).ok
  | N, c, k, hN, hok, x, hx => by
    by_cases hc : c = comma
    · match k, hok with
      | .node c1 k1 (.node c2 k2 .nil), hok =>
        subst hc
        cases N with
        | zero => simp [Fo.cells] at hN
        | succ N =>
          have hk := hok.2.2.2.2.1
          rw [conjL_comma] at hx
          rcases List.mem_cons.1 hx with rfl | hx
          · exact ⟨hk.1, hk.2.1, hk.2.2.1, hk.2.2.2.1, hk.2.2.2.2.1, trivial⟩
          · exact conj_ok N c2 k2 (by simp [Fo.cells] at hN; omega) hk.2.2.2.2.2 x hx
      | .nil, hok => unfold conjL at hx; unfold splitC at hx; simp at hx; rw [hx]; exact hok
      | .node c1 k1 .nil, hok => unfold conjL at hx; unfold splitC at hx; simp at hx; rw [hx]; exact hok
      | .node c1 k1 (.node c2 k2 (.node c3 k3 r)), hok => unfold conjL at hx; unfold splitC at hx; simp at hx; rw [hx]; exact hok
    · rw [conjL_other c k hc] at hx; simp at hx; rw [hx]; exact hok
theorem TI.second {w : World} {q : Option Addr} {n c : Nat} {t : Tr} (h : TI w q n c t) (hok : (Fo.node t.1 t.2 .nil).ok) (h3 : t.1.1 = 3) (h1 : t.1.2.1 = 1) : 1 < n ∧ ∃ b o, q = some ⟨b, o, none⟩ ∧ w.cell? ⟨b, o + 3, none⟩ = some (.int .i64 (kid0 t).1.1) := by
  have hcnt : t.2.count = 1 := by have := hok.2.2.1 h3; omega
  obtain ⟨c1, k, e⟩ : ∃ c1 k, t = (c1, k) := ⟨_, _, rfl⟩
  subst e
  cases k with
  | nil => simp [Fo.count] at hcnt
  | node c2 k2 r =>
    have hl : 1 < n := by have := h.1; simp [Fo.cells] at this; omega
    obtain ⟨b, o, rfl, hc⟩ := h.2.2.2 (by simp)
    obtain ⟨q1, qc, d0, d1, d2, d3⟩ := hc 1 (by simp [Fo.cells])
    refine ⟨hl, b, o, rfl, ?_⟩
    simpa [Fo.cells, kid0, trs] using d0
set_option maxRecDepth 100000 in
set_option maxHeartbeats 2000000 in
theorem goals_any (t : Tr) (q : Option Addr) (n cap : Nat) (w : World) (hok : (Fo.node t.1 t.2 .nil).ok) (hn : n ≤ 2000) (hin : TI w q n cap t) :
    Calls Tryz.prog 29 #[.slice q n cap] w (GoOut w w t) := by
  have HI0 := isT_any hin ⟨#[116, 114, 117, 101]⟩ 0
  have e0 : isB (strOfNums t.1.2.2) ⟨#[116, 114, 117, 101]⟩ t.1.1 t.1.2.1 0 = decide (t.1 = trueC) := isB_zero hok.2.1 hok.1 [116, 114, 117, 101]
  rw [e0] at HI0
  by_cases ht : t.1 = trueC
  · rw [decide_eq_true ht] at HI0
    have eg : goalsT t = [] := by unfold goalsT; rw [if_pos ht]
    have HO : Hid (GoOut w w t (.returned (.tuple #[.slice none 0 0, .bool true])) w) := ⟨none, 0, 0, [], by rw [eg]; rfl, fun _ => ⟨by rw [eg]; rfl, World.ownsRow_nil _ _ _ _, by rw [eg]; trivial⟩, Below.refl _ _⟩
    clear hok hin ht eg e0
    go_enter Tryz.func29, Tryz.ntmps29
    go_wp2_with fail
    refine HI0.mono ?_
    rintro e w1 ⟨rfl, hw1⟩
    subst hw1
    go_wp2_with fail
    go_ret2
    exact HO.out
  · rw [decide_eq_false ht] at HI0
    have eg : goalsT t = conjL t.1 t.2 := by unfold goalsT; rw [if_neg ht]
    have HGO : Hid (goalsT t = conjL t.1 t.2) := eg
    have HOK0 : Hid (Fo.node t.1 t.2 .nil).ok := hok
    have HIN0 : Hid (TI w q n cap t) := hin
    have hn1 : t.2.cells.length + 1 = n := by have := hin.1; omega
    have hcn : n ≤ cap ∧ cap ≤ 9223372036854775807 := ⟨hin.2.1, hin.2.2.1⟩
    obtain ⟨i0, hi, hz0, hz1, hz2⟩ := info_parts infoCells
    clear hok hin ht eg e0
    go_enter Tryz.func29, Tryz.ntmps29
    go_wp2_with fail
    refine HI0.mono ?_
    rintro e w1 ⟨rfl, hw1⟩
    subst hw1
    clear HI0
    go_wp2_with fail
    go_loopw [0, 4] (fun s out wr => ∃ (its : List Tr) (t' : Tr) (q' : Option Addr) (n' cap' : Nat) (rs : List (Option Addr × Nat × Nat)) (p4 : Option Addr) (n4 c4 : Nat), n4 + n' ≤ 2000 ∧ (n' ≤ cap' ∧ cap' ≤ 9223372036854775807) ∧ s = .slice q' n' cap' ∧ out = .slice p4 n4 c4 ∧ Hid (splitC t.1 t.2 = (its ++ (splitC t'.1 t'.2).1, (splitC t'.1 t'.2).2) ∧ n4 = its.length) ∧
      Hid (TI w1 q' n' cap' t') ∧ Hid (Fo.node t'.1 t'.2 .nil).ok ∧ Hid (ArgRowU w1 rs its) ∧ Hid (wr.ownsRow w1.heap.size 27 1 (.slice p4 n4 c4) n4 (rs.map slV)) ∧ Hid (Below w1.heap.size w1 wr)) (fun _ out _ => 2001 - lenOf out)
    case atStart => exact ⟨[], t, q, n, cap, [], none, 0, 0, by omega, hcn, rfl, rfl, ⟨rfl, rfl⟩, HIN0, HOK0, trivial, World.ownsRow_nil _ _ _ _, Below.refl _ _⟩
    case round =>
      obtain ⟨its, t', q', n', cap', rs, p4, n4, c4, hn4, hcp, rfl, rfl, HF, HT, HO, HA, HR, HB⟩ := hrel
      have HIS := isT_any (HT.out.below HB.out) ⟨#[44]⟩ 2
      have e1 : isB (strOfNums t'.1.2.2) ⟨#[44]⟩ t'.1.1 t'.1.2.1 2 = decide (t'.1 = comma) := isB_pos HO.out.2.1 [44] 2 (by decide)
      rw [e1] at HIS
      clear e1
      have hBs : w1.heap.size ≤ wr.heap.size := HB.out.size
      by_cases hc : t'.1 = comma
      · rw [decide_eq_true hc] at HIS
        have h3 : t'.1.1 = 3 := by rw [hc]; rfl
        have hcnt : t'.2.count = 2 := by
          have h9 := HO.out.2.2.1 h3
          rw [hc] at h9
          have e2 : (comma.2.1 : Int) = 2 := rfl
          omega
        have HAR := l2argsU_any t'.1 t'.2 q' n' cap' w1 wr HB.out h3 HO.out (by have := HT.out.1; simp; omega) (by omega) hcp.1 hcp.2 HT.out.2.2.2
        unfold ArgsOutU at HAR
        obtain ⟨c1, k1, c2, k2, ek⟩ := two_of hcnt
        have etr : trs t'.2 = [(c1, k1), (c2, k2)] := by rw [ek]; rfl
        rw [etr, hcnt] at HAR
        have HNX : Hid (splitC t.1 t.2 = ((its ++ [(c1, k1)]) ++ (splitC c2 k2).1, (splitC c2 k2).2) ∧ (its ++ [(c1, k1)]).length = n4 + 1 ∧ (Fo.node c2 k2 .nil).ok ∧ k1.cells.length + k2.cells.length + 3 ≤ n') := by
          have hk := HO.out.2.2.2.2.1
          rw [ek] at hk
          refine ⟨?_, by simp [HF.out.2], hk.2.2.2.2.2, ?_⟩
          · rw [HF.out.1, hc, ek, splitC_comma]; simp
          · have := HT.out.1; rw [ek] at this; simp [Fo.cells] at this; omega
        have HRW : Hid (wr.ownsRow w1.heap.size 27 1 (.slice p4 n4 c4) n4 (rs.map slV)) := HR.out
        clear hc h3 hcnt ek etr HT HO HR HF
        go_wp2_with fail
        refine HIS.mono ?_
        rintro e w2 ⟨rfl, hw2⟩
        subst hw2
        go_wp2_with fail
        refine HAR.mono ?_
        rintro e w3 ⟨q5, m5, mc5, rs5, rfl, hm5, hrow5, harg5, hb5⟩
        obtain ⟨r1, r2, e5⟩ : ∃ r1 r2, rs5 = [r1, r2] := by
          have hl := ArgRowU.len harg5
          match rs5, hl with
          | [r1, r2], _ => exact ⟨r1, r2, rfl⟩
        subst e5
        subst hm5
        obtain ⟨g5, cap5, hv5, hbg5, hgl5⟩ := World.ownsRow.form hrow5 (by decide)
        obtain ⟨rfl, rfl⟩ : q5 = some ⟨g5, 0, none⟩ ∧ mc5 = cap5 := by injection hv5 with h1 _ h2; exact ⟨h1, h2⟩
        have x0 : w3.cell? ⟨g5, 0, none⟩ = some (.slice r1.1 r1.2.1 r1.2.2) := hrow5.cellAt 0 (by decide)
        have x1 : w3.cell? ⟨g5, 1, none⟩ = some (.slice r2.1 r2.2.1 r2.2.2) := hrow5.cellAt 1 (by decide)
        obtain ⟨a1, a2, a3, a4, a5, a6, a7, a8, _⟩ := harg5
        have HT1 : Hid (TI w1 r1.1 r1.2.1 r1.2.2 (c1, k1)) := ⟨by show r1.2.1 = k1.cells.length + 1; simp only at a1; omega, a2, a3, a4⟩
        have HT2 : Hid (TI w1 r2.1 r2.2.1 r2.2.2 (c2, k2)) := ⟨by show r2.2.1 = k2.cells.length + 1; simp only at a5; omega, a6, a7, a8⟩
        have HR3 : Hid (w3.ownsRow w1.heap.size 27 1 (.slice p4 n4 c4) n4 (rs.map slV)) := row_below HRW.out hb5
        have HB3 : Hid (Below w1.heap.size w1 w3) := Below.on HB.out hb5
        have hBs3 : w1.heap.size ≤ w3.heap.size := HB3.out.size
        have HG5 : Hid (∀ k, Value.ownBlock (.slice p4 n4 c4) = some k → k ≠ g5) := fun k hk => by have := (HRW.out.lt k hk).2; omega
        have hr1 : r1.2.1 ≤ 2000 ∧ r1.2.2 ≤ 9223372036854775807 := ⟨by have h9 := HNX.out.2.2.2; have h8 : r1.2.1 = k1.cells.length + 1 := HT1.out.1; omega, a3⟩
        clear a1 a2 a3 a4 a5 a6 a7 a8 hrow5 hv5 hbg5 hb5 HAR HIS
        obtain ⟨rp1, rn1, rc1⟩ := r1
        obtain ⟨rp2, rn2, rc2⟩ := r2
        simp only at x0 x1 HT1 HT2 hr1
        go_wp2_with (at_builtin; refine wpList_append_lies _ rfl _ _ 38 rfl w1.heap.size 27 i0 (.slice none 0 0) 1 24 Tryz.underlying38 hi hz0 hz1 hz2 rfl (by decide) (.slice p4 n4 c4) n4 (rs.map slV) rfl (HR3.out.alloc _) ⟨w3.heap.size, 0, none⟩ 1 1 [.slice rp1 rn1 rc1] rfl rfl (cell_one_new _ _ _) (one_sliceC _ _ _) (by decide) (by unfold maxLen; omega) (by omega) (by simp; omega) _ rfl ?_; intro g6 cap6 w6 hown6 hgrow6 hat6 hlt6; have y1 : w6.cell? ⟨g5, 1, none⟩ = some (.slice rp2 rn2 rc2) := (World.cell?_of_block (hgrow6.block g5 (by simp; omega) (fun e => HG5.out g5 e.symm rfl))).trans (Lib.cell?_alloc_marked _ x1))
        have HO6 : Hid (w6.ownsRow w1.heap.size 27 1 (.slice (some ⟨g6, 0, none⟩) (n4 + 1) cap6) (n4 + 1) ((rs ++ [(rp1, rn1, rc1)]).map slV)) := by
          show World.ownsRow _ _ _ _ _ _ _
          rw [List.map_append]; exact hown6
        have HB6 : Hid (Below w1.heap.size w1 w6) := (HB3.out.alloc hBs3 _).trans ((Below.refl _ _).grown hgrow6 (by simp; omega) (fun k hk => (HR3.out.lt k hk).1))
        clear hown6 hgrow6 hat6 x0 x1 y1
        go_wp2_with fail
        go_roundw
        case rel => exact ⟨its ++ [(c1, k1)], (c2, k2), rp2, rn2, rc2, rs ++ [(rp1, rn1, rc1)], _, n4 + 1, cap6, by have h8 : rn2 = k2.cells.length + 1 := HT2.out.1; have := HNX.out.2.2.2; omega, ⟨HT2.out.2.1, HT2.out.2.2.1⟩, rfl, rfl, ⟨HNX.out.1, HNX.out.2.1.symm⟩, HT2, HNX.out.2.2.1, ArgRowU.cat HA.out HT1.out, HO6, HB6⟩
        case measure => simp [lenOf]; omega
      · rw [decide_eq_false hc] at HIS
        have HCJ : Hid (conjL t.1 t.2 = its ++ [t'] ∧ n4 = its.length) := by
          have h1 := HF.out.1
          rw [splitC_other t'.1 t'.2 hc, List.append_nil] at h1
          exact ⟨by unfold conjL; rw [h1], HF.out.2⟩
        have HRW : Hid (wr.ownsRow w1.heap.size 27 1 (.slice p4 n4 c4) n4 (rs.map slV)) := HR.out
        have hn4' : n4 ≤ 2000 := by omega
        clear hc HF HR
        go_wp2_with (first | (go_at_call 24; refine HIS.mono ?_; rintro e w2 ⟨rfl, hw2⟩; rw [hw2]) | (at_builtin; refine wpList_append_lies _ rfl _ _ 38 rfl w1.heap.size 27 i0 (.slice none 0 0) 1 24 Tryz.underlying38 hi hz0 hz1 hz2 rfl (by decide) (.slice p4 n4 c4) n4 (rs.map slV) rfl (HRW.out.alloc _) ⟨wr.heap.size, 0, none⟩ 1 1 [.slice q' n' cap'] rfl rfl (cell_one_new _ _ _) (one_sliceC _ _ _) (by decide) (by unfold maxLen; omega) (by omega) (by simp; omega) _ rfl ?_; intro g6 cap6 w6 hown6 hgrow6 hat6 hlt6))
        have HO6 : Hid (w6.ownsRow w1.heap.size 27 1 (.slice (some ⟨g6, 0, none⟩) (n4 + 1) cap6) (n4 + 1) ((rs ++ [(q', n', cap')]).map slV)) := by
          show World.ownsRow _ _ _ _ _ _ _
          rw [List.map_append]; exact hown6
        have HB6 : Hid (Below w1.heap.size w1 w6) := (HB.out.alloc hBs _).trans ((Below.refl _ _).grown hgrow6 (by simp; omega) (fun k hk => (HRW.out.lt k hk).1))
        obtain ⟨gs, egs⟩ : ∃ gs, gs = its ++ [t'] := ⟨_, rfl⟩
        obtain ⟨rs6, ers6⟩ : ∃ rs6, rs6 = rs ++ [(q', n', cap')] := ⟨_, rfl⟩
        have HA6 : Hid (ArgRowU w1 rs6 gs) := by show ArgRowU _ _ _; rw [egs, ers6]; exact ArgRowU.cat HA.out HT.out
        have HGS : Hid (goalsT t = gs ∧ gs.length = n4 + 1) := ⟨by rw [HGO.out, HCJ.out.1, egs], by rw [egs, List.length_append, HCJ.out.2]; rfl⟩
        have HGK : Hid (∀ x ∈ gs, (Fo.node x.1 x.2 .nil).ok ∧ x.2.cells.length ≤ 2000) := fun x hx => by
          rw [egs, ← HCJ.out.1] at hx
          refine ⟨conj_ok _ t.1 t.2 (Nat.le_refl _) HOK0.out x hx, ?_⟩
          have := conj_size _ t.1 t.2 (Nat.le_refl _) x hx
          omega
        rw [← ers6] at HO6
        clear hown6 hgrow6 hat6 HIS HA HT HO HCJ egs ers6 HRW hcp
        go_wp2_with fail
        go_loop [6] (fun i => ∃ j : Nat, j ≤ n4 + 1 ∧ i = .int .i64 j ∧ Hid ((gs.take j).all goodG = true)) (fun i => n4 + 1 - (intOf i).toNat)
        case atStart => exact ⟨0, Nat.zero_le _, rfl, rfl⟩
        case round =>
          obtain ⟨j, hj, rfl, HAL⟩ := hrel
          by_cases hlt : j < n4 + 1
          · have hjg : j < gs.length := by rw [HGS.out.2]; exact hlt
            obtain ⟨r, hr, hti⟩ := ArgRowU.at HA6.out j hjg
            have hrl := ArgRowU.len HA6.out
            have d0 := HO6.out.cellAt j (by omega)
            rw [List.getElem?_map, hr] at d0
            have d0' : w6.cell? ⟨g6, j, none⟩ = some (.slice r.1 r.2.1 r.2.2) := d0
            obtain ⟨rp, rn, rc⟩ := r
            simp only at d0' hti
            have hti6 := hti.below HB6.out
            have hmem := HGK.out gs[j] (List.getElem_mem hjg)
            have hrn : rn ≤ 2001 ∧ rc ≤ 9223372036854775807 := ⟨by have := hti.1; omega, hti.2.2.1⟩
            have HCA := callable_any hti6 (by omega)
            have HNOT : Hid (goodG gs[j] = false → GoOut w1 w1 t (.returned (.tuple #[.slice none 0 0, .bool false])) w6) := fun hf => by
              have ha : gs.all goodG = false := by
                cases hh : gs.all goodG with
                | false => rfl
                | true =>
                  have := List.all_eq_true.1 hh gs[j] (List.getElem_mem hjg)
                  rw [hf] at this
                  exact absurd this (by decide)
              refine ⟨none, 0, 0, [], by rw [HGS.out.1, ha], fun h => ?_, HB6.out⟩
              rw [HGS.out.1, ha] at h
              exact absurd h (by decide)
            have HNXT : Hid (goodG gs[j] = true → (gs.take (j + 1)).all goodG = true) := fun hg => by
              rw [List.take_succ_eq_append_getElem hjg, List.all_append, HAL.out]
              simp [hg]
            have eG : goodG gs[j] = (calC gs[j].1 && (!conC gs[j].1 && (!spcC gs[j].1 || decide ((kid0 gs[j]).1.1 = 0)))) := rfl
            cases hcal : calC gs[j].1 with
            | false =>
              have HO9 : Hid _ := HNOT.out (by rw [eG, hcal]; rfl)
              rw [hcal] at HCA
              clear HNOT HNXT eG hcal hti hti6 hmem d0 hr hrl HAL
              go_wp2_with fail
              refine HCA.mono ?_
              rintro e w7 ⟨rfl, hw7⟩
              rw [hw7]
              go_wp2_with fail
              go_ret2
              exact HO9.out
            | true =>
              rw [hcal] at HCA
              have HCO := conM_any hti6 hmem.1 hcal
              have HSP := special_any hti6 hmem.1.2.1
              cases hcon : conC gs[j].1 with
              | true =>
                have HO9 : Hid _ := HNOT.out (by rw [eG, hcal, hcon]; rfl)
                rw [hcon] at HCO
                clear HNOT HNXT eG hcal hti hti6 hmem d0 hr hrl HAL hcon HSP
                go_wp2_with fail
                refine HCA.mono ?_
                rintro e w7 ⟨rfl, hw7⟩
                rw [hw7]
                go_wp2_with fail
                refine HCO.mono ?_
                rintro e w8 ⟨rfl, hw8⟩
                rw [hw8]
                go_wp2_with fail
                go_ret2
                exact HO9.out
              | false =>
                rw [hcon] at HCO
                cases hsp : spcC gs[j].1 with
                | false =>
                  rw [hsp] at HSP
                  have HN9 : Hid _ := HNXT.out (by rw [eG, hcal, hcon, hsp]; rfl)
                  clear HNOT HNXT eG hcal hti hti6 hmem d0 hr hrl HAL hcon hsp
                  go_wp2_with fail
                  refine HCA.mono ?_
                  rintro e w7 ⟨rfl, hw7⟩
                  rw [hw7]
                  go_wp2_with fail
                  refine HCO.mono ?_
                  rintro e w8 ⟨rfl, hw8⟩
                  rw [hw8]
                  go_wp2_with fail
                  refine HSP.mono ?_
                  rintro e w9 ⟨rfl, hw9⟩
                  rw [hw9]
                  go_wp2_with fail
                  go_round
                  case rel => exact ⟨j + 1, by omega, by go_num, HN9⟩
                  case measure => simp [intOf]; omega
                | true =>
                  have h13 : gs[j].1.1 = 3 ∧ gs[j].1.2.1 = 1 := by
                    unfold spcC at hsp
                    rw [decide_eq_true_eq] at hsp
                    exact ⟨hsp.1, hsp.2.1⟩
                  obtain ⟨h1n, b9, o9, eq9, d9⟩ := TI.second hti6 hmem.1 h13.1 h13.2
                  have hkb : 0 ≤ (kid0 gs[j]).1.1 ∧ (kid0 gs[j]).1.1 ≤ 3 ∨ True := .inr trivial
                  rw [hsp] at HSP
                  subst eq9
                  cases hk0 : decide ((kid0 gs[j]).1.1 = 0) with
                  | true =>
                    have HN9 : Hid _ := HNXT.out (by rw [eG, hcal, hcon, hsp, hk0]; rfl)
                    have hz : (kid0 gs[j]).1.1 = 0 := of_decide_eq_true hk0
                    rw [hz] at d9
                    clear HNOT HNXT eG hcal hti hti6 hmem d0 hr hrl HAL hcon hsp hk0 hz hkb h13
                    go_wp2_with fail
                    refine HCA.mono ?_
                    rintro e w7 ⟨rfl, hw7⟩
                    rw [hw7]
                    go_wp2_with fail
                    refine HCO.mono ?_
                    rintro e w8 ⟨rfl, hw8⟩
                    rw [hw8]
                    go_wp2_with fail
                    refine HSP.mono ?_
                    rintro e w9 ⟨rfl, hw9⟩
                    rw [hw9]
                    go_wp2_with fail
                    go_round
                    case rel => exact ⟨j + 1, by omega, by go_num, HN9⟩
                    case measure => simp [intOf]; omega
                  | false =>
                    have HO9 : Hid _ := HNOT.out (by rw [eG, hcal, hcon, hsp, hk0]; rfl)
                    have hz : ¬ (kid0 gs[j]).1.1 = 0 := of_decide_eq_false hk0
                    generalize (kid0 gs[j]).1.1 = kx at d9 hz
                    clear HNOT HNXT eG hcal hti hti6 hmem d0 hr hrl HAL hcon hsp hk0 hkb h13
                    go_wp2_with fail
                    refine HCA.mono ?_
                    rintro e w7 ⟨rfl, hw7⟩
                    rw [hw7]
                    go_wp2_with fail
                    refine HCO.mono ?_
                    rintro e w8 ⟨rfl, hw8⟩
                    rw [hw8]
                    go_wp2_with fail
                    refine HSP.mono ?_
                    rintro e w9 ⟨rfl, hw9⟩
                    rw [hw9]
                    go_wp2_with fail
                    go_ret2
                    exact HO9.out
          · obtain rfl : j = n4 + 1 := by omega
            have HOF : Hid (GoOut w1 w1 t (.returned (.tuple #[.slice (some ⟨g6, 0, none⟩) (n4 + 1) cap6, .bool true])) w6) := by
              have e1 : gs.take (n4 + 1) = gs := by rw [← HGS.out.2]; exact List.take_length
              have h1 := HAL.out
              rw [e1] at h1
              exact ⟨_, _, _, rs6, by rw [HGS.out.1, h1], fun _ => ⟨by rw [HGS.out.1]; exact HGS.out.2.symm, HO6.out, by rw [HGS.out.1]; exact HA6.out⟩, HB6.out⟩
            clear HAL
            go_wp2_with fail
            go_ret2
            exact HOF.out
end Go.Proofs.YtpigjapbhbdhbaaGreatDoor

namespace Go.Proofs.YtpigjapbhbdhbaaGreatDoor
open Go Go.RowKit
set_option linter.unusedVariables false
def sgn (b : Bool) : Int := if b then -1 else 1
theorem sgn_ne (b : Bool) : sgn b ≠ 0 := by cases b <;> decide
def cellCmp (x y : Cel) : Int := if x.1 ≠ y.1 then sgn (decide (x.1 < y.1)) else if x.2.1 ≠ y.2.1 then sgn (decide (x.2.1 < y.2.1)) else if (strOfNums x.2.2).toList == (strOfNums y.2.2).toList then 0 else sgn (Op.bytesLess (strOfNums x.2.2).toList (strOfNums y.2.2).toList)
def cmpC : List Cel → List Cel → Int
  | x :: xs, y :: ys => if cellCmp x y ≠ 0 then cellCmp x y else cmpC xs ys
  | _, _ => 0
theorem cmpC_drop (xs ys : List Cel) (k : Nat) (h1 : k < xs.length) (h2 : k < ys.length) : cmpC (xs.drop k) (ys.drop k) = if cellCmp (xs.getD k Cel.none) (ys.getD k Cel.none) ≠ 0 then cellCmp (xs.getD k Cel.none) (ys.getD k Cel.none) else cmpC (xs.drop (k + 1)) (ys.drop (k + 1)) := by
  rw [List.drop_eq_getElem_cons h1, List.drop_eq_getElem_cons h2, cmpC, List.getD, List.getD, List.getElem?_eq_getElem h1, List.getElem?_eq_getElem h2]; rfl
theorem cmpC_nil (xs ys : List Cel) (k : Nat) (h : xs.length ≤ k ∨ ys.length ≤ k) : cmpC (xs.drop k) (ys.drop k) = 0 := by
  rcases h with h | h
  · rw [List.drop_eq_nil_of_le h, cmpC]; simp
  · rw [List.drop_eq_nil_of_le h]
    cases xs.drop k <;> simp [cmpC]
theorem l2sign_any (b : Bool) (w : World) : Calls Tryz.prog 142 #[.bool b] w fun e w' => e = .returned (.int .i64 (sgn b)) ∧ w' = w := by
  cases b
  · go_enter Tryz.func142, Tryz.ntmps142
    go_wp2_with fail
    go_ret
    exact ⟨rfl, rfl⟩
  · go_enter Tryz.func142, Tryz.ntmps142
    go_wp2_with fail
    go_ret
    exact ⟨rfl, rfl⟩
set_option maxRecDepth 100000 in
set_option maxHeartbeats 1000000 in
theorem l2compare_any (xs ys : List Cel) (p q : Option Addr) (n m c1 c2 : Nat) (w : World) (hn : n = xs.length) (hm : m = ys.length) (hnb : n ≤ 1000000000) (hmb : m ≤ 1000000000) (hx : CIn w p xs) (hy : CIn w q ys) :
    Calls Tryz.prog 88 #[.slice p n c1, .slice q m c2] w fun e w' => e = .returned (.int .i64 (cmpC xs ys)) ∧ Below w.heap.size w w' := by
  have HX : Hid (CIn w p xs) := hx
  have HY : Hid (CIn w q ys) := hy
  have HL : Hid (n = xs.length ∧ m = ys.length) := ⟨hn, hm⟩
  clear hx hy hn hm
  go_enter Tryz.func88, Tryz.ntmps88
  go_wp2_with fail
  go_loopw [5] (fun i wr => ∃ k : Nat, k ≤ n ∧ i = .int .i64 k ∧ Hid (cmpC xs ys = cmpC (xs.drop k) (ys.drop k)) ∧ Hid (Below w.heap.size w wr)) (fun i _ => n - (intOf i).toNat)
  case atStart => exact ⟨0, Nat.zero_le _, rfl, rfl, Below.refl _ _⟩
  case round =>
    obtain ⟨k, hk, rfl, HC, HB⟩ := hrel
    by_cases h1 : k < n
    · by_cases h2 : k < m
      · have hkx : k < xs.length := by rw [← HL.out.1]; exact h1
        have hky : k < ys.length := by rw [← HL.out.2]; exact h2
        have HD : Hid _ := cmpC_drop xs ys k hkx hky
        obtain ⟨b, o, rfl, hcx⟩ := (HX.out.below HB.out) (by omega)
        obtain ⟨b', o', rfl, hcy⟩ := (HY.out.below HB.out) (by omega)
        obtain ⟨px, qx, x0, x1, x2, x3⟩ := hcx k hkx
        obtain ⟨py, qy, y0, y1, y2, y3⟩ := hcy k hky
        obtain ⟨X, eX⟩ : ∃ X, X = xs.getD k Cel.none := ⟨_, rfl⟩
        obtain ⟨Y, eY⟩ : ∃ Y, Y = ys.getD k Cel.none := ⟨_, rfl⟩
        rw [← eX, ← eY] at HD
        rw [← eX] at x0 x1 x2 x3
        rw [← eY] at y0 y1 y2 y3
        obtain ⟨lx, elx⟩ : ∃ l, l = X.2.2.length := ⟨_, rfl⟩
        obtain ⟨ly, ely⟩ : ∃ l, l = Y.2.2.length := ⟨_, rfl⟩
        rw [← elx] at x2
        rw [← ely] at y2
        obtain ⟨sx, esx⟩ : ∃ s, s = strOfNums X.2.2 := ⟨_, rfl⟩
        obtain ⟨sy, esy⟩ : ∃ s, s = strOfNums Y.2.2 := ⟨_, rfl⟩
        have cvx : ∀ W, Below wr.heap.size wr W → (convert 35 9 (.slice px lx qx)).run Tryz.prog W = .ok (.string sx) W := fun W hW => by rw [esx]; exact conv_str (x3.below hW) lx qx elx 9 Tryz.underlying9
        have cvy : ∀ W, Below wr.heap.size wr W → (convert 35 9 (.slice py ly qy)).run Tryz.prog W = .ok (.string sy) W := fun W hW => by rw [esy]; exact conv_str (y3.below hW) ly qy ely 9 Tryz.underlying9
        obtain ⟨a1, ea1⟩ : ∃ a, a = X.1 := ⟨_, rfl⟩
        obtain ⟨a2, ea2⟩ : ∃ a, a = X.2.1 := ⟨_, rfl⟩
        obtain ⟨d1, ed1⟩ : ∃ a, a = Y.1 := ⟨_, rfl⟩
        obtain ⟨d2, ed2⟩ : ∃ a, a = Y.2.1 := ⟨_, rfl⟩
        have HCC : Hid (cellCmp X Y = if a1 ≠ d1 then sgn (decide (a1 < d1)) else if a2 ≠ d2 then sgn (decide (a2 < d2)) else if sx.toList == sy.toList then 0 else sgn (Op.bytesLess sx.toList sy.toList)) := by
          show _ = _
          rw [ea1, ea2, ed1, ed2, esx, esy]; rfl
        rw [← ea1] at x0
        rw [← ea2] at x1
        rw [← ed1] at y0
        rw [← ed2] at y1
        clear hcx hcy x3 y3 eX eY elx ely esx esy ea1 ea2 ed1 ed2
        have hW2 : Below wr.heap.size wr ((wr.alloc (Obj.cells #[.int .i64 a1, .int .i64 a2, .slice px lx qx] 42)).alloc (Obj.cells #[.int .i64 d1, .int .i64 d2, .slice py ly qy] 42)) := ((Below.refl _ wr).alloc (Nat.le_refl _) _).alloc (by simp) _
        have cx := cvx _ hW2
        have cy := cvy _ hW2
        have HB2 : Hid (Below w.heap.size w ((wr.alloc (Obj.cells #[.int .i64 a1, .int .i64 a2, .slice px lx qx] 42)).alloc (Obj.cells #[.int .i64 d1, .int .i64 d2, .slice py ly qy] 42))) := Below.on HB.out hW2
        clear cvx cvy hW2
        have hW1 : Below wr.heap.size wr (wr.alloc (Obj.cells #[.int .i64 a1, .int .i64 a2, .slice px lx qx] 42)) := (Below.refl _ wr).alloc (Nat.le_refl _) _
        have z0 := (hW1.cell (World.block_lt_of_cell? _ _ y0)).trans y0
        have z1 := (hW1.cell (World.block_lt_of_cell? _ _ y1)).trans y1
        have z2 := (hW1.cell (World.block_lt_of_cell? _ _ y2)).trans y2
        clear hW1 y0 y1 y2
        by_cases e1 : a1 = d1
        · subst e1
          by_cases e2 : a2 = d2
          · subst e2
            cases e3 : (sx.toList == sy.toList) with
            | true =>
              have HZ : Hid (cellCmp X Y = 0) := by show _ = _; rw [HCC.out, if_neg (by simp), if_neg (by simp), if_pos e3]
              go_wp2_with fail
              go_roundw
              case rel => exact ⟨k + 1, by omega, by go_num, by show _ = _; rw [HC.out, HD.out, if_neg (by rw [HZ.out]; simp)], HB2⟩
              case measure => simp [intOf]; omega
            | false =>
              have HZ : Hid (cellCmp X Y = sgn (Op.bytesLess sx.toList sy.toList)) := by show _ = _; rw [HCC.out, if_neg (by simp), if_neg (by simp), if_neg (by rw [e3]; simp)]
              go_wp2_with fail
              refine (l2sign_any _ _).mono ?_
              rintro e w9 ⟨rfl, rfl⟩
              go_wp2_with fail
              go_ret
              exact ⟨ret_int (by rw [HC.out, HD.out, if_pos (by rw [HZ.out]; exact sgn_ne _), HZ.out]), HB2.out⟩
          · have HZ : Hid (cellCmp X Y = sgn (decide (a2 < d2))) := by show _ = _; rw [HCC.out, if_neg (by simp), if_pos e2]
            go_wp2_with fail
            refine (l2sign_any _ _).mono ?_
            rintro e w9 ⟨rfl, rfl⟩
            go_wp2_with fail
            go_ret
            exact ⟨ret_int (by rw [HC.out, HD.out, if_pos (by rw [HZ.out]; exact sgn_ne _), HZ.out]), HB2.out⟩
        · have HZ : Hid (cellCmp X Y = sgn (decide (a1 < d1))) := by show _ = _; rw [HCC.out, if_pos e1]
          go_wp2_with fail
          refine (l2sign_any _ _).mono ?_
          rintro e w9 ⟨rfl, rfl⟩
          go_wp2_with fail
          go_ret
          exact ⟨ret_int (by rw [HC.out, HD.out, if_pos (by rw [HZ.out]; exact sgn_ne _), HZ.out]), HB2.out⟩
      · have HF : Hid (cmpC xs ys = 0) := by show _ = _; rw [HC.out]; exact cmpC_nil _ _ _ (.inr (by rw [← HL.out.2]; omega))
        go_wp2_with fail
        go_ret
        exact ⟨ret_int HF.out.symm, HB.out⟩
    · have HF : Hid (cmpC xs ys = 0) := by show _ = _; rw [HC.out]; exact cmpC_nil _ _ _ (.inl (by rw [← HL.out.1]; omega))
      go_wp2_with fail
      go_ret
      exact ⟨ret_int HF.out.symm, HB.out⟩
end Go.Proofs.YtpigjapbhbdhbaaGreatDoor

namespace Go.Proofs.YtpigjapbhbdhbaaGreatDoor
open Go Go.RowKit
set_option linter.unusedVariables false
theorem cellCmp_zero {x y : Cel} (hx : Byte x.2.2) (hy : Byte y.2.2) : cellCmp x y = 0 ↔ x = y := by
  obtain ⟨a, b, c⟩ := x
  obtain ⟨a', b', c'⟩ := y
  simp only at hx hy
  simp only [cellCmp]
  by_cases h1 : a = a'
  · by_cases h2 : b = b'
    · subst h1 h2
      have hs := str_inj hx hy
      rw [beq_toListBytes] at hs
      simp only [ne_eq, not_true_eq_false, if_false, hs]
      by_cases h3 : c = c'
      · simp [h3]
      · simp [h3, sgn_ne]
    · simp [h1, h2, sgn_ne]
  · simp [h1, sgn_ne]
theorem cmpC_zero : ∀ (xs ys : List Cel), xs.length = ys.length → (∀ x ∈ xs, Byte x.2.2) → (∀ y ∈ ys, Byte y.2.2) → (cmpC xs ys = 0 ↔ xs = ys)
  | [], [], _, _, _ => by simp [cmpC]
  | [], _ :: _, h, _, _ => by simp at h
  | _ :: _, [], h, _, _ => by simp at h
  | x :: xs, y :: ys, h, hx, hy => by
    have h0 := cellCmp_zero (hx x (by simp)) (hy y (by simp))
    have ih := cmpC_zero xs ys (by simpa using h) (fun z hz => hx z (by simp [hz])) (fun z hz => hy z (by simp [hz]))
    simp only [cmpC]
    by_cases hc : cellCmp x y = 0
    · rw [if_neg (by simp [hc]), ih, h0.1 hc]; simp
    · rw [if_pos hc]
      constructor
      · intro e; exact absurd e hc
      · intro e; injection e with e1 e2; exact absurd (h0.2 e1) hc
theorem byte_mem {cs : List Cel} (hb : ∀ i, i < cs.length → Byte (cs.getD i Cel.none).2.2) : ∀ x ∈ cs, Byte x.2.2 := fun x hx => by
  obtain ⟨i, hi, e⟩ := List.getElem_of_mem hx
  have := hb i hi
  rwa [List.getD, List.getElem?_eq_getElem hi, Option.getD_some, e] at this
theorem ren_byte {cs : List Cel} (hb : ∀ x ∈ cs, Byte x.2.2) : ∀ y ∈ renCells cs, Byte y.2.2 := fun y hy => by
  obtain ⟨x, hx, rfl⟩ := List.mem_map.1 hy
  rw [renI_text]; exact hb x hx
theorem ren_len (cs : List Cel) : (renCells cs).length = cs.length := by simp [renCells]
end Go.Proofs.YtpigjapbhbdhbaaGreatDoor

