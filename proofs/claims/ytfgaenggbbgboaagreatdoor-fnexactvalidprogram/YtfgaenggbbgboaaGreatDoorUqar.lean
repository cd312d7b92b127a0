/- Texts of CellG, ErrIs, NbB, NbI, VpE. Own work of the verifier. -/
import Derived.Test.YtfgaenggbbgboaaGreatDoorUqag
import Derived.Test.YtfgaenggbbgboaaGreatDoorUqaa
import Derived.LaidEql
import Derived.Stop.Asserts
import Derived.RowKitTokens
import Derived.Test.YtfgaenggbbgboaaGreatDoorUqaq
import Derived.Test.YtfgaenggbbgboaaGreatDoorUqap
namespace Go.Proofs.YtfgaenggbbgboaaGreatDoor
open Go Go.RowKit Go.Maps
set_option linter.unusedVariables false
set_option maxRecDepth 100000 in
set_option maxHeartbeats 1000000 in
theorem cellsOf_any (c : Cel) (k : Fo) (v : Value) (Bt : Nat) (w : World) (hok : (Fo.node c k .nil).ok) (hfo : FoIn w Bt (.node c k .nil) [v]) (hl : k.cells.length ≤ 10000) :
    Calls Tryz.prog 143 #[v] w fun e w' => ∃ p n cp, e = .returned (.slice p n cp) ∧ OwnC w' w.heap.size p n cp (c :: k.cells) ∧ Below w.heap.size w w' := by
  have nil := OwnC.nil w w.heap.size
  have fin : ∀ {e : Ending} {w' : World}, AppOut w w.heap.size [] (c :: k.cells) e w' → ∃ p n cp, e = .returned (.slice p n cp) ∧ OwnC w' w.heap.size p n cp (c :: k.cells) ∧ Below w.heap.size w w' := fun ⟨p, n, cp, h1, h2, h3⟩ => ⟨p, n, cp, h1, by simpa using h2, h3⟩
  have FIN : Hid _ := @fin
  clear fin
  obtain ⟨v', vr, e, hnode, _⟩ := hfo
  obtain ⟨rfl, rfl⟩ := List.cons.inj e
  have hcl := hok.1
  have hby := hok.2.1
  rcases hnode with ⟨h0, rfl⟩ | ⟨h0, rfl⟩ | ⟨h0, rfl⟩ | ⟨h0, b, g, vs, rfl, hcomp⟩
  · have hk : k = .nil := hok.2.2.2.1 (by rw [h0]; decide)
    obtain ⟨c0, c1, c2⟩ := c
    simp only at h0 hcl
    subst h0 hk
    have e2 : c2 = [] := by simp [cellB] at hcl; exact hcl.2.2
    subst e2
    have HS := appVar_any c1 none 0 0 [] w.heap.size w (Nat.le_refl _) (by decide) nil
    clear hok hcl hby e nil
    go_enter Tryz.func143, Tryz.ntmps143
    go_wp2_with fail
    refine HS.mono ?_
    rintro e w1 ⟨p3, n3, c3, rfl, h1, h2⟩
    have HF := FIN.out ⟨p3, n3, c3, rfl, h1, h2⟩
    have HFF : Hid _ := HF
    clear HF h1 h2
    go_wp2_with fail
    go_ret
    exact HFF.out
  · have hk : k = .nil := hok.2.2.2.1 (by rw [h0]; decide)
    obtain ⟨c0, c1, c2⟩ := c
    simp only at h0 hcl
    subst h0 hk
    have e2 : c2 = [] := by simp [cellB] at hcl; exact hcl.2.2
    subst e2
    have HS := appNum_any c1 none 0 0 [] w.heap.size w (Nat.le_refl _) (by decide) nil
    clear hok hcl hby e nil
    go_enter Tryz.func143, Tryz.ntmps143
    go_wp2_with fail
    refine HS.mono ?_
    rintro e w1 ⟨p3, n3, c3, rfl, h1, h2⟩
    have HF := FIN.out ⟨p3, n3, c3, rfl, h1, h2⟩
    have HFF : Hid _ := HF
    clear HF h1 h2
    go_wp2_with fail
    go_ret
    exact HFF.out
  · have hk : k = .nil := hok.2.2.2.1 (by rw [h0]; decide)
    obtain ⟨c0, c1, c2⟩ := c
    simp only at h0 hcl hby
    subst h0 hk
    have e2 : c1 = 0 := by simp [cellB] at hcl; exact hcl.2
    subst e2
    have HS := appAtom_any c2 hby none 0 0 [] w.heap.size w (Nat.le_refl _) (by decide) nil
    obtain ⟨str, es⟩ : ∃ str, str = strOfNums c2 := ⟨_, rfl⟩
    simp only
    rw [← es] at HS ⊢
    clear hok hcl hby e nil es
    go_enter Tryz.func143, Tryz.ntmps143
    go_wp2_with fail
    refine HS.mono ?_
    rintro e w1 ⟨p3, n3, c3, rfl, h1, h2⟩
    have HF := FIN.out ⟨p3, n3, c3, rfl, h1, h2⟩
    have HFF : Hid _ := HF
    clear HF h1 h2
    go_wp2_with fail
    go_ret
    exact HFF.out
  · have hcn := hok.2.2.1 h0
    obtain ⟨c0, c1, c2⟩ := c
    simp only at h0 hcl hby hcn hcomp
    subst h0 hcn
    have HS := appComp_any k.cells.length c2 k b g vs none 0 0 [] Bt w.heap.size w w (Nat.le_refl _) hok.2.2.2.2.1 hby hcomp (Below.refl _ _) (Nat.le_refl _) (Nat.le_refl _) nil (by omega)
    clear hok hcl hby e nil hcomp
    go_enter Tryz.func143, Tryz.ntmps143
    go_wp2_with fail
    refine HS.mono ?_
    rintro e w1 ⟨p3, n3, c3, rfl, h1, h2⟩
    have HF := FIN.out ⟨p3, n3, c3, rfl, h1, h2⟩
    have HFF : Hid _ := HF
    clear HF h1 h2
    go_wp2_with fail
    go_ret
    exact HFF.out
end Go.Proofs.YtfgaenggbbgboaaGreatDoor

namespace Go.Proofs.YtfgaenggbbgboaaGreatDoor
open Go Go.RowKit Go.Extern
set_option linter.unusedVariables false
end Go.Proofs.YtfgaenggbbgboaaGreatDoor

namespace Go.Proofs.YtfgaenggbbgboaaGreatDoor
open Go Go.RowKit
set_option linter.unusedVariables false
theorem normal_all (a : Addr) : ∀ M, NormOk a M := by
  intro M
  induction M using Nat.strongRecOn with
  | ind M ih =>
    intro c k v Bt w0 w hM hok hfo hg hw
    have hfo0 := hfo
    obtain ⟨v', vr, e, hnode, _⟩ := hfo
    obtain ⟨rfl, rfl⟩ := List.cons.inj e
    have hg' := (hw.cell (World.block_lt_of_cell? _ _ hg)).trans hg
    have hcl := hok.1
    rcases hnode with ⟨h0, rfl⟩ | ⟨h0, rfl⟩ | ⟨h0, rfl⟩ | ⟨h0, b, g, vs, rfl, hcomp⟩
    · have hk : k = .nil := hok.2.2.2.1 (by rw [h0]; decide)
      obtain ⟨c0, c1, c2⟩ := c
      simp only at h0 hcl
      subst h0 hk
      have e2 : c2 = [] := by simp [cellB] at hcl; exact hcl.2.2
      subst e2
      exact normal_var c1 a w0 w hw.size
    · have hk : k = .nil := hok.2.2.2.1 (by rw [h0]; decide)
      obtain ⟨c0, c1, c2⟩ := c
      simp only at h0 hcl
      subst h0 hk
      have e2 : c2 = [] := by simp [cellB] at hcl; exact hcl.2.2
      subst e2
      exact normal_num c1 a w0 w hg'
    · have hk : k = .nil := hok.2.2.2.1 (by rw [h0]; decide)
      obtain ⟨c0, c1, c2⟩ := c
      simp only at h0 hcl
      subst h0 hk
      have e2 : c1 = 0 := by simp [cellB] at hcl; exact hcl.2
      subst e2
      exact normal_atom c2 hok.2.1 (by simp [cellB] at hcl; omega) a w0 w hg'
    · obtain ⟨c0, c1, c2⟩ := c
      simp only at h0
      subst h0
      exact normal_comp c2 c1 k b g vs a Bt w0 w (fun m hm => ih m (by omega)) hok hcomp hg hw
def normR (cs : List Cel) (G : Option Fo) : List Cel × Int :=
  match G with
  | none => ([], 4)
  | some G => if G.cells.length ≤ 2000 then (G.cells, 0) else ([], 3)
def NbRes (w : World) (r : List Cel × Int) (e : Ending) (w' : World) : Prop :=
  ∃ q m c2, e = .returned (.tuple #[.slice q m c2, .int .i64 r.2]) ∧ OwnC w' w.heap.size q m c2 r.1 ∧ Below w.heap.size w w'
theorem tooLong_any (c : Cel) (k : Fo) (v : Value) (w : World) (hok : (Fo.node c k .nil).ok) (hfo : FoIn w 0 (.node c k .nil) [v]) (hl : k.cells.length ≤ 10000) :
    Calls Tryz.prog 94 #[v] w fun e w' => e = .returned (.bool (decide (2000 < k.cells.length + 1))) ∧ Below w.heap.size w w' := by
  have HC := cellsOf_any c k v 0 w hok hfo hl
  obtain ⟨t, x, rfl⟩ := hfo.iface
  obtain ⟨L, eL⟩ : ∃ L, L = k.cells.length + 1 := ⟨_, rfl⟩
  have HL : Hid (L = (c :: k.cells).length) := by rw [eL]; rfl
  rw [← eL]
  have hLl : L ≤ 10001 := by omega
  clear hok hfo hl eL
  go_enter Tryz.func94, Tryz.ntmps94
  go_wp2_with fail
  refine HC.mono ?_
  rintro e w1 ⟨p, n, cp, rfl, ho, hb⟩
  have hn : n = L := by rw [ho.1, HL.out]
  subst hn
  have HB : Hid (Below w.heap.size w w1) := hb
  clear ho hb HC
  go_wp2_with fail
  go_ret
  exact ⟨ret_bool (by rw [Bool.eq_iff_iff]; simp; omega), HB.out⟩
end Go.Proofs.YtfgaenggbbgboaaGreatDoor

namespace Go.Proofs.YtfgaenggbbgboaaGreatDoor
open Go Go.RowKit
set_option linter.unusedVariables false
structure ErrAt (w : World) (a a2 : Addr) : Prop where
  fail : w.cell? ⟨1, 0, none⟩ = some (efV a)
  beyond : w.cell? ⟨0, 0, none⟩ = some (efV a2)
  ne : a2 ≠ a
  ba : ∃ ca ta, w.heap[a.block]? = some (.cells ca ta (0, 0))
  bb : ∃ ca ta, w.heap[a2.block]? = some (.cells ca ta (0, 0))
theorem lt_of_block {w : World} {b : Nat} {o : Obj} (h : w.heap[b]? = some o) : b < w.heap.size := by
  rcases Nat.lt_or_ge b w.heap.size with h1 | h1
  · exact h1
  · rw [Array.getElem?_eq_none h1] at h; cases h
theorem ErrAt.below {w w' : World} {a a2 : Addr} (h : ErrAt w a a2) (hb : Below w.heap.size w w') : ErrAt w' a a2 := by
  obtain ⟨ca, ta, h3⟩ := h.ba
  obtain ⟨cb, tb, h4⟩ := h.bb
  exact ⟨(hb.cell (World.block_lt_of_cell? _ _ h.fail)).trans h.fail, (hb.cell (World.block_lt_of_cell? _ _ h.beyond)).trans h.beyond, h.ne, ⟨ca, ta, (hb.block _ (lt_of_block h3)).trans h3⟩, ⟨cb, tb, (hb.block _ (lt_of_block h4)).trans h4⟩⟩
theorem kept_err (a : Addr) (w : World) : Calls Tryz.prog 78 #[.nilIface, efV a] w fun e w' => e = .returned (.tuple #[.nilIface, efV a]) ∧ w' = w := by
  go_enter Tryz.func78, Tryz.ntmps78
  go_wp2_with fail
  go_ret2
  exact ⟨rfl, rfl⟩
theorem kept_tree (c : Cel) (k : Fo) (v : Value) (a a2 : Addr) (w : World) (hok : (Fo.node c k .nil).ok) (hfo : FoIn w 0 (.node c k .nil) [v]) (hl : k.cells.length ≤ 10000) (he : ErrAt w a a2) :
    Calls Tryz.prog 78 #[v, .nilIface] w fun e w' => e = .returned (.tuple #[v, if k.cells.length + 1 ≤ 2000 then .nilIface else efV a2]) ∧ Below w.heap.size w w' := by
  have HT := tooLong_any c k v w hok hfo hl
  obtain ⟨t, x, rfl⟩ := hfo.iface
  have HE : Hid (ErrAt w a a2) := he
  clear hok hfo hl he
  by_cases hs : k.cells.length + 1 ≤ 2000
  · have e1 : decide (2000 < k.cells.length + 1) = false := by simp; omega
    rw [e1] at HT
    rw [if_pos hs]
    clear e1 hs
    go_enter Tryz.func78, Tryz.ntmps78
    go_wp2_with fail
    refine HT.mono ?_
    rintro e w1 ⟨rfl, hb⟩
    have HB : Hid (Below w.heap.size w w1) := hb
    clear hb HT
    go_wp2_with fail
    go_ret2
    exact ⟨rfl, HB.out⟩
  · have e1 : decide (2000 < k.cells.length + 1) = true := by simp; omega
    rw [e1] at HT
    rw [if_neg hs]
    clear e1 hs
    go_enter Tryz.func78, Tryz.ntmps78
    go_wp2_with fail
    refine HT.mono ?_
    rintro e w1 ⟨rfl, hb⟩
    have HB : Hid (Below w.heap.size w w1) := hb
    have hc := (HE.out.below hb).beyond
    clear hb HT
    go_wp2_with fail
    go_ret2
    exact ⟨rfl, HB.out⟩
def NbMid (w : World) (a a2 : Addr) (G : Option Fo) (e : Ending) (w' : World) : Prop :=
  Below w.heap.size w w' ∧ match G with
    | none => e = .returned (.tuple #[.nilIface, efV a])
    | some G => ∃ v, FoIn w' 0 G [v] ∧ e = .returned (.tuple #[v, if G.cells.length ≤ 2000 then .nilIface else efV a2])
theorem normalBody_any (c : Cel) (k : Fo) (v : Value) (Bt : Nat) (a a2 : Addr) (w0 w : World) (hok : (Fo.node c k .nil).ok) (hfo : FoIn w0 Bt (.node c k .nil) [v]) (hw : Below w0.heap.size w0 w) (hl : k.cells.length ≤ 2000) (he : ErrAt w0 a a2) :
    Calls Tryz.prog 50 #[v] w (NbMid w a a2 (normT c k)) := by
  have HN := normal_all a k.cells.length c k v Bt w0 w (Nat.le_refl _) hok hfo he.fail hw
  have HE : Hid (ErrAt w a a2) := he.below hw
  obtain ⟨t, x, rfl⟩ := hfo.iface
  cases hn : normT c k with
  | none =>
    rw [hn] at HN
    clear hok hfo hw hl he hn
    go_enter Tryz.func50, Tryz.ntmps50
    go_wp2_with fail
    refine HN.mono ?_
    rintro e w1 hout
    obtain ⟨hb, rfl⟩ := hout
    have HB : Hid (Below w.heap.size w w1) := hb
    have HK := kept_err a w1
    clear hb HN
    go_wp2_with fail
    refine HK.mono ?_
    rintro e w2 ⟨rfl, rfl⟩
    go_wp2_with fail
    go_ret2
    exact ⟨HB.out, rfl⟩
  | some G =>
    rw [hn] at HN
    obtain ⟨c', k', rfl, hok', hl'⟩ := normT_ok hn hok
    have HK : Hid ((Fo.node c' k' .nil).ok ∧ k'.cells.length ≤ 10000) := ⟨hok', by simp [Fo.cells] at hl'; omega⟩
    clear hok hfo hw he hn hok' hl' hl
    go_enter Tryz.func50, Tryz.ntmps50
    go_wp2_with fail
    refine HN.mono ?_
    rintro e w1 hout
    obtain ⟨hb, v1, rfl, hfo1⟩ := hout
    have HB : Hid (Below w.heap.size w w1) := hb
    have HF : Hid (FoIn w1 0 (.node c' k' .nil) [v1]) := hfo1.foIn
    have HKT := kept_tree c' k' v1 a a2 w1 HK.out.1 HF.out HK.out.2 (HE.out.below hb)
    obtain ⟨t1, x1, rfl⟩ := HF.out.iface
    obtain ⟨ev, eev⟩ : ∃ ev, ev = (if k'.cells.length + 1 ≤ 2000 then Value.nilIface else efV a2) := ⟨_, rfl⟩
    have hev : ev = .nilIface ∨ ev = efV a2 := by rw [eev]; split <;> simp
    have HEV : Hid (ev = (if (Fo.node c' k' .nil).cells.length ≤ 2000 then Value.nilIface else efV a2)) := by show _ = _; rw [eev]; simp [Fo.cells]
    rw [← eev] at HKT
    clear hb HN hfo1 eev
    go_wp2_with fail
    refine HKT.mono ?_
    rintro e w2 ⟨rfl, hb2⟩
    have HF2 : Hid (FoIn w2 0 (.node c' k' .nil) [.iface t1 x1]) := HF.out.below hb2
    have HB2 : Hid (Below w.heap.size w w2) := Below.on HB.out hb2
    clear hb2 HKT
    rcases hev with rfl | rfl
    all_goals
      go_wp2_with fail
      go_ret2
      refine ⟨HB2.out, _, HF2.out, ?_⟩
      rw [← HEV.out]
      rfl
def normalR (cs : List Cel) (r : List Cel × Int) : Prop :=
  if validB cs = true then ∃ c k, cs = c :: k.cells ∧ (Fo.node c k .nil).ok ∧ cs.length ≤ 2000 ∧ r = normR cs (normT c k) else r = ([], 1)
theorem NbRes.on {w w1 : World} {r : List Cel × Int} {e : Ending} {w' : World} (h : NbRes w1 r e w') (hb : Below w.heap.size w w1) : NbRes w r e w' := by
  obtain ⟨q, m, c2, h1, h2, h3⟩ := h
  exact ⟨q, m, c2, h1, h2.mono hb.size, Below.on hb h3⟩
end Go.Proofs.YtfgaenggbbgboaaGreatDoor

namespace Go.Proofs.YtfgaenggbbgboaaGreatDoor
open Go Go.RowKit
set_option linter.unusedVariables false
set_option maxRecDepth 100000 in
theorem isNormal_any (c : Cel) (k : Fo) (v : Value) (Bt : Nat) (a a2 : Addr) (w0 w : World) (hok : (Fo.node c k .nil).ok) (hfo : FoIn w0 Bt (.node c k .nil) [v]) (hw : Below w0.heap.size w0 w) (hl : k.cells.length + 1 ≤ 2000) (he : ErrAt w0 a a2) :
    Calls Tryz.prog 25 #[v] w fun e w' => e = .returned (.bool (norB c k)) ∧ Below w.heap.size w w' := by
  have HN := normalBody_any c k v Bt a a2 w0 w hok hfo hw (by omega) he
  obtain ⟨vt, vx, rfl⟩ := hfo.iface
  unfold NbMid at HN
  cases hG : normT c k with
  | none =>
    rw [hG] at HN
    have hF : norB c k = false := norB_no (by rw [hG]; simp)
    rw [hF]
    clear hok hfo hw hl he hG hF
    go_enter Tryz.func25, Tryz.ntmps25
    go_wp2_with fail
    refine HN.mono ?_
    rintro e w1 ⟨hb1, rfl⟩
    have HB : Hid (Below w.heap.size w w1) := hb1
    clear hb1 HN
    go_wp2_with fail
    go_ret
    exact ⟨rfl, HB.out⟩
  | some G =>
    rw [hG] at HN
    obtain ⟨c', k', rfl, hGok, hGl⟩ := normT_ok hG hok
    replace HN : Calls Tryz.prog 50 #[.iface vt vx] w (fun e w' => Below w.heap.size w w' ∧ ∃ v, FoIn w' 0 (.node c' k' .nil) [v] ∧ e = .returned (.tuple #[v, if (Fo.node c' k' .nil).cells.length ≤ 2000 then .nilIface else efV a2])) := HN
    by_cases hlen : (Fo.node c' k' .nil).cells.length ≤ 2000
    · rw [if_pos hlen] at HN
      have hk' : k'.cells.length ≤ 10000 := by simp [Fo.cells] at hlen; omega
      have HS : Hid (∀ (W W' : World) (v' : Value), Below w.heap.size w W → FoIn W 0 (.node c' k' .nil) [v'] → Calls Tryz.prog 51 #[v', .iface vt vx] W fun e w' => e = .returned (.bool (norB c k)) ∧ Below W.heap.size W w') := fun W W' v' hW hf => by
        have h1 := isSame_any W 0 W ((c', k'), (c, k)) v' (.iface vt vx) (Below.refl _ _) hf (FoIn.mono (FoIn.below hfo (Below.on hw hW)) (Nat.zero_le _)) hGok hok hk'
        rw [eqT_cells (x := ((c', k'), (c, k))) hGok hok] at h1
        have e9 : decide (((c', k'), (c, k)).1.1 :: ((c', k'), (c, k)).1.2.cells = ((c', k'), (c, k)).2.1 :: ((c', k'), (c, k)).2.2.cells) = norB c k := by
          by_cases e : c' :: k'.cells = c :: k.cells
          · obtain ⟨rfl, rfl⟩ := tree_one e hGok hok
            rw [norB_yes hG]; simp
          · rw [norB_no (fun h9 => e (by rw [hG] at h9; simp only [Option.some.injEq, Fo.node.injEq] at h9; rw [h9.1, h9.2.1]))]
            simpa using e
        rw [e9] at h1
        exact h1
      obtain ⟨R, eR⟩ : ∃ R, R = norB c k := ⟨_, rfl⟩
      rw [← eR] at HS ⊢
      clear hok hfo hw hl he hG hGok hGl hlen hk' eR
      go_enter Tryz.func25, Tryz.ntmps25
      go_wp2_with fail
      refine HN.mono ?_
      rintro e w1 ⟨hb1, v', hf1, rfl⟩
      have HB : Hid (Below w.heap.size w w1) := hb1
      have HS1 := HS.out w1 w1 v' hb1 hf1
      obtain ⟨t', x', rfl⟩ := hf1.iface
      clear hb1 HN hf1
      go_wp2_with fail
      refine HS1.mono ?_
      rintro e w2 ⟨rfl, hb2⟩
      have HB2 : Hid (Below w.heap.size w w2) := Below.on HB.out hb2
      clear hb2 HS1
      go_wp2_with fail
      go_ret
      exact ⟨rfl, HB2.out⟩
    · rw [if_neg hlen] at HN
      have hF : norB c k = false := norB_no (fun h9 => by
        rw [hG] at h9
        simp only [Option.some.injEq] at h9
        rw [h9] at hlen
        simp [Fo.cells] at hlen
        omega)
      rw [hF]
      clear hok hfo hw hl he hG hF hGok hGl hlen
      go_enter Tryz.func25, Tryz.ntmps25
      go_wp2_with fail
      refine HN.mono ?_
      rintro e w1 ⟨hb1, v', hf1, rfl⟩
      have HB : Hid (Below w.heap.size w w1) := hb1
      obtain ⟨t', x', rfl⟩ := hf1.iface
      clear hb1 HN hf1
      go_wp2_with fail
      go_ret
      exact ⟨rfl, HB.out⟩
theorem argsC_any (b g q : Nat) (w : World) (h : w.cell? ⟨b, 1, none⟩ = some (.slice (some ⟨g, 0, none⟩) q q)) :
    Calls Tryz.prog 76 #[.iface 122 (.pointer (some ⟨b, 0, none⟩))] w fun e w' => e = .returned (.slice (some ⟨g, 0, none⟩) q q) ∧ w' = w := nbArgs_comp b g q w h
set_option maxRecDepth 100000 in
set_option maxHeartbeats 2000000 in
theorem isClause_any (nm : List Int) (ar : Int) (hnm : Byte nm) (c : Cel) (k : Fo) (v : Value) (Bt : Nat) (a a2 : Addr) (w0 w : World) (hok : (Fo.node c k .nil).ok) (hfo : FoIn w0 Bt (.node c k .nil) [v]) (hw : Below w0.heap.size w0 w) (hl : k.cells.length + 1 ≤ 2000) (he : ErrAt w0 a a2) :
    Calls Tryz.prog 47 #[.agg #[.string (strOfNums nm), .int .i64 ar], v] w fun e w' => e = .returned (.bool (clT nm ar (c, k))) ∧ Below w.heap.size w w' := by
  have HFU : Hid (∀ W, Below w.heap.size w W → Calls Tryz.prog 75 #[v] W fun e w' => e = .returned (.tuple #[.agg #[.string (fS c), .int .i64 (fA c)], .bool (calC c)]) ∧ Below W.heap.size W w') := fun W hW => fo_any c k v W hok hfo (Below.on hw hW)
  have HIS := f_is hok.2.1 hok.1 [58, 45] 2 (by simp) (by decide)
  have hAL : ∀ o, Below w.heap.size w (w.alloc o) := fun o => (Below.refl _ _).alloc (Nat.le_refl _) _
  have HAL : Hid (∀ o, Below w.heap.size w (w.alloc o)) := hAL
  by_cases hr : c = ruleC
  · obtain ⟨hs1, hs2⟩ := HIS.2 (by rw [hr]; rfl)
    rw [hs2] at HFU
    obtain ⟨b, g, t1, x1, t2, x2, hv, d1, g0, g1, hk0, hk1, hok0, hok1, hkc⟩ := sides_of hok hfo hr
    subst hv
    have hbw := hw
    have HD : Hid (∀ W, Below w.heap.size w W → W.cell? ⟨b, 1, none⟩ = some (.slice (some ⟨g, 0, none⟩) 2 2) ∧ W.cell? ⟨g, 0, none⟩ = some (.iface t1 x1) ∧ W.cell? ⟨g, 1, none⟩ = some (.iface t2 x2)) := fun W hW => by
      have h9 := Below.on hw hW
      exact ⟨(h9.cell (World.block_lt_of_cell? _ _ d1)).trans d1, (h9.cell (World.block_lt_of_cell? _ _ g0)).trans g0, (h9.cell (World.block_lt_of_cell? _ _ g1)).trans g1⟩
    have HF2 : Hid (∀ W, Below w.heap.size w W → Calls Tryz.prog 75 #[.iface t1 x1] W fun e w' => e = .returned (.tuple #[.agg #[.string (fS (kid0 (c, k)).1), .int .i64 (fA (kid0 (c, k)).1)], .bool (calC (kid0 (c, k)).1)]) ∧ Below W.heap.size W w') := fun W hW => fo_any _ _ _ W hok0 hk0 (Below.on hw hW)
    have HNO : Hid (∀ W, Below w.heap.size w W → Calls Tryz.prog 25 #[.iface t2 x2] W fun e w' => e = .returned (.bool (norB (kid1 (c, k)).1 (kid1 (c, k)).2)) ∧ Below W.heap.size W w') := fun W hW => isNormal_any _ _ _ Bt a a2 w0 W hok1 hk1 (Below.on hw hW) (by omega) he
    have HRN : Hid (∀ W, Below w.heap.size w W → Calls Tryz.prog 77 #[.iface 122 (.pointer (some ⟨b, 0, none⟩))] W fun e w' => ∃ v', e = .returned v' ∧ FoIn w' W.heap.size (.node (renI (visits [] (c :: k.cells)) c) (k.map (renI (visits [] (c :: k.cells)))) .nil) [v'] ∧ Below W.heap.size W w') := fun W hW => renumber_any c k _ Bt W hok (FoIn.below hfo (Below.on hw hW)) (by omega)
    have hk1' : k.cells.length ≤ 10000 := by omega
    have hlen : (visits [] (c :: k.cells)).length ≤ 1000000 := by have := visits_len (c :: k.cells) []; simp at this; omega
    have ok2 : Tr.ok (renI (visits [] (c :: k.cells)) c, k.map (renI (visits [] (c :: k.cells)))) := Fo.ok_ren hlen (.node c k .nil) hok
    have HSM : Hid (∀ (W : World) (B : Nat) (v' : Value), Below w.heap.size w W → FoIn W B (.node (renI (visits [] (c :: k.cells)) c) (k.map (renI (visits [] (c :: k.cells)))) .nil) [v'] → Calls Tryz.prog 51 #[.iface 122 (.pointer (some ⟨b, 0, none⟩)), v'] W fun e w' => e = .returned (.bool (decide (renCells (c :: k.cells) = c :: k.cells))) ∧ Below W.heap.size W w') := fun W B v' hW hf => by
      have h1 := isSame_any W 0 W ((c, k), (renI (visits [] (c :: k.cells)) c, k.map (renI (visits [] (c :: k.cells))))) _ v' (Below.refl _ _) (FoIn.mono (FoIn.below hfo (Below.on hw hW)) (Nat.zero_le _)) (FoIn.mono hf (Nat.zero_le _)) hok ok2 hk1'
      rw [eqT_cells (x := ((c, k), (renI (visits [] (c :: k.cells)) c, k.map (renI (visits [] (c :: k.cells)))))) hok ok2] at h1
      have e9 : decide (((c, k), (renI (visits [] (c :: k.cells)) c, k.map (renI (visits [] (c :: k.cells))))).1.1 :: ((c, k), (renI (visits [] (c :: k.cells)) c, k.map (renI (visits [] (c :: k.cells))))).1.2.cells = ((c, k), (renI (visits [] (c :: k.cells)) c, k.map (renI (visits [] (c :: k.cells))))).2.1 :: ((c, k), (renI (visits [] (c :: k.cells)) c, k.map (renI (visits [] (c :: k.cells))))).2.2.cells) = decide (renCells (c :: k.cells) = c :: k.cells) := by
        simp only [Fo.cells_map, renCells, List.map_cons]
        congr 1
        rw [eq_iff_iff]
        exact eq_comm
      rw [e9] at h1
      exact h1
    -- what is asked, as Booleans
    have hb0 := hok0.2.1
    have HE : Hid (clT nm ar (c, k) = (calC (kid0 (c, k)).1 && (decide ((kid0 (c, k)).1.2.2 = nm) && (decide (fA (kid0 (c, k)).1 = ar) && (norB (kid1 (c, k)).1 (kid1 (c, k)).2 && decide (renCells (c :: k.cells) = c :: k.cells)))))) := by
      show _ = _
      unfold clT
      rw [decide_eq_true (show (c, k).1 = ruleC from hr), Bool.true_and]
    have HNM : Hid (calC (kid0 (c, k)).1 = true → ((fS (kid0 (c, k)).1 = strOfNums nm) ↔ (kid0 (c, k)).1.2.2 = nm)) := fun hcal => by
      have h23 : (kid0 (c, k)).1.1 = 2 ∨ (kid0 (c, k)).1.1 = 3 := by simpa [calC] using hcal
      unfold fS
      rw [if_pos h23]
      exact ⟨fun h9 => str_ne hb0 hnm h9, fun h9 => by rw [h9]⟩
    obtain ⟨nb, enb⟩ : ∃ x, x = norB (kid1 (c, k)).1 (kid1 (c, k)).2 := ⟨_, rfl⟩
    obtain ⟨sm, esm⟩ : ∃ x, x = decide (renCells (c :: k.cells) = c :: k.cells) := ⟨_, rfl⟩
    obtain ⟨cl, ecl⟩ : ∃ x, x = calC (kid0 (c, k)).1 := ⟨_, rfl⟩
    obtain ⟨s0, es0⟩ : ∃ x, x = fS (kid0 (c, k)).1 := ⟨_, rfl⟩
    obtain ⟨a0, ea0⟩ : ∃ x, x = fA (kid0 (c, k)).1 := ⟨_, rfl⟩
    obtain ⟨sn, esn⟩ : ∃ x, x = strOfNums nm := ⟨_, rfl⟩
    obtain ⟨cc, ecc⟩ : ∃ x, x = calC c := ⟨_, rfl⟩
    obtain ⟨sc, esc⟩ : ∃ x, x = fS c := ⟨_, rfl⟩
    rw [← enb] at HNO HE
    rw [← esm] at HSM HE
    rw [← ecl] at HF2 HE HNM
    rw [← es0] at HF2 HNM
    rw [← ea0] at HF2 HE
    rw [← esn] at HNM ⊢
    rw [← ecc, ← esc] at HFU
    rw [← esc] at hs1
    have hs1b : (sc.toList == [58, 45]) = true := by rw [hs1]; rfl
    clear hfo hok hok0 hok1 hk0 hk1 hkc hl he hw hbw d1 g0 g1 hb0 enb esm ecl es0 ea0 esn ecc esc hk1' hlen ok2 hr hs2 HIS hAL hnm
    obtain ⟨R, eR⟩ : ∃ R, R = clT nm ar (c, k) := ⟨_, rfl⟩
    have HRE : Hid (R = (cl && (decide ((kid0 (c, k)).1.2.2 = nm) && (decide (a0 = ar) && (nb && sm))))) := by show _ = _; rw [eR]; exact HE.out
    rw [← eR]
    clear eR
    obtain ⟨bx, ebx⟩ : ∃ bx : Obj, bx = .cells #[.string sn, .int .i64 ar] 52 := ⟨_, rfl⟩
    have HBX : Hid (∀ W, Below (w.alloc bx).heap.size (w.alloc bx) W → W.cell? ⟨w.heap.size, 0, none⟩ = some (.string sn) ∧ W.cell? ⟨w.heap.size, 1, none⟩ = some (.int .i64 ar) ∧ Below w.heap.size w W) := fun W hW => by
      have hk : W.heap[w.heap.size]? = some bx := (hW.block w.heap.size (by simp)).trans (heap_alloc_new w _)
      rw [ebx] at hk
      exact ⟨(two_cells hk).1, (two_cells hk).2.1, Below.on (HAL.out _) hW⟩
    have HEB : Hid (bx = .cells #[.string sn, .int .i64 ar] 52) := ebx
    clear ebx HE
    go_enter Tryz.func47, Tryz.ntmps47
    go_wp2_with fail
    rw [← HEB.out]
    refine (HFU.out _ (HAL.out _)).mono ?_
    rintro e w1 ⟨rfl, hb1⟩
    have HA1 : Hid (Below (w.alloc bx).heap.size (w.alloc bx) (w1.alloc (.cells #[.string sc, .int .i64 2] 52))) := hb1.alloc hb1.size _
    have HB1 : Hid (Below w.heap.size w (w1.alloc (.cells #[.string sc, .int .i64 2] 52))) := (HBX.out _ HA1.out).2.2
    have HAR := argsC_any b g 2 _ (HD.out _ HB1.out).1
    clear hb1 HFU
    go_wp2_with fail
    refine HAR.mono ?_
    rintro e w2 ⟨rfl, hw2⟩
    rw [← hw2] at HA1 HB1
    obtain ⟨_, g0, g1⟩ := HD.out w2 HB1.out
    have HFH := HF2.out w2 HB1.out
    clear hw2 HAR HF2
    go_wp2_with fail
    refine HFH.mono ?_
    rintro e w3 ⟨rfl, hb3⟩
    have hA3 : Below (w.alloc bx).heap.size (w.alloc bx) (w3.alloc (.cells #[.string s0, .int .i64 a0] 52)) := Below.on HA1.out (hb3.alloc hb3.size _)
    obtain ⟨W3, hW3⟩ : ∃ W, W = w3.alloc (.cells #[.string s0, .int .i64 a0] 52) := ⟨_, rfl⟩
    have hk3 := heap_alloc_new w3 (.cells #[.string s0, .int .i64 a0] 52)
    rw [← hW3] at hA3 hk3
    obtain ⟨y0, y1, hB3⟩ := HBX.out W3 hA3
    obtain ⟨_, z0, z1⟩ := HD.out W3 hB3
    rw [hW3] at y0 y1 z0 z1
    have HB3 : Hid (Below w.heap.size w W3) := hB3
    have HN3 := HNO.out W3 hB3
    have HW3 : Hid (W3 = w3.alloc (.cells #[.string s0, .int .i64 a0] 52)) := hW3
    clear hb3 hA3 hk3 hB3 hW3 HFH g0 g1 HNO HD HBX HA1 HB1
    cases cl with
    | false =>
      have HRF : Hid (R = false) := by show _ = _; rw [HRE.out]; simp
      clear HN3 HNM HRE
      go_wp2_with fail
      rw [← HW3.out]
      go_ret
      exact ⟨ret_bool HRF.out.symm, HB3.out⟩
    | true =>
      have hnm := HNM.out rfl
      clear HNM
      by_cases hs : s0 = sn
      · have hd : decide ((kid0 (c, k)).1.2.2 = nm) = true := decide_eq_true (hnm.1 hs)
        rw [hd] at HRE
        clear hd hnm
        subst hs
        by_cases ha : a0 = ar
        · subst ha
          rw [decide_eq_true (rfl : a0 = a0)] at HRE
          cases nb with
          | false =>
            have HRF : Hid (R = false) := by show _ = _; rw [HRE.out]; simp
            clear HRE
            go_wp2_with fail
            rw [← HW3.out]
            refine HN3.mono ?_
            rintro e w4 ⟨rfl, hb4⟩
            have HB4 : Hid (Below w.heap.size w w4) := Below.on HB3.out hb4
            clear hb4 HN3
            go_wp2_with fail
            go_ret
            exact ⟨ret_bool HRF.out.symm, HB4.out⟩
          | true =>
            have HRT : Hid (R = sm) := by show _ = _; rw [HRE.out]; simp
            clear HRE
            go_wp2_with fail
            rw [← HW3.out]
            refine HN3.mono ?_
            rintro e w4 ⟨rfl, hb4⟩
            have HB4 : Hid (Below w.heap.size w w4) := Below.on HB3.out hb4
            have HR4 := HRN.out w4 HB4.out
            clear hb4 HN3
            go_wp2_with fail
            refine HR4.mono ?_
            rintro e w5 ⟨v5, rfl, hf5, hb5⟩
            have HB5 : Hid (Below w.heap.size w w5) := Below.on HB4.out hb5
            have HS5 := HSM.out w5 _ v5 HB5.out hf5
            obtain ⟨t5, y5, rfl⟩ := hf5.iface
            clear hb5 hf5 HR4
            go_wp2_with fail
            refine HS5.mono ?_
            rintro e w6 ⟨rfl, hb6⟩
            have HB6 : Hid (Below w.heap.size w w6) := Below.on HB5.out hb6
            clear hb6 HS5
            go_wp2_with fail
            go_ret
            exact ⟨ret_bool HRT.out.symm, HB6.out⟩
        · have HRF : Hid (R = false) := by show _ = _; rw [HRE.out, decide_eq_false ha]; simp
          have ha' : (a0 == ar) = false := by simpa using ha
          clear HN3 HRE
          go_wp2_with fail
          rw [← HW3.out]
          go_ret
          exact ⟨ret_bool HRF.out.symm, HB3.out⟩
      · have HRF : Hid (R = false) := by show _ = _; rw [HRE.out, decide_eq_false (fun h => hs (hnm.2 h))]; simp
        have hs2 : ¬ s0.toList = sn.toList := fun h => hs (by
          have : s0.data = sn.data := by
            rw [ByteArray.toList_eq, ByteArray.toList_eq] at h
            exact Array.ext' h
          cases s0; cases sn; simp_all)
        have hs3 : (s0.toList == sn.toList) = false := by simpa using hs2
        clear HN3 HRE hnm
        go_wp2_with fail
        rw [← HW3.out]
        go_ret
        exact ⟨ret_bool HRF.out.symm, HB3.out⟩
  · have HRF : Hid (clT nm ar (c, k) = false) := by
      show _ = _
      unfold clT
      rw [decide_eq_false (show ¬ (c, k).1 = ruleC from hr)]
      simp
    have hnot : ¬ ((fS c).toList = [58, 45] ∧ fA c = 2) := fun h => hr (HIS.1 h)
    obtain ⟨vt, vx, rfl⟩ := hfo.iface
    obtain ⟨R, eR⟩ : ∃ R, R = clT nm ar (c, k) := ⟨_, rfl⟩
    rw [← eR] at HRF ⊢
    obtain ⟨sn, esn⟩ : ∃ x, x = strOfNums nm := ⟨_, rfl⟩
    obtain ⟨sc, esc⟩ : ∃ x, x = fS c := ⟨_, rfl⟩
    obtain ⟨ac, eac⟩ : ∃ x, x = fA c := ⟨_, rfl⟩
    obtain ⟨cc, ecc⟩ : ∃ x, x = calC c := ⟨_, rfl⟩
    rw [← esn]
    rw [← esc, ← eac, ← ecc] at HFU
    rw [← esc, ← eac] at hnot
    clear hfo hok hl he hw eR esn esc eac ecc hr HIS hAL hnm
    by_cases h1 : sc.toList = [58, 45]
    · have h2 : ¬ ac = 2 := fun h => hnot ⟨h1, h⟩
      have h2' : (ac == 2) = false := by simpa using h2
      clear hnot
      go_enter Tryz.func47, Tryz.ntmps47
      go_wp2_with fail
      refine (HFU.out _ (HAL.out _)).mono ?_
      rintro e w1 ⟨rfl, hb1⟩
      have HB1 : Hid (∀ o, Below w.heap.size w (w1.alloc o)) := fun o => (Below.on (HAL.out _) hb1).alloc (Below.on (HAL.out _) hb1).size _
      clear hb1 HFU
      go_wp2_with fail
      go_ret
      exact ⟨ret_bool HRF.out.symm, HB1.out _⟩
    · have h1' : (sc.toList == [58, 45]) = false := by simpa using h1
      clear hnot
      go_enter Tryz.func47, Tryz.ntmps47
      go_wp2_with fail
      refine (HFU.out _ (HAL.out _)).mono ?_
      rintro e w1 ⟨rfl, hb1⟩
      have HB1 : Hid (∀ o, Below w.heap.size w (w1.alloc o)) := fun o => (Below.on (HAL.out _) hb1).alloc (Below.on (HAL.out _) hb1).size _
      clear hb1 HFU
      go_wp2_with fail
      go_ret
      exact ⟨ret_bool HRF.out.symm, HB1.out _⟩
end Go.Proofs.YtfgaenggbbgboaaGreatDoor

