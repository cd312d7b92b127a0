/- Texts of VpA, Tree4, Tree5, Num, TermG. Own work of the verifier. -/
import Derived.Test.YtfgaenggbbgboaaGreatDoorUqaf
import Derived.Test.YtfgaenggbbgboaaGreatDoorUqac
import Derived.Test.YtfgaenggbbgboaaGreatDoorUqae
import Derived.Deep.RegionLaw
import Derived.Deep.Cut
import Derived.Maps.OwnSet
import Derived.Maps.OwnOps
namespace Go.Proofs.YtfgaenggbbgboaaGreatDoor
open Go Go.RowKit
set_option linter.unusedVariables false
abbrev Prd := List Int × Int × Bool × List (List Cel)
def Prd.zero : Prd := ([], 0, false, [])
def szP (q : Prd) : Nat := q.1.length + (q.2.2.2.length + tll q.2.2.2)
def szPs : List Prd → Nat
  | [] => 0
  | q :: r => szP q + szPs r
theorem szPs_at : ∀ (ps : List Prd) (i : Nat), i < ps.length → szP (ps.getD i Prd.zero) ≤ szPs ps
  | [], i, h => by simp at h
  | c :: r, 0, _ => by simp [szPs]
  | c :: r, i + 1, h => by have := szPs_at r i (by simpa using h); simp only [szPs, List.getD_cons_succ]; omega
theorem szPs_take : ∀ (ps : List Prd) (k : Nat), k < ps.length → szPs (ps.take (k + 1)) = szPs (ps.take k) + szP (ps.getD k Prd.zero)
  | [], k, h => by simp at h
  | c :: r, 0, _ => by simp [szPs]
  | c :: r, k + 1, h => by
    have := szPs_take r k (by simpa using h)
    simp only [List.take_succ_cons, szPs, this]
    simp; omega
theorem szPs_take_le : ∀ (ps : List Prd) (k : Nat), szPs (ps.take k) ≤ szPs ps
  | [], k => by simp [szPs]
  | c :: r, 0 => by simp [szPs]
  | c :: r, k + 1 => by have := szPs_take_le r k; simp only [List.take_succ_cons, szPs]; omega
def PIn (w : World) (p : Option Addr) (ps : List Prd) : Prop :=
  0 < ps.length → ∃ b o, p = some ⟨b, o, none⟩ ∧ ∀ i, i < ps.length → ∃ q c r d, w.cell? ⟨b, o + i * 4, none⟩ = some (.slice q (ps.getD i Prd.zero).1.length c) ∧ w.cell? ⟨b, o + i * 4 + 1, none⟩ = some (.int .i64 (ps.getD i Prd.zero).2.1) ∧ w.cell? ⟨b, o + i * 4 + 2, none⟩ = some (.bool (ps.getD i Prd.zero).2.2.1) ∧
    w.cell? ⟨b, o + i * 4 + 3, none⟩ = some (.slice r (ps.getD i Prd.zero).2.2.2.length d) ∧ BIn w q (ps.getD i Prd.zero).1 ∧ CCIn w r (ps.getD i Prd.zero).2.2.2
theorem PIn.below {W W' : World} {p : Option Addr} {ps : List Prd} (h : PIn W p ps) (hb : Below W.heap.size W W') : PIn W' p ps := fun hn => by
  obtain ⟨b, o, rfl, hc⟩ := h hn
  refine ⟨b, o, rfl, fun i hi => ?_⟩
  obtain ⟨q, c, r, d, h0, h1, h2, h3, h4, h5⟩ := hc i hi
  exact ⟨q, c, r, d, (hb.cell (World.block_lt_of_cell? _ _ h0)).trans h0, (hb.cell (World.block_lt_of_cell? _ _ h1)).trans h1, (hb.cell (World.block_lt_of_cell? _ _ h2)).trans h2, (hb.cell (World.block_lt_of_cell? _ _ h3)).trans h3, h4.below hb, h5.below hb⟩
def CCok (css : List (List Cel)) : Prop := css.length ≤ 9223372036854775807 ∧ ∀ i, i < css.length → (css.getD i []).length ≤ 9223372036854775807 ∧ (∀ j, j < (css.getD i []).length → ((css.getD i []).getD j Cel.none).2.2.length ≤ 9223372036854775807) ∧ (∀ j, j < (css.getD i []).length → ∀ x ∈ ((css.getD i []).getD j Cel.none).2.2, 0 ≤ x ∧ x < 256)
theorem CCok.arg {css : List (List Cel)} (h : CCok css) {w : World} {p : Option Addr} (hl : CCIn w p css) : CCArg w p css := ⟨hl, h.1, h.2⟩
theorem CCArg.ok {w : World} {p : Option Addr} {css : List (List Cel)} (h : CCArg w p css) : CCok css := ⟨h.len, h.item⟩
structure PArg (w : World) (p : Option Addr) (ps : List Prd) : Prop where
  lies : PIn w p ps
  len : ps.length ≤ 9223372036854775807
  item : ∀ i, i < ps.length → (ps.getD i Prd.zero).1.length ≤ 9223372036854775807 ∧ Byte (ps.getD i Prd.zero).1 ∧ (Lit.int .i64 (ps.getD i Prd.zero).2.1).wf = true ∧ CCok (ps.getD i Prd.zero).2.2.2
theorem PArg.below {W W' : World} {p : Option Addr} {ps : List Prd} (h : PArg W p ps) (hb : Below W.heap.size W W') : PArg W' p ps := ⟨h.lies.below hb, h.len, h.item⟩
set_option maxRecDepth 100000 in
theorem szPred_any (nm : List Int) (ar : Int) (dy : Bool) (css : List (List Cel)) (q : Option Addr) (m c : Nat) (r : Option Addr) (n d : Nat) (L : Nat) (w : World) (hm : m = nm.length) (hn : n = css.length) (hL : L ≤ 1048576) (hm9 : m ≤ 9223372036854775807) (hok : CCok css) (hr : CCIn w r css) :
    Calls Tryz.prog 29 #[.agg #[.slice q m c, .int .i64 ar, .bool dy, .slice r n d], .int .i64 L] w fun e w' => e = .returned (.int .i64 (szR L (nm.length + (css.length + tll css)))) ∧ Below w.heap.size w w' := by
  have HB : Hid (∀ o, Below w.heap.size w (w.alloc o)) := fun o => (Below.refl _ _).alloc (Nat.le_refl _) _
  have HS := fun w => szByteS_any q m c L w hL hm9
  by_cases h : nm.length ≤ L
  · obtain ⟨L2, eL⟩ : ∃ x, x = L - nm.length := ⟨_, rfl⟩
    have e1 : szR L m = (L2 : Int) := by rw [szR, if_pos (by omega)]; omega
    have h2 : L2 ≤ 1048576 := by omega
    have HC : Hid (∀ W, Below w.heap.size w W → Calls Tryz.prog 10 #[.slice r n d, .int .i64 L2] W fun e w' => e = .returned (.int .i64 (szR L2 (css.length + tll css))) ∧ Below W.heap.size W w') := fun W hW => by rw [hn]; exact szSS_any r d css L2 W h2 (hok.arg (hr.below hW))
    have hl2 : ¬ ((L2 : Int) < 0) := by omega
    rw [e1] at HS
    by_cases h3 : css.length + tll css ≤ L2
    · have e2 : szR L2 (css.length + tll css) = ((L2 - (css.length + tll css) : Nat) : Int) := by rw [szR, if_pos h3]; omega
      have e3 : szR L (nm.length + (css.length + tll css)) = ((L2 - (css.length + tll css) : Nat) : Int) := by rw [szR, if_pos (by omega)]; omega
      rw [e2] at HC
      rw [e3]
      obtain ⟨L3, eL3⟩ : ∃ x, x = L2 - (css.length + tll css) := ⟨_, rfl⟩
      rw [← eL3] at HC ⊢
      have hl3 : ¬ ((L3 : Int) < 0) := by omega
      clear hm hn hr h h3 eL e1 e2 e3 eL3 hok
      go_enter Tryz.func29, Tryz.ntmps29
      go_wp2_with fail
      refine (HS _).mono ?_
      rintro e w1 ⟨rfl, hw1⟩
      subst hw1
      go_wp2_with fail
      refine (HC.out _ (HB.out _)).mono ?_
      rintro e w2 ⟨rfl, hb2⟩
      have HB2 : Hid (Below w.heap.size w w2) := Below.on (HB.out _) hb2
      clear hb2
      go_wp2_with fail
      go_ret
      exact ⟨rfl, HB2.out⟩
    · have e2 : szR L2 (css.length + tll css) = -1 := by rw [szR, if_neg h3]
      have e3 : szR L (nm.length + (css.length + tll css)) = -1 := by rw [szR, if_neg (by omega)]
      rw [e2] at HC
      rw [e3]
      clear hm hn hr h h3 eL e1 e2 e3 hok
      go_enter Tryz.func29, Tryz.ntmps29
      go_wp2_with fail
      refine (HS _).mono ?_
      rintro e w1 ⟨rfl, hw1⟩
      subst hw1
      go_wp2_with fail
      refine (HC.out _ (HB.out _)).mono ?_
      rintro e w2 ⟨rfl, hb2⟩
      have HB2 : Hid (Below w.heap.size w w2) := Below.on (HB.out _) hb2
      clear hb2
      go_wp2_with fail
      go_ret
      exact ⟨rfl, HB2.out⟩
  · have e1 : szR L m = -1 := by rw [szR, if_neg (by omega)]
    have e3 : szR L (nm.length + (css.length + tll css)) = -1 := by rw [szR, if_neg (by omega)]
    rw [e1] at HS
    rw [e3]
    clear hm hn hr h e1 e3 hok
    go_enter Tryz.func29, Tryz.ntmps29
    go_wp2_with fail
    refine (HS _).mono ?_
    rintro e w1 ⟨rfl, hw1⟩
    subst hw1
    go_wp2_with fail
    go_ret
    exact ⟨rfl, HB.out _⟩
set_option maxRecDepth 100000 in
set_option maxHeartbeats 1000000 in
theorem szPs_any (p : Option Addr) (cap : Nat) (ps : List Prd) (L : Nat) (w : World) (hL : L ≤ 1048576) (hin : PArg w p ps) :
    Calls Tryz.prog 9 #[.slice p ps.length cap, .int .i64 L] w fun e w' => e = .returned (.int .i64 (szR L (ps.length + szPs ps))) ∧ Below w.heap.size w w' := by
  have HI : Hid (PArg w p ps) := hin
  have hn := hin.len
  clear hin
  by_cases h : ps.length ≤ L
  · have h0 : ¬ ((L : Int) - ps.length < 0) := by omega
    go_enter Tryz.func9, Tryz.ntmps9
    go_wp2_with fail
    have HL : Hid (ps.length ≤ L) := h
    clear h h0
    go_loopw [1, 5] (fun l i wr => ∃ k : Nat, k ≤ ps.length ∧ i = .int .i64 k ∧ Hid (ps.length + szPs (ps.take k) ≤ L) ∧ l = .int .i64 ((L : Int) - (ps.length + szPs (ps.take k) : Nat)) ∧ Hid (Below w.heap.size w wr)) (fun _ i _ => ps.length - (intOf i).toNat)
    case atStart => exact ⟨0, Nat.zero_le _, rfl, by simpa [szPs, Hid] using HL.out, by simp [szPs], Below.refl _ _⟩
    case round =>
      obtain ⟨k, hk, rfl, HT, rfl, HB⟩ := hrel
      by_cases hlt : k < ps.length
      · obtain ⟨b, o, rfl, hcs⟩ := (HI.out.below HB.out).lies (by omega)
        obtain ⟨q, qc, r, rc, d0, d1, d2, d3, d4, d5⟩ := hcs k hlt
        have hit := HI.out.item k hlt
        have htk : Hid _ := szPs_take ps k hlt
        have htl : Hid _ := szPs_take_le ps (k + 1)
        obtain ⟨L', eL⟩ : ∃ x, x = L - (ps.length + szPs (ps.take k)) := ⟨_, rfl⟩
        have eL' : ((L : Int) - (ps.length + szPs (ps.take k) : Nat)) = (L' : Int) := by have := HT.out; omega
        have hL' : L' ≤ 1048576 := by omega
        obtain ⟨m, em⟩ : ∃ x, x = (ps.getD k Prd.zero).1.length := ⟨_, rfl⟩
        obtain ⟨ar, ear⟩ : ∃ x, x = (ps.getD k Prd.zero).2.1 := ⟨_, rfl⟩
        obtain ⟨dy, edy⟩ : ∃ x, x = (ps.getD k Prd.zero).2.2.1 := ⟨_, rfl⟩
        obtain ⟨n, en⟩ : ∃ x, x = (ps.getD k Prd.zero).2.2.2.length := ⟨_, rfl⟩
        have HS := szPred_any (ps.getD k Prd.zero).1 ar dy (ps.getD k Prd.zero).2.2.2 q m qc r n rc L' wr em en hL' (by rw [em]; exact hit.1) hit.2.2.2 d5
        rw [eL']
        have HE : Hid (L' = L - (ps.length + szPs (ps.take k))) := eL
        obtain ⟨sz, esz⟩ : ∃ x, x = szP (ps.getD k Prd.zero) := ⟨_, rfl⟩
        rw [show (ps.getD k Prd.zero).1.length + ((ps.getD k Prd.zero).2.2.2.length + tll (ps.getD k Prd.zero).2.2.2) = sz from esz.symm] at HS
        rw [← esz] at htk
        rw [← em] at d0
        rw [← ear] at d1
        rw [← edy] at d2
        rw [← en] at d3
        clear eL eL' hcs d4 d5 hit em ear edy en esz
        by_cases hfit : sz ≤ L'
        · have e : szR L' sz = (L' : Int) - sz := by simp [szR, hfit]
          rw [e] at HS
          have h0' : ¬ ((L' : Int) - sz < 0) := by omega
          go_wp2_with fail
          refine HS.mono ?_
          rintro e w' ⟨rfl, hb1⟩
          go_wp2_with fail
          go_roundw
          case rel => exact ⟨k + 1, by omega, by go_num, by have := HT.out; have := htk.out; have := HE.out; show _ ≤ _; omega, by have := HT.out; have := htk.out; have := HE.out; congr 1; omega, Below.on HB.out hb1⟩
          case measure => simp [intOf]; omega
        · have e : szR L' sz = -1 := by simp [szR, hfit]
          rw [e] at HS
          go_wp2_with fail
          refine HS.mono ?_
          rintro e w' ⟨rfl, hb1⟩
          go_wp2_with fail
          go_ret
          refine ⟨ret_int ?_, Below.on HB.out hb1⟩
          have := HT.out; have := htk.out; have := HE.out; have := htl.out
          rw [szR, if_neg (by omega)]
      · obtain rfl : k = ps.length := by omega
        have hfull : ps.take ps.length = ps := List.take_length
        rw [hfull] at HT ⊢
        clear hfull
        go_wp2_with fail
        go_ret
        exact ⟨ret_int (by rw [szR, if_pos HT.out]), HB.out⟩
  · have e : szR L (ps.length + szPs ps) = -1 := by rw [szR, if_neg (by omega)]
    rw [e]
    have h0 : (L : Int) - ps.length < 0 := by omega
    go_enter Tryz.func9, Tryz.ntmps9
    go_wp2_with fail
    go_ret
    exact ⟨rfl, Below.refl _ _⟩
def szPr (ps : List Prd) (gs : List (List Cel)) : Nat := (ps.length + szPs ps) + (gs.length + tll gs)
set_option maxRecDepth 100000 in
theorem szProg_any (p : Option Addr) (cp : Nat) (ps : List Prd) (g : Option Addr) (cg : Nat) (gs : List (List Cel)) (L : Nat) (w : World) (hL : L ≤ 1048576) (hp : PArg w p ps) (hg : CCArg w g gs) :
    Calls Tryz.prog 4 #[.agg #[.slice p ps.length cp, .slice g gs.length cg], .int .i64 L] w fun e w' => e = .returned (.int .i64 (szR L (szPr ps gs))) ∧ Below w.heap.size w w' := by
  have HB : Hid (∀ o, Below w.heap.size w (w.alloc o)) := fun o => (Below.refl _ _).alloc (Nat.le_refl _) _
  obtain ⟨np, enp⟩ : ∃ x, x = ps.length := ⟨_, rfl⟩
  obtain ⟨ng, eng⟩ : ∃ x, x = gs.length := ⟨_, rfl⟩
  have HS : Hid (∀ W, Below w.heap.size w W → Calls Tryz.prog 9 #[.slice p np cp, .int .i64 L] W fun e w' => e = .returned (.int .i64 (szR L (ps.length + szPs ps))) ∧ Below W.heap.size W w') := fun W hW => by rw [enp]; exact szPs_any p cp ps L W hL (hp.below hW)
  have HG : Hid (∀ L2 W, L2 ≤ 1048576 → Below w.heap.size w W → Calls Tryz.prog 10 #[.slice g ng cg, .int .i64 (L2 : Nat)] W fun e w' => e = .returned (.int .i64 (szR L2 (gs.length + tll gs))) ∧ Below W.heap.size W w') := fun L2 W hL2 hW => by rw [eng]; exact szSS_any g cg gs L2 W hL2 (hg.below hW)
  rw [← enp, ← eng]
  by_cases h : ps.length + szPs ps ≤ L
  · obtain ⟨L2, eL⟩ : ∃ x, x = L - (ps.length + szPs ps) := ⟨_, rfl⟩
    have e1 : szR L (ps.length + szPs ps) = (L2 : Int) := by rw [szR, if_pos h]; omega
    have h2 : L2 ≤ 1048576 := by omega
    have hl2 : ¬ ((L2 : Int) < 0) := by omega
    have HG2 := fun W hW => HG.out L2 W h2 hW
    rw [e1] at HS
    by_cases h3 : gs.length + tll gs ≤ L2
    · have e2 : szR L2 (gs.length + tll gs) = ((L2 - (gs.length + tll gs) : Nat) : Int) := by rw [szR, if_pos h3]; omega
      have e3 : szR L (szPr ps gs) = ((L2 - (gs.length + tll gs) : Nat) : Int) := by unfold szPr; rw [szR, if_pos (by omega)]; omega
      rw [e3]
      obtain ⟨L3, eL3⟩ : ∃ x, x = L2 - (gs.length + tll gs) := ⟨_, rfl⟩
      rw [← eL3] at e2 ⊢
      rw [e2] at HG2
      have HG3 : Hid _ := HG2
      have hl3 : ¬ ((L3 : Int) < 0) := by omega
      clear h h3 eL e1 e2 e3 eL3 hp hg enp eng HG2 HG
      go_enter Tryz.func4, Tryz.ntmps4
      go_wp2_with fail
      refine (HS.out _ (HB.out _)).mono ?_
      rintro e w1 ⟨rfl, hb1⟩
      have HB1 : Hid (Below w.heap.size w w1) := Below.on (HB.out _) hb1
      have k1 := (hb1.block w.heap.size (by simp)).trans (heap_alloc_new w _)
      have c0 := cell_of_row _ _ 0 _ _ _ k1
      have c1 := cell_of_row _ _ 1 _ _ _ k1
      simp at c0 c1
      clear hb1 k1
      go_wp2_with fail
      refine (HG3.out _ HB1.out).mono ?_
      rintro e w2 ⟨rfl, hb2⟩
      have HB2 : Hid (Below w.heap.size w w2) := Below.on HB1.out hb2
      clear hb2
      go_wp2_with fail
      go_ret
      exact ⟨rfl, HB2.out⟩
    · have e2 : szR L2 (gs.length + tll gs) = -1 := by rw [szR, if_neg h3]
      have e3 : szR L (szPr ps gs) = -1 := by unfold szPr; rw [szR, if_neg (by omega)]
      rw [e3]
      rw [e2] at HG2
      have HG3 : Hid _ := HG2
      clear h h3 eL e1 e2 e3 hp hg enp eng HG2 HG
      go_enter Tryz.func4, Tryz.ntmps4
      go_wp2_with fail
      refine (HS.out _ (HB.out _)).mono ?_
      rintro e w1 ⟨rfl, hb1⟩
      have HB1 : Hid (Below w.heap.size w w1) := Below.on (HB.out _) hb1
      have k1 := (hb1.block w.heap.size (by simp)).trans (heap_alloc_new w _)
      have c0 := cell_of_row _ _ 0 _ _ _ k1
      have c1 := cell_of_row _ _ 1 _ _ _ k1
      simp at c0 c1
      clear hb1 k1
      go_wp2_with fail
      refine (HG3.out _ HB1.out).mono ?_
      rintro e w2 ⟨rfl, hb2⟩
      have HB2 : Hid (Below w.heap.size w w2) := Below.on HB1.out hb2
      clear hb2
      go_wp2_with fail
      go_ret
      exact ⟨rfl, HB2.out⟩
  · have e1 : szR L (ps.length + szPs ps) = -1 := by rw [szR, if_neg h]
    have e3 : szR L (szPr ps gs) = -1 := by unfold szPr; rw [szR, if_neg (by omega)]
    rw [e1] at HS
    rw [e3]
    clear h e1 e3 hp hg enp eng HG
    go_enter Tryz.func4, Tryz.ntmps4
    go_wp2_with fail
    refine (HS.out _ (HB.out _)).mono ?_
    rintro e w1 ⟨rfl, hb1⟩
    have HB1 : Hid (Below w.heap.size w w1) := Below.on (HB.out _) hb1
    clear hb1
    go_wp2_with fail
    go_ret
    exact ⟨rfl, HB1.out⟩
end Go.Proofs.YtfgaenggbbgboaaGreatDoor

namespace Go.Proofs.YtfgaenggbbgboaaGreatDoor
open Go Go.RowKit
set_option linter.unusedVariables false
def AppOut (w : World) (B : Nat) (cs ds : List Cel) (e : Ending) (w' : World) : Prop :=
  ∃ p n c, e = .returned (.slice p n c) ∧ OwnC w' B p n c (cs ++ ds) ∧ Below B w w'
theorem news_rc {w : World} {d : Nat} {r : RC} (h : Box3 w d (.int .i64 r.1) (.int .i64 r.2.1) (.slice r.2.2.1 r.2.2.2.1 r.2.2.2.2)) : ∀ j u, (rcV r)[j]? = some u → w.cell? ((⟨d, 0, none⟩ : Addr).add j) = some u := fun j u hu => by
  have e : (⟨d, 0, none⟩ : Addr).add j = ⟨d, j, none⟩ := by unfold Addr.add; split <;> simp_all
  rw [e]
  rcases j with _ | _ | _ | j
  · simp only [rcV, List.getElem?_cons_zero, Option.some.injEq] at hu; rw [← hu]; exact h.1
  · simp only [rcV, List.getElem?_cons_succ, List.getElem?_cons_zero, Option.some.injEq] at hu; rw [← hu]; exact h.2.1
  · simp only [rcV, List.getElem?_cons_succ, List.getElem?_cons_zero, Option.some.injEq] at hu; rw [← hu]; exact h.2.2.1
  · simp [rcV] at hu
theorem appVar_any (x : Int) (p : Option Addr) (n c : Nat) (cs : List Cel) (B : Nat) (w : World) (hB : B ≤ w.heap.size) (hn : n ≤ 100000000) (ho : OwnC w B p n c cs) :
    Calls Tryz.prog 441 #[.int .i64 x, .slice p n c] w (AppOut w B cs [(0, x, [])]) := by
  have HO : Hid (OwnC w B p n c cs) := ho
  have hb : Below w.heap.size w (w.alloc (Obj.cells #[Value.int IntKind.i64 0, Value.int IntKind.i64 x, Value.slice none 0 0] 69)) := (Below.refl _ _).alloc (Nat.le_refl _) _
  have HB : Hid _ := hb
  have HX : Hid (Box3 (w.alloc (Obj.cells #[Value.int IntKind.i64 0, Value.int IntKind.i64 x, Value.slice none 0 0] 69)) w.heap.size (.int .i64 0) (.int .i64 x) (.slice none 0 0)) := Box3.of_block (t := 69) (heap_alloc_new _ _)
  clear ho hb
  go_enter Tryz.func441, Tryz.ntmps441
  go_wp2_with (at_builtin; refine app_cell w _ rfl _ _ rfl B p n c cs rfl HO.out HB.out hB ⟨w.heap.size, 0, none⟩ 1 rfl 0 x none 0 0 [] ⟨rfl, fun h => absurd h (Nat.lt_irrefl 0)⟩ (news_rc HX.out) (by omega) ?_; intro g n' cap w1 hown1 hb1 hn1)
  go_ret
  exact ⟨_, _, _, rfl, hown1, ((Below.refl _ _).alloc hB _).trans hb1⟩
theorem appNum_any (x : Int) (p : Option Addr) (n c : Nat) (cs : List Cel) (B : Nat) (w : World) (hB : B ≤ w.heap.size) (hn : n ≤ 100000000) (ho : OwnC w B p n c cs) :
    Calls Tryz.prog 442 #[.int .i64 x, .slice p n c] w (AppOut w B cs [(1, x, [])]) := by
  have HO : Hid (OwnC w B p n c cs) := ho
  have hb : Below w.heap.size w (w.alloc (Obj.cells #[Value.int IntKind.i64 1, Value.int IntKind.i64 x, Value.slice none 0 0] 69)) := (Below.refl _ _).alloc (Nat.le_refl _) _
  have HB : Hid _ := hb
  have HX : Hid (Box3 (w.alloc (Obj.cells #[Value.int IntKind.i64 1, Value.int IntKind.i64 x, Value.slice none 0 0] 69)) w.heap.size (.int .i64 1) (.int .i64 x) (.slice none 0 0)) := Box3.of_block (t := 69) (heap_alloc_new _ _)
  clear ho hb
  go_enter Tryz.func442, Tryz.ntmps442
  go_wp2_with (at_builtin; refine app_cell w _ rfl _ _ rfl B p n c cs rfl HO.out HB.out hB ⟨w.heap.size, 0, none⟩ 1 rfl 1 x none 0 0 [] ⟨rfl, fun h => absurd h (Nat.lt_irrefl 0)⟩ (news_rc HX.out) (by omega) ?_; intro g n' cap w1 hown1 hb1 hn1)
  go_ret
  exact ⟨_, _, _, rfl, hown1, ((Below.refl _ _).alloc hB _).trans hb1⟩
theorem appAtom_any (xs : List Int) (hx : Byte xs) (p : Option Addr) (n c : Nat) (cs : List Cel) (B : Nat) (w : World) (hB : B ≤ w.heap.size) (hn : n ≤ 100000000) (ho : OwnC w B p n c cs) :
    Calls Tryz.prog 444 #[.string (strOfNums xs), .slice p n c] w (AppOut w B cs [(2, 0, xs)]) := by
  have HO : Hid (OwnC w B p n c cs) := ho
  obtain ⟨w1, cap1, hcv, hb1, ht⟩ := conv_bytes w xs hx 121 Tryz.underlying121
  obtain ⟨m, em⟩ : ∃ m, m = xs.length := ⟨_, rfl⟩
  obtain ⟨str, es⟩ : ∃ str, str = strOfNums xs := ⟨_, rfl⟩
  rw [← em] at hcv ht
  rw [← es] at hcv ⊢
  have hs1 := hb1.size
  have hb : Below w1.heap.size w1 (w1.alloc (Obj.cells #[Value.int IntKind.i64 2, Value.int IntKind.i64 0, Value.slice (some ⟨w.heap.size, 0, none⟩) m cap1] 69)) := (Below.refl _ _).alloc (Nat.le_refl _) _
  have HB : Hid (Below w.heap.size w (w1.alloc (Obj.cells #[Value.int IntKind.i64 2, Value.int IntKind.i64 0, Value.slice (some ⟨w.heap.size, 0, none⟩) m cap1] 69))) := Below.on hb1 hb
  have HT : Hid (OwnT (w1.alloc (Obj.cells #[Value.int IntKind.i64 2, Value.int IntKind.i64 0, Value.slice (some ⟨w.heap.size, 0, none⟩) m cap1] 69)) w.heap.size (some ⟨w.heap.size, 0, none⟩) m cap1 xs) := ht.below hb
  have HX : Hid (Box3 (w1.alloc (Obj.cells #[Value.int IntKind.i64 2, Value.int IntKind.i64 0, Value.slice (some ⟨w.heap.size, 0, none⟩) m cap1] 69)) w1.heap.size (.int .i64 2) (.int .i64 0) (.slice (some ⟨w.heap.size, 0, none⟩) m cap1)) := Box3.of_block (t := 69) (heap_alloc_new _ _)
  have HS : Hid (Below B w (w1.alloc (Obj.cells #[Value.int IntKind.i64 2, Value.int IntKind.i64 0, Value.slice (some ⟨w.heap.size, 0, none⟩) m cap1] 69))) := HB.out.mono hB
  clear ho hb hb1 ht em es hx
  go_enter Tryz.func444, Tryz.ntmps444
  go_wp2_with (at_builtin; refine app_cell w _ rfl _ _ rfl B p n c cs rfl HO.out HB.out hB ⟨w1.heap.size, 0, none⟩ 1 rfl 2 0 (some ⟨w.heap.size, 0, none⟩) m cap1 xs HT.out (news_rc HX.out) (by omega) ?_; intro g n' cap w2 hown1 hb2 hn1)
  go_ret
  exact ⟨_, _, _, rfl, hown1, HS.out.trans hb2⟩
end Go.Proofs.YtfgaenggbbgboaaGreatDoor

namespace Go.Proofs.YtfgaenggbbgboaaGreatDoor
open Go Go.RowKit
set_option linter.unusedVariables false
def CompAt (w : World) (B : Nat) (s : List Int) (k : Fo) (b g : Nat) (vs : List Value) : Prop :=
  B ≤ b ∧ B ≤ g ∧ w.cell? ⟨b, 0, none⟩ = some (.string (strOfNums s)) ∧ w.cell? ⟨b, 1, none⟩ = some (.slice (some ⟨g, 0, none⟩) vs.length vs.length) ∧ g < w.heap.size ∧ (∀ i, i < vs.length → w.cell? ⟨g, i, none⟩ = some (vs.getD i .nilIface)) ∧ FoIn w B k vs
set_option maxRecDepth 20000 in
set_option maxHeartbeats 2000000 in
theorem appComp_any : ∀ (N : Nat) (s : List Int) (k : Fo) (b g : Nat) (vs : List Value) (p : Option Addr) (n cp : Nat) (cs : List Cel) (Bt B : Nat) (w0 w : World), k.cells.length ≤ N → k.ok → Byte s → CompAt w0 Bt s k b g vs → Below w0.heap.size w0 w → w0.heap.size ≤ B → B ≤ w.heap.size →
    OwnC w B p n cp cs → n + 1 + k.cells.length ≤ 1000000 → Calls Tryz.prog 446 #[.pointer (some ⟨b, 0, none⟩), .slice p n cp] w (AppOut w B cs ((3, k.count, s) :: k.cells)) := by
  intro N
  induction N using Nat.strongRecOn with
  | _ N ih =>
    intro s k b g vs p n cp cs Bt B w0 w hN hok hs hcomp hw hB0 hB ho hn
    have HO : Hid (OwnC w B p n cp cs) := ho
    have HC : Hid (CompAt w0 Bt s k b g vs) := hcomp
    have HW : Hid (Below w0.heap.size w0 w) := hw
    obtain ⟨w1, cap1, hcv, hb1, ht⟩ := conv_bytes w.drew s hs 9 Tryz.underlying9
    have hvl : vs.length = k.count := FoIn.count _ _ hcomp.2.2.2.2.2.2
    have c0 := (hw.cell (World.block_lt_of_cell? _ _ hcomp.2.2.1)).trans hcomp.2.2.1
    have c1 := (hw.cell (World.block_lt_of_cell? _ _ hcomp.2.2.2.1)).trans hcomp.2.2.2.1
    have hw1 : Below w.heap.size w w1 := (Below.refl _ _).drew.trans hb1
    have d0 := (hw1.cell (World.block_lt_of_cell? _ _ c0)).trans c0
    have d1 := (hw1.cell (World.block_lt_of_cell? _ _ c1)).trans c1
    obtain ⟨m, em⟩ : ∃ m, m = s.length := ⟨_, rfl⟩
    obtain ⟨str, es⟩ : ∃ str, str = strOfNums s := ⟨_, rfl⟩
    obtain ⟨q, eq⟩ : ∃ q, q = vs.length := ⟨_, rfl⟩
    rw [← em] at hcv ht
    rw [← es] at hcv c0 d0
    rw [← eq] at c1 d1
    have hs1 := hb1.size
    have hcv' : (convert 9 37 (.string str)).run Tryz.prog w.drew = .ok (.slice (some ⟨w.heap.size, 0, none⟩) m cap1) w1 := hcv
    have ht' : OwnT w1 w.heap.size (some ⟨w.heap.size, 0, none⟩) m cap1 s := ht
    have hb : Below w1.heap.size w1 (w1.alloc (Obj.cells #[Value.int IntKind.i64 3, Value.int IntKind.i64 q, Value.slice (some ⟨w.heap.size, 0, none⟩) m cap1] 69)) := (Below.refl _ _).alloc (Nat.le_refl _) _
    have HB : Hid (Below w.heap.size w (w1.alloc (Obj.cells #[Value.int IntKind.i64 3, Value.int IntKind.i64 q, Value.slice (some ⟨w.heap.size, 0, none⟩) m cap1] 69))) := Below.on hw1 hb
    have HT : Hid (OwnT (w1.alloc (Obj.cells #[Value.int IntKind.i64 3, Value.int IntKind.i64 q, Value.slice (some ⟨w.heap.size, 0, none⟩) m cap1] 69)) w.heap.size (some ⟨w.heap.size, 0, none⟩) m cap1 s) := ht'.below hb
    have HX : Hid (Box3 (w1.alloc (Obj.cells #[Value.int IntKind.i64 3, Value.int IntKind.i64 q, Value.slice (some ⟨w.heap.size, 0, none⟩) m cap1] 69)) w1.heap.size (.int .i64 3) (.int .i64 q) (.slice (some ⟨w.heap.size, 0, none⟩) m cap1)) := Box3.of_block (t := 69) (heap_alloc_new _ _)
    have HIH : Hid _ := ih
    have HE : Hid (q = vs.length ∧ vs.length = k.count) := ⟨eq, hvl⟩
    have hq : q ≤ 1000000 := by have := Fo.count_le k; omega
    clear ih ho hcomp hw em es eq hvl hb1 ht ht' hcv hb hw1
    go_enter Tryz.func446, Tryz.ntmps446
    go_upto_region 1 with fail
    go_cut [1] from 7 (fun v wc => ∃ g2 n2 c2, v = .slice (some ⟨g2, 0, none⟩) n2 c2 ∧ Hid (OwnC wc B (some ⟨g2, 0, none⟩) n2 c2 (cs ++ [((3, (q : Int), s) : Cel)])) ∧ Hid (Below B w wc) ∧ n2 = n + 1)
    case first =>
      go_region_law (refine step_app_cell w _ rfl _ _ rfl B p n cp cs rfl HO.out HB.out hB ⟨w1.heap.size, 0, none⟩ 1 rfl 3 q (some ⟨w.heap.size, 0, none⟩) m cap1 s HT.out (news_rc HX.out) (by omega) ?_; intro g1 n1 cap2 w2 hown1 hb2 hn1)
      all_goals go_wp2_with fail
      all_goals go_meet
      all_goals exact ⟨g1, n1, cap2, rfl, hown1, (HB.out.mono hB).trans hb2, hn1⟩
    case rest =>
      obtain ⟨g2, n2, c2, rfl, HO2, HB2, hn2⟩ := hcut
      have e1 : wc.cell? ⟨b, 1, none⟩ = some (.slice (some ⟨g, 0, none⟩) q q) := (HB2.out.cell (p := ⟨b, 1, none⟩) (by have := World.block_lt_of_cell? _ _ HC.out.2.2.2.1; show b < B; simp at this; omega)).trans c1
      clear c0 c1 d0 d1 hcv' HO HB HT HX
      go_wp2_with fail
      go_loopw [1, 26] (fun v i wr => ∃ (D R : Fo) (us vs2 : List Value) (j : Nat) (p4 : Option Addr) (n4 c4 : Nat), j ≤ q ∧ n4 ≤ 1000000 ∧ i = .int .i64 j ∧ v = .slice p4 n4 c4 ∧ Hid (k = D.cat R ∧ vs = us ++ vs2 ∧ us.length = j ∧ n4 = n + 1 + D.cells.length) ∧ Hid (FoIn w0 Bt R vs2) ∧
        Hid (OwnC wr B p4 n4 c4 (cs ++ ((3, (q : Int), s) : Cel) :: D.cells)) ∧ Hid (Below B w wr)) (fun _ i _ => q - (intOf i).toNat)
      case atStart => exact ⟨.nil, k, [], vs, 0, _, _, _, Nat.zero_le _, by omega, rfl, rfl, ⟨rfl, rfl, rfl, by simp [Fo.cells, hn2]⟩, HC.out.2.2.2.2.2.2, HO2, HB2⟩
      case round =>
        obtain ⟨D, R, us, vs2, j, p4, n4, c4, hj, hn4, rfl, rfl, HF, HR, HO4, HB4⟩ := hrel
        by_cases hlt : j < q
        · obtain ⟨c', k', r', rfl⟩ : ∃ c' k' r', R = .node c' k' r' := by
            cases R with
            | nil =>
              have h1 := HF.out
              have h2 : vs2 = [] := HR.out
              have h3 := HE.out.1
              rw [h1.2.1, h2, List.append_nil] at h3
              omega
            | node c' k' r' => exact ⟨c', k', r', rfl⟩
          obtain ⟨v, vr, rfl, hnode, hrest⟩ := HR.out
          have hok2 := (Fo.ok_cat D (.node c' k' r')).1 (HF.out.1 ▸ hok)
          have hlen : D.cells.length + (k'.cells.length + r'.cells.length + 1) = k.cells.length := by
            rw [HF.out.1, Fo.cells_cat]; simp [Fo.cells]
          have hat : w0.cell? ⟨g, j, none⟩ = some v := by
            rw [HC.out.2.2.2.2.2.1 j (by rw [← HE.out.1]; exact hlt), HF.out.2.1]
            simp [List.getD, HF.out.2.2.1]
          have hwr : Below w0.heap.size w0 wr := HW.out.trans (HB4.out.mono hB0)
          have c5 : wr.cell? ⟨g, j, none⟩ = some v := (hwr.cell (World.block_lt_of_cell? _ _ hat)).trans hat
          have next : ∀ p3 n3 c3 w3, OwnC w3 B p3 n3 c3 ((cs ++ ((3, (q : Int), s) : Cel) :: D.cells) ++ (c' :: k'.cells)) → Below B wr w3 →
              ∃ (D R : Fo) (us vs2 : List Value) (j' : Nat) (p4 : Option Addr) (n4 c4 : Nat), j' ≤ q ∧ n4 ≤ 1000000 ∧ Value.int .i64 ((j : Int) + 1) = .int .i64 j' ∧ Value.slice p3 n3 c3 = .slice p4 n4 c4 ∧ Hid (k = D.cat R ∧ vs = us ++ vs2 ∧ us.length = j' ∧ n4 = n + 1 + D.cells.length) ∧ Hid (FoIn w0 Bt R vs2) ∧
                Hid (OwnC w3 B p4 n4 c4 (cs ++ ((3, (q : Int), s) : Cel) :: D.cells)) ∧ Hid (Below B w w3) := fun p3 n3 c3 w3 h1 h2 => by
            have e3 := h1.1
            have e4 := HO4.out.1
            have e5 := HF.out.2.2.2
            simp only [List.length_append, List.length_cons] at e3 e4
            refine ⟨D.cat (.node c' k' .nil), r', us ++ [v], vr, j + 1, p3, n3, c3, by omega, by omega, by go_num, rfl, ⟨by rw [Fo.cat_assoc]; exact HF.out.1, by rw [HF.out.2.1]; simp, by simp [HF.out.2.2.1], ?_⟩, hrest, ?_, HB4.out.trans h2⟩
            · rw [Fo.cells_cat]; simp [Fo.cells]; omega
            · show OwnC _ _ _ _ _ _
              rw [Fo.cells_cat]; simpa [Fo.cells] using h1
          have NEXT : Hid _ := next
          clear next
          have hB4 : B ≤ wr.heap.size := Nat.le_trans hB HB4.out.size
          rcases hnode with ⟨h0, rfl⟩ | ⟨h0, rfl⟩ | ⟨h0, rfl⟩ | ⟨h0, b5, g5, kv, rfl, h5⟩
          · have hk' : k' = .nil := hok2.2.2.2.2.1 (by rw [h0]; decide)
            have hcl := hok2.2.1
            obtain ⟨c0, c1, c2'⟩ := c'
            simp only at h0 hcl
            subst h0 hk'
            have e : c2' = [] := by simp [cellB] at hcl; exact hcl.2.2
            subst e
            have HS := appVar_any c1 p4 n4 c4 _ B wr hB4 (by omega) HO4.out
            clear hok2 hlen hat hcl hrest hwr HO4 HR HIH
            go_wp2_with fail
            refine HS.mono ?_
            rintro e w3 ⟨p3, n3, c3, rfl, hown3, hb3⟩
            go_wp2_with fail
            go_roundw
            case rel => exact NEXT.out p3 n3 c3 w3 hown3 hb3
            case measure => simp [intOf]; omega
          · have hk' : k' = .nil := hok2.2.2.2.2.1 (by rw [h0]; decide)
            have hcl := hok2.2.1
            obtain ⟨c0, c1, c2'⟩ := c'
            simp only at h0 hcl
            subst h0 hk'
            have e : c2' = [] := by simp [cellB] at hcl; exact hcl.2.2
            subst e
            have HS := appNum_any c1 p4 n4 c4 _ B wr hB4 (by omega) HO4.out
            clear hok2 hlen hat hcl hrest hwr HO4 HR HIH
            go_wp2_with fail
            refine HS.mono ?_
            rintro e w3 ⟨p3, n3, c3, rfl, hown3, hb3⟩
            go_wp2_with fail
            go_roundw
            case rel => exact NEXT.out p3 n3 c3 w3 hown3 hb3
            case measure => simp [intOf]; omega
          · have hk' : k' = .nil := hok2.2.2.2.2.1 (by rw [h0]; decide)
            have hcl := hok2.2.1
            have hby := hok2.2.2.1
            obtain ⟨c0, c1, c2'⟩ := c'
            simp only at h0 hcl hby c5
            subst h0 hk'
            have e : c1 = 0 := by simp [cellB] at hcl; exact hcl.2
            subst e
            have HS := appAtom_any c2' hby p4 n4 c4 _ B wr hB4 (by omega) HO4.out
            obtain ⟨st, est⟩ : ∃ st, st = strOfNums c2' := ⟨_, rfl⟩
            rw [← est] at HS c5
            clear hok2 hlen hat hcl hrest hwr HO4 HR HIH hby est
            go_wp2_with fail
            refine HS.mono ?_
            rintro e w3 ⟨p3, n3, c3, rfl, hown3, hb3⟩
            go_wp2_with fail
            go_roundw
            case rel => exact NEXT.out p3 n3 c3 w3 hown3 hb3
            case measure => simp [intOf]; omega
          · have hcl := hok2.2.1
            have hby := hok2.2.2.1
            have hcn := hok2.2.2.2.1 h0
            obtain ⟨c0, c1, c2'⟩ := c'
            simp only at h0 hcl hby hcn h5
            subst h0 hcn
            have HS := HIH.out k'.cells.length (by omega) c2' k' b5 g5 kv p4 n4 c4 _ Bt B w0 wr (Nat.le_refl _) hok2.2.2.2.2.2.1 hby h5 hwr hB0 hB4 HO4.out (by have := HF.out.2.2.2; omega)
            clear hok2 hlen hat hcl hrest hwr HO4 HR HIH hby h5
            go_wp2_with fail
            refine HS.mono ?_
            rintro e w3 ⟨p3, n3, c3, rfl, hown3, hb3⟩
            go_wp2_with fail
            go_roundw
            case rel => exact NEXT.out p3 n3 c3 w3 hown3 hb3
            case measure => simp [intOf]; omega
        · obtain rfl : j = q := by omega
          obtain rfl : R = .nil := by
            have h1 := FoIn.count _ _ HR.out
            have h2 := HE.out
            rw [HF.out.2.1, List.length_append] at h2
            have h3 := HF.out.2.2.1
            cases R with
            | nil => rfl
            | node a b d => simp [Fo.count] at h1; omega
          have HF' : Hid (D = k) := by have := HF.out.1; rw [Fo.cat_nil] at this; exact this.symm
          go_wp2_with fail
          go_ret
          refine ⟨_, _, _, rfl, ?_, HB4.out⟩
          have h1 := HO4.out
          rw [HF'.out, HE.out.1, HE.out.2] at h1
          exact h1
end Go.Proofs.YtfgaenggbbgboaaGreatDoor

namespace Go.Proofs.YtfgaenggbbgboaaGreatDoor
open Go Go.RowKit Go.Maps
set_option linter.unusedVariables false
theorem lawVar : Keyed Tryz.prog 119 := int_keyed Tryz.underlying119
theorem zeroVar (w : World) : (zeroValue 119).run Tryz.prog w = .ok (.int .i64 0) w := by kernel_rfl
def putV (ks : List Int) (x : Int) : List Int := if x ∈ ks then ks else ks ++ [x]
def NumMap (w : World) (b : Nat) (ks : List Int) : Prop := ∃ D : DataW Unit, w.ownsMap Tryz.prog 119 (plainElem Tryz.prog 119) b ks.length D ∧ Maps.size D = ks.length ∧ (∀ x : Int, Maps.has D (.int .i64 x) = decide (x ∈ ks)) ∧
  (∀ x ∈ ks, D.atKey (.int .i64 x) (.lit (.int .i64 0)) = .lit (.int .i64 (ks.idxOf x)))
theorem NumMap.lt {w : World} {b : Nat} {ks : List Int} (h : NumMap w b ks) : b < w.heap.size := by obtain ⟨D, h, _⟩ := h; exact h.lt
theorem NumMap.of_block {w w' : World} {b : Nat} {ks : List Int} (h : NumMap w b ks) (hb : w'.heap[b]? = w.heap[b]?) : NumMap w' b ks := by
  obtain ⟨D, ⟨es, clock, h1, r⟩, h2⟩ := h
  exact ⟨D, ⟨es, clock, hb.trans h1, r⟩, h2⟩
theorem NumMap.made (w : World) : NumMap (w.alloc (.map #[] 0)) w.heap.size [] := ⟨_, World.ownsMap_made _ _ _ _, rfl, fun x => rfl, fun x hx => by cases hx⟩
theorem of_any (b : Nat) (ks : List Int) (x : Int) (w : World) (h0 : 0 ≤ x) (h1 : x ≤ 1000000) (hl : ks.length ≤ 1000000) (hm : NumMap w b ks) :
    Calls Tryz.prog 93 #[.map (some b), .int .i64 x] w fun e w' => e = .returned (.int .i64 (ks.idxOf x)) ∧ NumMap w' b (putV ks x) ∧ w.grownBy w' (some b) := by
  obtain ⟨D, hown, hsz, hhas, hat⟩ := hm
  have hk := keyOf_int_mk (P := Tryz.prog) Tryz.underlying119 (q := .i64) (a := x) (WalkArith.wf_i64 (by omega))
  by_cases hx : x ∈ ks
  · have hh : Maps.has D (.int .i64 x) = true := by rw [hhas]; simpa using hx
    have hv := hat x hx
    have HO : Hid (NumMap w b (putV ks x)) := by rw [putV, if_pos hx]; exact ⟨D, hown, hsz, hhas, hat⟩
    clear hhas hat
    go_enter Tryz.func93, Tryz.ntmps93
    go_wp2_with (at_lookup; refine wpList_lookup_own_ok_int _ rfl _ _ 138 rfl 119 119 .i64 lawVar Tryz.underlying138 Tryz.underlying119 (zeroVar _) b ks.length D rfl hown _ _ rfl hk ?_; intro c hc hwc; rw [hh]; obtain rfl : c = ks.idxOf x := by (rw [hv] at hc; cases hc; rfl))
    go_ret
    exact ⟨rfl, HO.out, ⟨rfl, rfl, rfl, Nat.le_refl _, fun _ _ _ => rfl⟩⟩
  · have hh : Maps.has D (.int .i64 x) = false := by rw [hhas]; simpa using hx
    have hi : ks.idxOf x = ks.length := List.idxOf_eq_length hx
    have hkl : WideAt.IsKeyLit (.int .i64 x) := trivial
    have HF : Hid (∀ w', w'.ownsMap Tryz.prog 119 (plainElem Tryz.prog 119) b (ks.length + 1) (D.put (.int .i64 x) (.lit (.int .i64 ks.length))) → NumMap w' b (putV ks x)) := fun w' h => by
      have hm := hown.isMap
      rw [putV, if_neg hx]
      refine ⟨_, by simpa using h, ?_, fun y => ?_, fun y hy => ?_⟩
      · rw [size_put (hown.tidy lawVar), hh, hsz]; simp
      · by_cases e : y = x
        · subst e; rw [has_put_same hm hkl]; simp
        · rw [has_put_other (by simpa using e), hhas]; simp [e]
      · by_cases e : y = x
        · subst e
          rw [atKey_put_same hm hkl, List.idxOf_append, if_neg hx]
          simp
        · have hy' : y ∈ ks := by simpa [e] using hy
          rw [atKey_put_other (by simpa using e), hat y hy', List.idxOf_append, if_pos hy']
    rw [hi]
    obtain ⟨l, el⟩ : ∃ l, l = ks.length := ⟨_, rfl⟩
    rw [← el] at hown hsz hl HF ⊢
    clear hhas hat hi hx el
    go_enter Tryz.func93, Tryz.ntmps93
    go_wp2_with (first
      | (at_lookup; refine wpList_lookup_own_ok_int _ rfl _ _ 138 rfl 119 119 .i64 lawVar Tryz.underlying138 Tryz.underlying119 (zeroVar _) b l D rfl hown _ _ rfl hk ?_; intro c hc hwc; rw [hh])
      | (at_len; refine wpList_len_own _ rfl _ 138 rfl 119 119 Tryz.underlying138 _ b l D rfl hown ?_; rw [hsz])
      | (at_mapUpdate; refine wpList_mapUpdate_own _ rfl _ _ _ 138 rfl 119 119 lawVar Tryz.underlying138 _ b l D rfl hown (by unfold maxLen; omega) _ _ _ rfl rfl hk _ [] (plainElem_int Tryz.underlying119 (WalkArith.wf_i64 (by omega))) ?_; intro w1 hown1 hgrow1))
    go_ret
    exact ⟨rfl, HF.out _ hown1, hgrow1⟩
end Go.Proofs.YtfgaenggbbgboaaGreatDoor

namespace Go.Proofs.YtfgaenggbbgboaaGreatDoor
open Go Go.RowKit
set_option linter.unusedVariables false
theorem tree_of {cs : List Cel} (hb : ∀ i, i < cs.length → Byte (cs.getD i Cel.none).2.2) (hv : validB cs = true) : ∃ c k, cs = c :: k.cells ∧ (Fo.node c k .nil).ok ∧ cs.length ≤ 2000 := by
  simp only [validB, Bool.and_eq_true, decide_eq_true_eq] at hv
  obtain ⟨F, h1, h2, h3⟩ := forest_of cs 1 hb hv.2
  cases F with
  | nil => simp [Fo.count] at h1
  | node c k r =>
    cases r with
    | nil => exact ⟨c, k, by rw [← h2]; simp [Fo.cells], h3, hv.1⟩
    | node a b d => simp [Fo.count] at h1
set_option maxRecDepth 100000 in
theorem termOf_any (c : Cel) (k : Fo) (p : Option Addr) (n cap : Nat) (w : World) (hok : (Fo.node c k .nil).ok) (hn : n = k.cells.length + 1) (hc : n ≤ cap) (hm : cap ≤ 9223372036854775807) (hin : CIn w p (c :: k.cells)) :
    Calls Tryz.prog 26 #[.slice p n cap] w fun e w' => ∃ v, e = .returned v ∧ FoIn w' w.heap.size (.node c k .nil) [v] ∧ Below w.heap.size w w' := by
  have HF : Calls Tryz.prog 52 #[.slice p n cap] w (FirstOut w w c k [] cap) := firstTerm_any k.cells.length c k p n cap [] w w (Below.refl _ _) (Nat.le_refl _) hok (by rw [hn]; rfl) hc hm (by rw [List.append_nil]; exact hin)
  clear hok hin hn
  go_enter Tryz.func26, Tryz.ntmps26
  go_wp2_with fail
  refine HF.mono ?_
  rintro e w1 ⟨v, q, l, cp, rfl, _, _, _, hfo, hb⟩
  obtain ⟨vt, vx, rfl⟩ := hfo.iface
  have HFO : Hid (FoIn w1 w.heap.size (.node c k .nil) [.iface vt vx]) := hfo
  have HB : Hid (Below w.heap.size w w1) := hb
  clear hfo hb HF
  go_wp2_with fail
  go_ret
  exact ⟨_, rfl, HFO.out, HB.out⟩
end Go.Proofs.YtfgaenggbbgboaaGreatDoor

