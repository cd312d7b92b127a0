/- The law FnExactListItems, walked. Own work of the verifier. -/
import Derived.Test.YtopdhjnpcpkmlaaItems4
import Derived.Test.YtopdhjnpcpkmlaaLawVars
namespace Go.Proofs.Ytopdhjnpcpkmlaa
open Go Go.RowKit
set_option linter.unusedVariables false

theorem OwnCC.len' {w : World} {B U : Nat} {p : Option Addr} {n c : Nat} {css : List (List Cel)} (h : OwnCC w B U p n c css) : n = css.length := by obtain ⟨ds, h⟩ := h; exact h.len
theorem tl_append : ∀ a b : List Cel, tl (a ++ b) = tl a + tl b
  | [], b => by simp [tl]
  | x :: r, b => by simp only [List.cons_append, tl, tl_append r b]; omega
theorem ok_tl : ∀ F : Fo, F.ok → tl F.cells ≤ 100 * F.cells.length
  | .nil, _ => by simp [Fo.cells, tl]
  | .node c k r, h => by
    have h1 := ok_tl k h.2.2.2.2.1
    have h2 := ok_tl r h.2.2.2.2.2
    have h3 : c.2.2.length ≤ 100 := by have := h.1; simp only [cellB, decide_eq_true_eq] at this; omega
    simp only [Fo.cells, tl, tl_append, List.length_cons, List.length_append]; omega
theorem items_bound {cs : List Cel} {c : Cel} {k : Fo} (hok : (Fo.node c k .nil).ok) (ecs : cs = c :: k.cells) (hlen : cs.length ≤ 2000) : (itemsR c k).1.length + tll (itemsR c k).1 ≤ 400000 := by
  unfold itemsR
  split
  · have h1 := split_tl k.cells.length c k (Nat.le_refl _)
    have h2 := (split_size k.cells.length c k (Nat.le_refl _)).1
    have h3 : ∀ l : List (Cel × Fo), l.length ≤ (l.map (fun x => (itC x).length)).sum := fun l => by
      induction l with
      | nil => simp
      | cons a r ih => simp only [List.map_cons, List.sum_cons, List.length_cons, itC]; simp only [itC, List.length_cons] at ih; omega
    have h4 := h3 (splitF c k).1
    have h5 := ok_tl _ hok
    simp only [Fo.cells, List.append_nil, List.length_cons] at h5
    rw [ecs] at hlen
    simp only [List.length_cons] at hlen
    simp only [List.length_map]
    omega
  · simp [tll]
theorem specItems_bad (cs : List Cel) (p : Option Addr) (n cap : Nat) (w : World) (hv : validB cs = false) (hn : n = cs.length) (hl : n ≤ 10000000) (hin : CIn w p cs) :
    Calls Try.prog 31 #[.slice p n cap] w (ItemsOut w [] 1) := by
  subst hn
  have HV := specValid_any p cap cs w (by omega) hin
  rw [hv] at HV
  clear hin hv
  go_enter Try.func31, Try.ntmps31
  go_wp2_with fail
  refine HV.mono ?_
  rintro e w1 ⟨rfl, hb1⟩
  go_wp2_with fail
  go_ret2
  exact ⟨_, _, _, rfl, OwnCC.nil _ _ _, hb1⟩
theorem implItems_bad (cs : List Cel) (p : Option Addr) (n cap : Nat) (w : World) (hv : validB cs = false) (hn : n = cs.length) (hl : n ≤ 10000000) (hin : CIn w p cs) :
    Calls Try.prog 32 #[.slice p n cap] w (ItemsOut w [] 1) := by
  subst hn
  have HV := implValid_any p cap cs w (by omega) hin
  rw [hv] at HV
  clear hin hv
  go_enter Try.func32, Try.ntmps32
  go_wp2_with fail
  refine HV.mono ?_
  rintro e w1 ⟨rfl, hb1⟩
  go_wp2_with fail
  go_ret2
  exact ⟨_, _, _, rfl, OwnCC.nil _ _ _, hb1⟩

set_option maxRecDepth 100000 in
set_option maxHeartbeats 1000000 in
theorem lawItems_any (p : Option Addr) (cap : Nat) (cs : List Cel) (w : World) (hin : CArg w p cs) :
    Calls Try.prog 8 #[.slice p cs.length cap] w fun e w' => e = .returned (.bool true) ∧ Below w.heap.size w w' := by
  have HI : Hid (CArg w p cs) := hin
  have HS := szCellS_any p cap cs 1048576 w (Nat.le_refl _) hin.len hin.text hin.lies
  have HBY : Hid (∀ i, i < cs.length → Byte (cs.getD i Cel.none).2.2) := hin.byte
  clear hin
  by_cases hn : cs.length + tl cs ≤ 1048576
  · obtain ⟨r, er⟩ : ∃ r : Nat, szR 1048576 (cs.length + tl cs) = r := ⟨1048576 - (cs.length + tl cs), by rw [szR, if_pos hn]; omega⟩
    rw [er] at HS
    clear er
    obtain ⟨zs, code, hzl, hsp, him⟩ : ∃ (zs : List (List Cel)) (code : Int), zs.length + tll zs ≤ 400000 ∧
        (∀ (p : Option Addr) (w : World), CIn w p cs → Calls Try.prog 31 #[.slice p cs.length cs.length] w (ItemsOut w zs code)) ∧
        (∀ (p : Option Addr) (w : World), CIn w p cs → Calls Try.prog 32 #[.slice p cs.length cs.length] w (ItemsOut w zs code)) := by
      by_cases hv : validB cs = true
      · obtain ⟨c, k, ecs, hok, hlen⟩ := tree_of HBY.out hv
        refine ⟨(itemsR c k).1, (itemsR c k).2, items_bound hok ecs hlen, fun p w h => specItems_any cs p cs.length cs.length c k w hok ecs hlen hv hn rfl (Nat.le_refl _) (by omega) h, fun p w h => implItems_any cs p cs.length cs.length c k w hok ecs hlen hv rfl (Nat.le_refl _) (by omega) h⟩
      · have hv' : validB cs = false := by simpa using hv
        exact ⟨[], 1, by simp [tll], fun p w h => specItems_bad cs p cs.length cs.length w hv' rfl (by omega) h, fun p w h => implItems_bad cs p cs.length cs.length w hv' rfl (by omega) h⟩
    have HZL : Hid (zs.length + tll zs ≤ 400000) := hzl
    have HSP : Hid (∀ (p : Option Addr) (w : World), CIn w p cs → Calls Try.prog 31 #[.slice p cs.length cs.length] w (ItemsOut w zs code)) := hsp
    have HIM : Hid (∀ (p : Option Addr) (w : World), CIn w p cs → Calls Try.prog 32 #[.slice p cs.length cs.length] w (ItemsOut w zs code)) := him
    clear hzl hsp him HBY
    go_enter Try.func8, Try.ntmps8
    go_wp2_with fail
    refine HS.mono ?_
    rintro e w0 ⟨rfl, hb⟩
    have HA0 : Hid (Below w.heap.size w w0) := hb
    clear hb HS
    go_wp2_with fail
    refine (toCellS_any p cap cs w0 hn (HI.out.below HA0.out).lies).mono ?_
    rintro e w1 ⟨rfl, ho1, hb⟩
    have HC1 : Hid (CIn w1 (some ⟨w0.heap.size, 0, none⟩) cs) := ho1.cin
    have HA1 : Hid (Below w.heap.size w w1) := Below.on HA0.out hb
    clear ho1 hb
    go_wp2_with fail
    refine (HSP.out _ w1 HC1.out).mono ?_
    rintro e w2 ⟨p2, n2, c2, rfl, ho2, hb⟩
    have HZ2 : Hid (CCIn w2 p2 zs ∧ n2 = zs.length) := ⟨ho2.ccin, ho2.len'⟩
    have HA2 : Hid (Below w.heap.size w w2) := Below.on HA1.out hb
    clear ho2 hb HC1
    go_wp2_with fail
    refine (toCellS_any p cap cs w2 hn (HI.out.below HA2.out).lies).mono ?_
    rintro e w3 ⟨rfl, ho3, hb⟩
    have HX3 : Hid (OwnCU w3 w2.heap.size w3.heap.size (some ⟨w2.heap.size, 0, none⟩) cs.length cs.length cs) := ho3.up
    have HA3 : Hid (Below w.heap.size w w3) := Below.on HA2.out hb
    have HB3 : Hid (Below w2.heap.size w2 w3) := hb
    clear ho3 hb
    go_wp2_with fail
    refine (HIM.out _ w3 HX3.out.toC.cin).mono ?_
    rintro e w4 ⟨p4, n4, c4, rfl, ho4, hb⟩
    have HG4 : Hid (OwnCC w4 w3.heap.size w4.heap.size p4 n4 c4 zs) := ho4
    have HX4 : Hid (OwnCU w4 w2.heap.size w3.heap.size (some ⟨w2.heap.size, 0, none⟩) cs.length cs.length cs) := HX3.out.below hb
    have HA4 : Hid (Below w.heap.size w w4) := Below.on HA3.out hb
    have HB4 : Hid (Below w2.heap.size w2 w4) := Below.on HB3.out hb
    have HS4 : Hid (w3.heap.size ≤ w4.heap.size) := hb.size
    have HN4 : Hid (n4 = zs.length) := ho4.len'
    clear ho4 hb HX3
    go_wp2_with fail
    refine (eqSS_any p4 p2 n4 n2 c4 c2 zs w4 HN4.out HZ2.out.2 (by have := HZL.out; omega) HG4.out.ccin (HZ2.out.1.below HB4.out)).mono ?_
    rintro e w5 ⟨rfl, hb⟩
    have HG5 : Hid (OwnCC w5 w3.heap.size w4.heap.size p4 n4 c4 zs) := HG4.out.below hb
    have HX5 : Hid (OwnCU w5 w2.heap.size w3.heap.size (some ⟨w2.heap.size, 0, none⟩) cs.length cs.length cs) := HX4.out.below hb
    have HA5 : Hid (Below w.heap.size w w5) := Below.on HA4.out hb
    have HB5 : Hid (Below w2.heap.size w2 w5) := Below.on HB4.out hb
    have HS5 : Hid (w3.heap.size ≤ w5.heap.size) := Nat.le_trans HS4.out hb.size
    clear hb HG4 HX4
    go_wp2_with fail
    refine (toCellS_any p cap cs w5 hn (HI.out.below HA5.out).lies).mono ?_
    rintro e w6 ⟨rfl, ho6, hb⟩
    have HC6 : Hid (CIn w6 (some ⟨w5.heap.size, 0, none⟩) cs) := ho6.cin
    have HG6 : Hid (OwnCC w6 w3.heap.size w4.heap.size p4 n4 c4 zs) := HG5.out.below hb
    have HX6 : Hid (OwnCU w6 w2.heap.size w3.heap.size (some ⟨w2.heap.size, 0, none⟩) cs.length cs.length cs) := HX5.out.below hb
    have HA6 : Hid (Below w.heap.size w w6) := Below.on HA5.out hb
    have HB6 : Hid (Below w2.heap.size w2 w6) := Below.on HB5.out hb
    have HS6 : Hid (w3.heap.size ≤ w6.heap.size) := Nat.le_trans HS5.out hb.size
    clear ho6 hb HG5 HX5
    go_wp2_with fail
    refine (eqCellS_any _ _ _ _ cs cs w6 (by omega) (by omega) HX6.out.toC.cin HC6.out).mono ?_
    rintro e w7 ⟨rfl, hb⟩
    have HG7 : Hid (OwnCC w7 w3.heap.size w4.heap.size p4 n4 c4 zs) := HG6.out.below hb
    have HX7 : Hid (OwnCU w7 w2.heap.size w3.heap.size (some ⟨w2.heap.size, 0, none⟩) cs.length cs.length cs) := HX6.out.below hb
    have HA7 : Hid (Below w.heap.size w w7) := Below.on HA6.out hb
    have HB7 : Hid (Below w2.heap.size w2 w7) := Below.on HB6.out hb
    have HS7 : Hid (w3.heap.size ≤ w7.heap.size) := Nat.le_trans HS6.out hb.size
    clear hb HG6 HX6 HC6
    have ht : decide (cs = cs) = true := by simp
    rw [ht]
    clear ht
    go_wp2_with fail
    refine (markCells_any w2.heap.size w3.heap.size _ _ _ 1 cs w7 (by decide) (by decide) (by omega) HX7.out).mono ?_
    rintro e w8 ⟨rfl, ho8, hk⟩
    have HG8 : Hid (OwnCC w8 w3.heap.size w4.heap.size p4 n4 c4 zs) := HG7.out.keep hk (.inr (Nat.le_refl _))
    have HA8 : Hid (Below w.heap.size w w8) := HA7.out.trans (hk.below HA2.out.size HA7.out.size)
    have HB8 : Hid (Below w2.heap.size w2 w8) := HB7.out.trans (hk.below (Nat.le_refl _) HB7.out.size)
    have HS8 : Hid (w3.heap.size ≤ w8.heap.size) := Nat.le_trans HS7.out hk.size
    clear ho8 hk HG7 HX7
    obtain ⟨kk, ekk⟩ : ∃ kk, kk = endC 1 cs := ⟨_, rfl⟩
    have hkk : ¬ kk < 0 := by rw [ekk]; exact endC_pos (by decide) cs
    rw [← ekk]
    clear ekk
    go_wp2_with fail
    refine (eqSS_any p4 p2 n4 n2 c4 c2 zs w8 HN4.out HZ2.out.2 (by have := HZL.out; omega) HG8.out.ccin (HZ2.out.1.below HB8.out)).mono ?_
    rintro e w9 ⟨rfl, hb⟩
    have HG9 : Hid (OwnCC w9 w3.heap.size w4.heap.size p4 n4 c4 zs) := HG8.out.below hb
    have HA9 : Hid (Below w.heap.size w w9) := Below.on HA8.out hb
    have HB9 : Hid (Below w2.heap.size w2 w9) := Below.on HB8.out hb
    have HS9 : Hid (w3.heap.size ≤ w9.heap.size) := Nat.le_trans HS8.out hb.size
    clear hb HG8
    go_wp2_with fail
    refine (markSS_any w3.heap.size w4.heap.size p4 n4 c4 1 zs w9 (by decide) (by decide) (by have := HZL.out; omega) HG9.out).mono ?_
    rintro e w10 ⟨rfl, ho10, hg⟩
    have hb : Below w3.heap.size w9 w10 := hg.below (Nat.le_refl _) HS9.out
    have HH10 : Hid (CCIn w10 p4 (markSS 1 zs)) := ho10.ccin
    have HA10 : Hid (Below w.heap.size w w10) := HA9.out.trans (hb.mono HA3.out.size)
    have HB10 : Hid (Below w2.heap.size w2 w10) := HB9.out.trans (hb.mono HB3.out.size)
    clear hb hg ho10 HG9
    obtain ⟨mm, emm⟩ : ∃ mm, mm = endSS 1 zs := ⟨_, rfl⟩
    have hm0 : ¬ mm < 0 := by rw [emm]; have := (kS_bound 1 zs zs.length).1; simp only [endSS]; omega
    have HMM : Hid (mm = endSS 1 zs) := emm
    rw [← emm]
    clear emm
    go_wp2_with fail
    refine (heldSS_any p4 n4 c4 1 zs w10 (by decide) (by decide) (by have := HZL.out; omega) HN4.out HH10.out).mono ?_
    rintro e w11 ⟨rfl, rfl⟩
    rw [← HMM.out]
    go_wp2_with fail
    refine (toCellS_any p cap cs _ hn (HI.out.below HA10.out).lies).mono ?_
    rintro e w12 ⟨rfl, ho12, hb⟩
    have HC12 : Hid (CIn w12 _ cs) := ho12.cin
    have HH12 : Hid (CCIn w12 p4 (markSS 1 zs)) := HH10.out.below hb
    have HA12 : Hid (Below w.heap.size w w12) := Below.on HA10.out hb
    have HB12 : Hid (Below w2.heap.size w2 w12) := Below.on HB10.out hb
    clear ho12 hb HH10
    go_wp2_with fail
    refine (HIM.out _ w12 HC12.out).mono ?_
    rintro e w13 ⟨p13, n13, c13, rfl, ho13, hb⟩
    have HH13 : Hid (CCIn w13 p4 (markSS 1 zs)) := HH12.out.below hb
    have HG13 : Hid (CCIn w13 p13 zs ∧ n13 = zs.length) := ⟨ho13.ccin, ho13.len'⟩
    have HA13 : Hid (Below w.heap.size w w13) := Below.on HA12.out hb
    have HB13 : Hid (Below w2.heap.size w2 w13) := Below.on HB12.out hb
    clear ho13 hb HH12 HC12
    go_wp2_with fail
    refine (eqSS_any p13 p2 n13 n2 c13 c2 zs w13 HG13.out.2 HZ2.out.2 (by have := HZL.out; omega) HG13.out.1 (HZ2.out.1.below HB13.out)).mono ?_
    rintro e w14 ⟨rfl, hb⟩
    have HH14 : Hid (CCIn w14 p4 (markSS 1 zs)) := HH13.out.below hb
    have HA14 : Hid (Below w.heap.size w w14) := Below.on HA13.out hb
    clear hb HH13
    go_wp2_with fail
    refine (heldSS_any p4 n4 c4 1 zs w14 (by decide) (by decide) (by have := HZL.out; omega) HN4.out HH14.out).mono ?_
    rintro e w15 ⟨rfl, rfl⟩
    rw [← HMM.out]
    go_wp2_with fail
    go_ret
    exact ⟨rfl, HA14.out⟩
  · have er : szR 1048576 (cs.length + tl cs) = -1 := by rw [szR, if_neg hn]
    rw [er] at HS
    clear er HBY
    go_enter Try.func8, Try.ntmps8
    go_wp2_with (go_at_call 9; refine HS.mono ?_; rintro e w0 ⟨rfl, hb0⟩)
    go_ret
    exact ⟨rfl, hb0⟩

end Go.Proofs.Ytopdhjnpcpkmlaa
