/- Texts of UnI, UmU, BD3. Own work of the verifier. -/
import Derived.Test.YtglebnelmnnboaaUqbg
import Derived.Test.YtglebnelmnnboaaUqaq
import Derived.Test.YtglebnelmnnboaaUqbc
import Derived.Test.YtglebnelmnnboaaUqbd
import Derived.Test.YtglebnelmnnboaaUqat
namespace Go.Proofs.Ytglebnelmnnboaa
open Go Go.RowKit
set_option linter.unusedVariables false

/-- All that are bound, ascending. -/
def AscM (M : BM) (ks : List Int) : Prop := ks.Pairwise (· < ·) ∧ ∀ x, x ∈ ks ↔ (M x).isSome = true
/-- What unifying two trees answers. -/
def UniT (x y : Tr) (bs : List Bnd) (code : Int) : Prop := match runU 4 5 3 20000 (fun _ => none) [(x, y)] with
  | .error c => bs = [] ∧ code = c ∧ 3 ≤ c ∧ c ≤ 5
  | .ok (M, _) => ∃ ks, AscM M ks ∧ match bindR M ks with
    | none => bs = [] ∧ code = 3
    | some l => bs = l ∧ code = 0
def UniIs (xs ys : List Cel) (bs : List Bnd) (code : Int) : Prop :=
  (validB xs = true ∧ validB ys = true ∧ ∃ c k c' k', xs = c :: k.cells ∧ ys = c' :: k'.cells ∧ (Fo.node c k .nil).ok ∧ (Fo.node c' k' .nil).ok ∧ UniT (c, k) (c', k') bs code) ∨ (¬ (validB xs = true ∧ validB ys = true) ∧ bs = [] ∧ code = 1)
theorem asc_unique : ∀ {l l' : List Int}, l.Pairwise (· < ·) → l'.Pairwise (· < ·) → (∀ x, x ∈ l ↔ x ∈ l') → l = l'
  | [], [], _, _, _ => rfl
  | [], b :: l', _, _, h => by have := (h b).2 (by simp); simp at this
  | a :: l, [], _, _, h => by have := (h a).1 (by simp); simp at this
  | a :: l, b :: l', h1, h2, h => by
    obtain ⟨p1, p2⟩ := List.pairwise_cons.1 h1
    obtain ⟨q1, q2⟩ := List.pairwise_cons.1 h2
    have hab : a = b := by
      rcases List.mem_cons.1 ((h a).1 (by simp)) with e | e
      · exact e
      · rcases List.mem_cons.1 ((h b).2 (by simp)) with e' | e'
        · exact e'.symm
        · have := p1 b e'
          have := q1 a e
          omega
    subst hab
    rw [asc_unique p2 q2 (fun x => ⟨fun hx => by
      rcases List.mem_cons.1 ((h x).1 (List.mem_cons_of_mem _ hx)) with e | e
      · have := p1 x hx; omega
      · exact e, fun hx => by
      rcases List.mem_cons.1 ((h x).2 (List.mem_cons_of_mem _ hx)) with e | e
      · have := q1 x hx; omega
      · exact e⟩)]
theorem UniT.det {x y : Tr} {bs bs' : List Bnd} {c c' : Int} (h : UniT x y bs c) (h' : UniT x y bs' c') : bs = bs' ∧ c = c' := by
  unfold UniT at h h'
  cases hr : runU 4 5 3 20000 (fun _ => none) [(x, y)] with
  | error d =>
    rw [hr] at h h'
    exact ⟨h.1.trans h'.1.symm, h.2.1.trans h'.2.1.symm⟩
  | ok r =>
    obtain ⟨M, m⟩ := r
    rw [hr] at h h'
    obtain ⟨ks, ha, hb⟩ := h
    obtain ⟨ks', ha', hb'⟩ := h'
    obtain rfl := asc_unique ha.1 ha'.1 (fun x => (ha.2 x).trans (ha'.2 x).symm)
    cases hB : bindR M ks with
    | none => rw [hB] at hb hb'; exact ⟨hb.1.trans hb'.1.symm, hb.2.trans hb'.2.symm⟩
    | some l => rw [hB] at hb hb'; exact ⟨hb.1.trans hb'.1.symm, hb.2.trans hb'.2.symm⟩
/-- What is bound has a number that a variable may have. -/
def Rng (M : BM) : Prop := ∀ x u, M x = some u → 0 ≤ x ∧ x ≤ 1000000
theorem ok_rng {t : Tr} (h : t.fo.ok) (h0 : t.1.1 = 0) : 0 ≤ t.1.2.1 ∧ t.1.2.1 ≤ 1000000 := by
  have h1 := h.1
  rw [h0] at h1
  simp [cellB] at h1
  omega
theorem Rng.set {M : BM} (h : Rng M) {v : Int} {t : Tr} (hv : 0 ≤ v ∧ v ≤ 1000000) : Rng (M.set v t) := fun x u hx => by
  simp only [BM.set] at hx
  by_cases e : x = v
  · rw [e]; exact hv
  · rw [if_neg e] at hx; exact h x u hx
theorem Rng.step {M M' : BM} {X Y : Tr} {qs : List TT} (hM : Rng M) (oX : X.fo.ok) (oY : Y.fo.ok) (h : stepE 4 5 M X Y = .ok (M', qs)) : Rng M' := by
  unfold stepE at h
  split at h
  · rename_i h0
    split at h
    · cases h; exact hM.set (ok_rng oX h0.1)
    · split at h
      · cases h; exact hM.set (ok_rng oY h0.2)
      · cases h; exact hM
  · split at h
    · rename_i h0
      split at h
      · cases h
      · cases h; exact hM.set (ok_rng oX h0)
    · split at h
      · rename_i h0
        split at h
        · cases h
        · cases h; exact hM.set (ok_rng oY h0)
      · split at h
        · cases h; exact hM
        · cases h
theorem Rng.run : ∀ (k : Nat) (M : BM) (st : List TT), Rng M → WfU M → (∀ p ∈ st, p.1.fo.ok ∧ p.2.fo.ok) → ∀ M' n, runU 4 5 3 k M st = .ok (M', n) → Rng M'
  | k, M, [], h, _, _, M', n, e => by rw [runU_nil] at e; cases e; exact h
  | 0, M, p :: ps, h, _, _, M', n, e => by cases e
  | k + 1, M, p :: ps, h, hw, ho, M', n, e => by
    rw [runU] at e
    have hp := ho p (by simp)
    have oX := hw.end_ok hp.1 (hw.endB p.1)
    have oY := hw.end_ok hp.2 (hw.endB p.2)
    cases hs : stepE 4 5 M (endB M p.1) (endB M p.2) with
    | error c => rw [hs] at e; cases e
    | ok r =>
      obtain ⟨M1, qs⟩ := r
      rw [hs] at e
      simp only at e
      obtain ⟨w1, w2⟩ := hw.step (hw.endB p.1).last (hw.endB p.2).last oX oY hs
      exact Rng.run k M1 (qs ++ ps) (h.step oX oY hs) w1 (fun q hq => by
        rcases List.mem_append.1 hq with hq | hq
        · exact w2 q hq
        · exact ho q (by simp [hq])) M' n e
theorem WfU.zero : WfU (fun _ => none) := ⟨⟨fun _ => 0, fun v u h => by cases h⟩, fun v u h => by cases h⟩
theorem bndU_same {P M : BM} (hc : Cut P M) (h : WfU M) (v : Int) : bndU P v = bndU M v := by
  unfold bndU
  cases hm : M v with
  | none => rw [hc.1 v hm]
  | some u =>
    obtain ⟨u', hp, hway⟩ := hc.2 v u hm
    rw [hp]
    simp only
    have hu' := (hc.wf h).ok v u' hp
    obtain ⟨g, hg⟩ := h.full u' hu'
    rw [hc.full_same h u' hu', fullC_eq hg, fullC_eq (FullF.from_stop hway hg)]
theorem bindR_same {P M : BM} (hc : Cut P M) (h : WfU M) (ks : List Int) : bindR P ks = bindR M ks := by
  have : bndU P = bndU M := funext (bndU_same hc h)
  unfold bindR bndsU
  rw [this]
theorem asc_same {W0 : World} {Bt : Nat} {P M : BM} {E : List (Int × Value)} {ks : List Int} (hc : Cut P M) (hb : BMIn W0 Bt P E) (h : AscK E ks) : AscM M ks := ⟨h.1, fun x => by
  rw [h.2.1 x]
  cases hm : M x with
  | none => rw [hb.2 x (hc.1 x hm)]; simp
  | some u =>
    obtain ⟨u', hp, _⟩ := hc.2 x u hm
    obtain ⟨v, hv, _⟩ := hb.1 x u' hp
    rw [hv]
    simp⟩
def UniO (w : World) (xs ys : List Cel) (e : Ending) (w' : World) : Prop := ∃ bs code p n c, UniIs xs ys bs code ∧ e = .returned (.tuple #[.slice p n c, .int .i64 code]) ∧ OwnBB w' w.heap.size w'.heap.size p n c bs ∧ Below w.heap.size w w'

set_option maxRecDepth 100000 in
set_option maxHeartbeats 1000000 in
theorem implUni_bad (xs ys : List Cel) (p q : Option Addr) (w : World) (hn : xs.length ≤ 1000000000) (hm : ys.length ≤ 1000000000) (hp : CIn w p xs) (hq : CIn w q ys) (hb : ¬ (validB xs = true ∧ validB ys = true)) :
    Calls Try.prog 23 #[.slice p xs.length xs.length, .slice q ys.length ys.length] w (UniO w xs ys) := by
  have HV1 := implValid_any p xs.length xs w hn hp
  have HF : Hid (∀ W, Below w.heap.size w W → UniO w xs ys (.returned (.tuple #[.slice none 0 0, .int .i64 1])) W) := fun W hW => ⟨[], 1, none, 0, 0, .inr ⟨hb, rfl, rfl⟩, rfl, OwnBB.nil _ _ _, hW⟩
  by_cases h1 : validB xs = true
  · have HV2 : Hid (∀ W, Below w.heap.size w W → Calls Try.prog 31 #[.slice q ys.length ys.length] W fun e w' => e = .returned (.bool (validB ys)) ∧ Below W.heap.size W w') := fun W hW => implValid_any q ys.length ys W hm (hq.below hW)
    rw [h1] at HV1
    have h2' : validB ys = false := by
      cases h : validB ys with
      | false => rfl
      | true => exact (hb ⟨h1, h⟩).elim
    rw [h2'] at HV2
    clear h1 h2' hp hq hb
    go_enter Try.func23, Try.ntmps23
    go_wp2_with fail
    refine HV1.mono ?_
    rintro e w1 ⟨rfl, hb1⟩
    have HB1 : Hid (Below w.heap.size w w1) := hb1
    clear hb1 HV1
    go_wp2_with fail
    refine (HV2.out w1 HB1.out).mono ?_
    rintro e w2 ⟨rfl, hb2⟩
    have HB2 : Hid (Below w.heap.size w w2) := Below.on HB1.out hb2
    clear hb2
    go_wp2_with fail
    go_ret2
    exact HF.out _ HB2.out
  · have h1' : validB xs = false := by simpa using h1
    rw [h1'] at HV1
    clear h1 h1' hp hq hb
    go_enter Try.func23, Try.ntmps23
    go_wp2_with fail
    refine HV1.mono ?_
    rintro e w1 ⟨rfl, hb1⟩
    have HB1 : Hid (Below w.heap.size w w1) := hb1
    clear hb1 HV1
    go_wp2_with fail
    go_ret2
    exact HF.out _ HB1.out

set_option maxRecDepth 100000 in
set_option maxHeartbeats 2000000 in
theorem implUni_any (xs ys : List Cel) (p q : Option Addr) (w : World) (hxb : ∀ i, i < xs.length → Byte (xs.getD i Cel.none).2.2) (hyb : ∀ i, i < ys.length → Byte (ys.getD i Cel.none).2.2) (hn : xs.length ≤ 1000000000) (hm : ys.length ≤ 1000000000) (hp : CIn w p xs) (hq : CIn w q ys) :
    Calls Try.prog 23 #[.slice p xs.length xs.length, .slice q ys.length ys.length] w (UniO w xs ys) := by
  by_cases hv : validB xs = true ∧ validB ys = true
  · obtain ⟨h1, h2⟩ := hv
    obtain ⟨c, k, ex, hok, hlx⟩ := tree_of hxb h1
    obtain ⟨c', k', ey, hok', hly⟩ := tree_of hyb h2
    have HV1 := implValid_any p xs.length xs w hn hp
    have HV2 : Hid (∀ W, Below w.heap.size w W → Calls Try.prog 31 #[.slice q ys.length ys.length] W fun e w' => e = .returned (.bool (validB ys)) ∧ Below W.heap.size W w') := fun W hW => implValid_any q ys.length ys W hm (hq.below hW)
    rw [h1] at HV1
    rw [h2] at HV2
    have HFIN : Hid (∀ bs code e pp nn cc W, UniT (c, k) (c', k') bs code → e = .returned (.tuple #[.slice pp nn cc, .int .i64 code]) → OwnBB W w.heap.size W.heap.size pp nn cc bs → Below w.heap.size w W → UniO w xs ys e W) := fun bs code e pp nn cc W h he ho hW => ⟨bs, code, pp, nn, cc, .inl ⟨h1, h2, c, k, c', k', ex, ey, hok, hok', h⟩, he, ho, hW⟩
    obtain ⟨n, en⟩ : ∃ n, n = xs.length := ⟨_, rfl⟩
    obtain ⟨m, em⟩ : ∃ m, m = ys.length := ⟨_, rfl⟩
    rw [← en] at HV1 hn hlx ⊢
    rw [← em] at HV2 hm hly ⊢
    have HK : Hid ((tcs (c, k)).length ≤ 2000 ∧ (tcs (c', k')).length ≤ 2000) := ⟨by rw [en, ex] at hlx; simp [tcs] at hlx ⊢; omega, by rw [em, ey] at hly; simp [tcs] at hly ⊢; omega⟩
    have HX : Hid ((Fo.node c k .nil).ok ∧ (Fo.node c' k' .nil).ok) := ⟨hok, hok'⟩
    have HT1 : Hid (∀ W, Below w.heap.size w W → Calls Try.prog 33 #[.slice p n n] W fun e w' => ∃ v, e = .returned v ∧ FoIn w' W.heap.size (.node c k .nil) [v] ∧ Below W.heap.size W w') := fun W hW => termOf_any c k p n n W hok (by rw [en, ex]; simp) (Nat.le_refl _) hn (by have := hp.below hW; rwa [ex] at this)
    have HT2 : Hid (∀ W, Below w.heap.size w W → Calls Try.prog 33 #[.slice q m m] W fun e w' => ∃ v, e = .returned v ∧ FoIn w' W.heap.size (.node c' k' .nil) [v] ∧ Below W.heap.size W w') := fun W hW => termOf_any c' k' q m m W hok' (by rw [em, ey]; simp) (Nat.le_refl _) hm (by have := hq.below hW; rwa [ey] at this)
    clear h1 h2 hp hq ex ey en em hok hok' hxb hyb hlx hly
    go_enter Try.func23, Try.ntmps23
    go_wp2_with fail
    refine HV1.mono ?_
    rintro e w1 ⟨rfl, hb1⟩
    have HB1 : Hid (Below w.heap.size w w1) := hb1
    clear hb1 HV1
    go_wp2_with fail
    refine (HV2.out w1 HB1.out).mono ?_
    rintro e w2 ⟨rfl, hb2⟩
    have HB2 : Hid (Below w.heap.size w w2) := Below.on HB1.out hb2
    clear hb2
    go_wp2_with fail
    refine (HT1.out w2 HB2.out).mono ?_
    rintro e w3 ⟨v3, rfl, hf3, hb3⟩
    have HB3 : Hid (Below w.heap.size w w3) := Below.on HB2.out hb3
    have HF3 : Hid (FoIn w3 w2.heap.size (.node c k .nil) [v3]) := hf3
    obtain ⟨t3, y3, rfl⟩ := hf3.iface
    clear hb3 hf3
    go_wp2_with fail
    refine (HT2.out w3 HB3.out).mono ?_
    rintro e w5 ⟨v5, rfl, hf5, hb5⟩
    have HB5 : Hid (Below w.heap.size w w5) := Below.on HB3.out hb5
    obtain ⟨t5, y5, rfl⟩ := hf5.iface
    have hri := RI.made w5 (c, k) (c', k') (.iface t3 y3) (.iface t5 y5) (FoIn.mono (FoIn.below HF3.out hb5) (Nat.zero_le _)) (FoIn.mono hf5 (Nat.zero_le _)) HX.out.1 HX.out.2 HK.out.1 HK.out.2
    have HNU := newUnifier_any w5 t3 t5 y3 y5
    obtain ⟨ub, eub⟩ : ∃ ub, ub = w5.heap.size + 1 + 1 + 1 := ⟨_, rfl⟩
    rw [← eub] at hri HNU
    have HRUN := run_any w5 0 w5.heap.size ub _ _ _ _ _ _ hri
    have HRR : Hid (∀ M m, runU 4 5 3 20000 (fun _ => none) [((c, k), (c', k'))] = .ok (M, m) → Rng M) := fun M m h => Rng.run 20000 _ _ (fun x u h => by cases h) WfU.zero (fun pp hpp => by rw [List.mem_singleton.1 hpp]; exact HX.out) M m h
    obtain ⟨RR, eRR⟩ : ∃ RR, RR = runU 4 5 3 20000 (fun _ => none) [((c, k), (c', k'))] := ⟨_, rfl⟩
    have HER : Hid (RR = runU 4 5 3 20000 (fun _ => none) [((c, k), (c', k'))]) := eRR
    rw [← eRR] at HRUN
    clear hb5 hf5 hri eRR eub
    go_wp2_with fail
    refine HNU.mono ?_
    rintro e w6 ⟨rfl, rfl⟩
    clear HNU
    go_wp2_with fail
    refine HRUN.mono ?_
    intro e w7 ho
    clear HRUN
    cases RR with
    | error d =>
      obtain ⟨hd, rfl, hb7⟩ := ho
      have HB7 : Hid (Below w.heap.size w w7) := Below.on HB5.out hb7
      have HD : Hid (3 ≤ d ∧ d ≤ 5) := by rcases hd with rfl | rfl | rfl <;> exact ⟨by decide, by decide⟩
      have hd0 : (d == 0) = false := by rcases hd with rfl | rfl | rfl <;> rfl
      clear hd hb7
      go_wp2_with fail
      go_ret2
      refine HFIN.out [] d _ _ _ _ _ ?_ rfl (OwnBB.nil _ _ _) HB7.out
      unfold UniT
      rw [← HER.out]
      exact ⟨rfl, rfl, HD.out.1, HD.out.2⟩
    | ok r =>
      obtain ⟨M, mm⟩ := r
      obtain ⟨rfl, hwf, hsm, P, E, hcut, hust, hEl⟩ := ho
      have hrng := HRR.out M mm HER.out.symm
      have HBI := bindings_any w5 0 P E w5.heap.size ub w7 hust (hcut.wf hwf) (hcut.small hwf hsm) hEl (fun x hx => by
        cases hP : M x with
        | none => rw [hust.bmi.2 x (hcut.1 x hP)] at hx; cases hx
        | some u => exact hrng x u hP)
      have HAS : Hid (∀ ks, AscK E ks → AscM M ks ∧ bindR P ks = bindR M ks) := fun ks h => ⟨asc_same hcut hust.bmi h, bindR_same hcut hwf ks⟩
      clear hwf hsm hcut hust hEl hrng
      go_wp2_with fail
      refine HBI.mono ?_
      rintro e w8 ⟨ks, hks, hb8, hbo⟩
      obtain ⟨ha, hbr⟩ := HAS.out ks hks
      rw [hbr] at hbo
      have HB8 : Hid (Below w.heap.size w w8) := Below.on HB5.out hb8
      have HU : Hid (∀ (bs : List Bnd) (code : Int), (match bindR M ks with | none => bs = [] ∧ code = 3 | some l => bs = l ∧ code = 0) → UniT (c, k) (c', k') bs code) := fun bs code h => by
        unfold UniT
        rw [← HER.out]
        exact ⟨ks, ha, h⟩
      cases hB : bindR M ks with
      | none =>
        rw [hB] at hbo HU
        subst hbo
        clear HBI hb8 ha hbr hB hks
        go_wp2_with fail
        go_ret2
        exact HFIN.out [] 3 _ _ _ _ _ (HU.out [] 3 ⟨rfl, rfl⟩) rfl (OwnBB.nil _ _ _) HB8.out
      | some l =>
        rw [hB] at hbo HU
        obtain ⟨pp, nn, cc, rfl, hown⟩ := hbo
        have HO : Hid (OwnBB w8 w.heap.size w8.heap.size pp nn cc l) := hown.wide (Nat.le_refl _) HB5.out.size
        clear HBI hb8 ha hbr hB hks hown
        go_wp2_with fail
        go_ret2
        exact HFIN.out l 0 _ _ _ _ _ (HU.out l 0 ⟨rfl, rfl⟩) rfl HO.out HB8.out
  · exact implUni_bad xs ys p q w hn hm hp hq hv

end Go.Proofs.Ytglebnelmnnboaa

namespace Go.Proofs.Ytglebnelmnnboaa
open Go Go.RowKit
set_option linter.unusedVariables false

theorem look_up : ∀ (bs : List Bnd), (∀ i j, i < j → j < bs.length → (bs.getD i Bnd.zero).1 < (bs.getD j Bnd.zero).1) → ∀ i, i < bs.length → look bs (bs.getD i Bnd.zero).1 = some (bs.getD i Bnd.zero).2
  | [], _, i, hi => by simp at hi
  | b :: r, h, 0, hi => by simp [look]
  | b :: r, h, i + 1, hi => by
    have h0 := h 0 (i + 1) (by omega) hi
    simp only [List.getD_cons_zero, List.getD_cons_succ] at h0 ⊢
    have hne : ¬ b.1 = (r.getD i Bnd.zero).1 := by omega
    have := look_up r (fun i j hij hj => by have := h (i + 1) (j + 1) (by omega) (by simp; omega); simpa using this) i (by simpa using hi)
    unfold look
    first
      | rw [if_neg hne]; exact this
      | rw [if_neg (fun e => hne e.symm)]; exact this
theorem BsR.at {bs : List Bnd} {M : BM} (h : BsR bs M) (i : Nat) (hi : i < bs.length) : ∃ u, M (bs.getD i Bnd.zero).1 = some u ∧ (bs.getD i Bnd.zero).2 = tcs u := by
  have h1 := look_up bs h.up i hi
  rcases h.rel (bs.getD i Bnd.zero).1 with ⟨u, h2, h3⟩ | ⟨h2, h3⟩
  · rw [h1] at h3; exact ⟨u, h2, Option.some.inj h3⟩
  · rw [h1] at h3; cases h3
theorem BsR.asc {bs : List Bnd} {M : BM} (h : BsR bs M) : AscM M (bs.map Prod.fst) := by
  refine ⟨?_, fun x => ?_⟩
  · rw [List.pairwise_iff_getElem]
    intro i j hi hj hij
    have := h.up i j hij (by simpa using hj)
    simp only [List.length_map] at hi hj
    simpa [List.getD, hi, hj] using this
  · constructor
    · intro hx
      obtain ⟨b, hb, rfl⟩ := List.mem_map.1 hx
      obtain ⟨i, hi, rfl⟩ := List.mem_iff_getElem.1 hb
      obtain ⟨u, hu, _⟩ := h.at i hi
      simp only [List.getD, List.getElem?_eq_getElem hi, Option.getD_some] at hu
      rw [hu]; rfl
    · intro hx
      rcases h.find x with ⟨k, u, hk, hf, hu, _⟩ | ⟨_, hu⟩
      · have := findI_at hf hk
        rw [← this]
        exact List.mem_map.2 ⟨_, by simp [List.getD, hk], rfl⟩
      · rw [hu] at hx; cases hx
theorem OwnBB.fresh {w w' : World} {B : Nat} {p : Option Addr} {n c : Nat} {bs : List Bnd} (h : OwnBB w B w.heap.size p n c bs) (hb : Below w.heap.size w w') : OwnBB w' B w'.heap.size p n c bs := by
  obtain ⟨ds, hd⟩ := h
  have h1 : OwnBB w' B w.heap.size p n c bs := ⟨ds, hd.other hb.size (fun k hk _ _ => hb.block k hk)⟩
  exact h1.wide hb.size (Nat.le_refl _)
theorem MS.start (w : World) : MS w (w.alloc (.cells #[.slice none 0 0, .int .i64 0] 78)) w.heap.size (fun _ => none) 0 none 0 0 [] := by
  have hnew := heap_alloc_new w (.cells #[.slice none 0 0, .int .i64 0] 78)
  refine ⟨(Below.refl _ _).alloc (Nat.le_refl _) _, Nat.le_refl _, ?_, ?_, rfl, fun h => by simp at h, ⟨fun i j _ h => by simp at h, fun v => .inr ⟨rfl, rfl⟩⟩, Nat.le_refl _, by decide, fun _ => ⟨rfl, rfl⟩, Nat.le_refl _, (fun a h => by cases h), fun o => ?_⟩
  · simp only [World.cell?]; rw [hnew]; rfl
  · simp only [World.cell?]; rw [hnew]; rfl
  · simp only [World.frozen?]; rw [hnew]; rfl
set_option maxRecDepth 100000 in
set_option maxHeartbeats 1000000 in
theorem specUni_bad (xs ys : List Cel) (p q : Option Addr) (w : World) (hn : xs.length ≤ 1000000000) (hm : ys.length ≤ 1000000000) (hp : CIn w p xs) (hq : CIn w q ys) (hb : ¬ (validB xs = true ∧ validB ys = true)) :
    Calls Try.prog 22 #[.slice p xs.length xs.length, .slice q ys.length ys.length] w (UniO w xs ys) := by
  have HV1 := specValid_any p xs.length xs w hn hp
  have HF : Hid (∀ W, Below w.heap.size w W → UniO w xs ys (.returned (.tuple #[.slice none 0 0, .int .i64 1])) W) := fun W hW => ⟨[], 1, none, 0, 0, .inr ⟨hb, rfl, rfl⟩, rfl, OwnBB.nil _ _ _, hW⟩
  by_cases h1 : validB xs = true
  · have HV2 : Hid (∀ W, Below w.heap.size w W → Calls Try.prog 26 #[.slice q ys.length ys.length] W fun e w' => e = .returned (.bool (validB ys)) ∧ Below W.heap.size W w') := fun W hW => specValid_any q ys.length ys W hm (hq.below hW)
    rw [h1] at HV1
    have h2' : validB ys = false := by
      cases h : validB ys with
      | false => rfl
      | true => exact (hb ⟨h1, h⟩).elim
    rw [h2'] at HV2
    clear h1 h2' hp hq hb
    go_enter Try.func22, Try.ntmps22
    go_wp2_with fail
    refine HV1.mono ?_
    rintro e w1 ⟨rfl, hb1⟩
    have HB1 : Hid (Below w.heap.size w w1) := hb1
    clear hb1 HV1
    go_wp2_with fail
    refine (HV2.out w1 HB1.out).mono ?_
    rintro e w2 ⟨rfl, hb2⟩
    have HB2 : Hid (Below w.heap.size w w2) := Below.on HB1.out hb2
    clear hb2
    go_wp2_with fail
    go_ret2
    exact HF.out _ HB2.out
  · have h1' : validB xs = false := by simpa using h1
    rw [h1'] at HV1
    clear h1 h1' hp hq hb
    go_enter Try.func22, Try.ntmps22
    go_wp2_with fail
    refine HV1.mono ?_
    rintro e w1 ⟨rfl, hb1⟩
    have HB1 : Hid (Below w.heap.size w w1) := hb1
    clear hb1 HV1
    go_wp2_with fail
    go_ret2
    exact HF.out _ HB1.out

set_option maxRecDepth 100000 in
set_option maxHeartbeats 2000000 in
theorem specUni_any (xs ys : List Cel) (p q : Option Addr) (w : World) (hxb : ∀ i, i < xs.length → Byte (xs.getD i Cel.none).2.2) (hyb : ∀ i, i < ys.length → Byte (ys.getD i Cel.none).2.2) (hn : xs.length ≤ 1000000000) (hm : ys.length ≤ 1000000000) (hp : CIn w p xs) (hq : CIn w q ys) :
    Calls Try.prog 22 #[.slice p xs.length xs.length, .slice q ys.length ys.length] w (UniO w xs ys) := by
  by_cases hv : validB xs = true ∧ validB ys = true
  · obtain ⟨h1, h2⟩ := hv
    obtain ⟨c, k, ex, hok, hlx⟩ := tree_of hxb h1
    obtain ⟨c', k', ey, hok', hly⟩ := tree_of hyb h2
    have HV1 := specValid_any p xs.length xs w hn hp
    have HV2 : Hid (∀ W, Below w.heap.size w W → Calls Try.prog 26 #[.slice q ys.length ys.length] W fun e w' => e = .returned (.bool (validB ys)) ∧ Below W.heap.size W w') := fun W hW => specValid_any q ys.length ys W hm (hq.below hW)
    rw [h1] at HV1
    rw [h2] at HV2
    have HFIN : Hid (∀ bs code e pp nn cc W, UniT (c, k) (c', k') bs code → e = .returned (.tuple #[.slice pp nn cc, .int .i64 code]) → OwnBB W w.heap.size W.heap.size pp nn cc bs → Below w.heap.size w W → UniO w xs ys e W) := fun bs code e pp nn cc W h he ho hW => ⟨bs, code, pp, nn, cc, .inl ⟨h1, h2, c, k, c', k', ex, ey, hok, hok', h⟩, he, ho, hW⟩
    obtain ⟨n, en⟩ : ∃ n, n = xs.length := ⟨_, rfl⟩
    obtain ⟨m, em⟩ : ∃ m, m = ys.length := ⟨_, rfl⟩
    rw [← en] at HV1 hn hlx ⊢
    rw [← em] at HV2 hm hly ⊢
    have HK : Hid ((tcs (c, k)).length ≤ 2000 ∧ (tcs (c', k')).length ≤ 2000) := ⟨by rw [en, ex] at hlx; simp [tcs] at hlx ⊢; omega, by rw [em, ey] at hly; simp [tcs] at hly ⊢; omega⟩
    have HX : Hid ((Fo.node c k .nil).ok ∧ (Fo.node c' k' .nil).ok) := ⟨hok, hok'⟩
    have HPR : Hid (∀ W, Below w.heap.size w W → Calls Try.prog 52 #[.pointer (some ⟨W.heap.size, 0, none⟩), .slice p n n, .slice q m m] (W.alloc (.cells #[.slice none 0 0, .int .i64 0] 78)) (PairO W W.heap.size (runU 4 5 3 20000 (fun _ => none) [((c, k), (c', k'))]) (W.alloc (.cells #[.slice none 0 0, .int .i64 0] 78)))) := fun W hW => pair_any W W.heap.size 20000 (Nat.le_refl _) (fun _ => none) none 0 0 [] (c, k) (c', k') p q n n m m _ (MS.start W) WfU.zero (fun x u h => by cases h) hok hok' HK.out.1 HK.out.2 ⟨by rw [en, ex]; rfl, Nat.le_refl _, hn, by have := hp.below hW; rwa [ex] at this⟩ ⟨by rw [em, ey]; rfl, Nat.le_refl _, hm, by have := hq.below hW; rwa [ey] at this⟩
    clear h1 h2 hp hq ex ey en em hok hok' hxb hyb hlx hly
    obtain ⟨RR, eRR⟩ : ∃ RR, RR = runU 4 5 3 20000 (fun _ => none) [((c, k), (c', k'))] := ⟨_, rfl⟩
    have HER : Hid (RR = runU 4 5 3 20000 (fun _ => none) [((c, k), (c', k'))]) := eRR
    rw [← eRR] at HPR
    clear eRR
    go_enter Try.func22, Try.ntmps22
    go_wp2_with fail
    refine HV1.mono ?_
    rintro e w1 ⟨rfl, hb1⟩
    have HB1 : Hid (Below w.heap.size w w1) := hb1
    clear hb1 HV1
    go_wp2_with fail
    refine (HV2.out w1 HB1.out).mono ?_
    rintro e w2 ⟨rfl, hb2⟩
    have HB2 : Hid (Below w.heap.size w w2) := Below.on HB1.out hb2
    clear hb2
    have HP2 := HPR.out w2 HB2.out
    go_wp2_with fail
    refine HP2.mono ?_
    intro e w3 ho
    clear HP2
    cases RR with
    | error d =>
      obtain ⟨hd, rfl, hb3, _⟩ := ho
      have HB3 : Hid (Below w.heap.size w w3) := Below.on HB2.out hb3
      have HD : Hid (3 ≤ d ∧ d ≤ 5) := hd
      have hd0 : (d == 0) = false := by rw [beq_eq_false_iff_ne]; omega
      clear hd hb3
      go_wp2_with fail
      go_ret2
      refine HFIN.out [] d _ _ _ _ _ ?_ rfl (OwnBB.nil _ _ _) HB3.out
      unfold UniT
      rw [← HER.out]
      exact ⟨rfl, rfl, HD.out.1, HD.out.2⟩
    | ok r =>
      obtain ⟨M, ff⟩ := r
      obtain ⟨rfl, hff, ⟨sp, sn, sc, bs, hms⟩, hwf, hsm, _⟩ := ho
      have HB3 : Hid (Below w.heap.size w w3) := Below.on HB2.out hms.low
      have s0 := hms.sub
      have hsn := hms.len
      have hsr : sn ≤ sc := hms.room
      have hsn2 : sn ≤ 20000 := by have := hms.few; have := hms.kle; omega
      have HBR : Hid (BsR bs M) := hms.bsr
      have HU : Hid (∀ (l : List Bnd) (code : Int), (match bindR M (bs.map Prod.fst) with | none => l = [] ∧ code = 3 | some l' => l = l' ∧ code = 0) → UniT (c, k) (c', k') l code) := fun l code h => by
        unfold UniT
        rw [← HER.out]
        exact ⟨_, HBR.out.asc, h⟩
      by_cases hbig : 1000 < sn
      · have HF : Hid (UniO w xs ys (.returned (.tuple #[.slice none 0 0, .int .i64 3])) w3) := HFIN.out [] 3 _ _ _ _ _ (HU.out [] 3 (by
          have : bindR M (bs.map Prod.fst) = none := by
            unfold bindR
            rw [if_neg (fun h => by have := h.1; simp only [List.length_map] at this; omega)]
          rw [this]; exact ⟨rfl, rfl⟩)) rfl (OwnBB.nil _ _ _) HB3.out
        have hL : (1000 : Int) < (sn : Int) := by omega
        clear hms hwf hsm hsn HBR HU hff
        go_wp2_with fail
        go_ret2
        exact HF.out
      · obtain ⟨rk, hac⟩ := hwf.acyc
        have HWH : Hid (∀ N, WholeOk w2 w3 w2.heap.size M rk N) := fun N => whole_any w2 w3 w2.heap.size M rk hac hwf hsm _ sp sn sc bs hms N
        have HM0 : Hid (∀ W, Below w3.heap.size w3 W → MS w2 W w2.heap.size M (20000 - ff) sp sn sc bs) := fun W h => hms.below h
        have HW : Hid ((Acyc M rk ∧ WfU M) ∧ ∀ x u, M x = some u → (tcs u).length ≤ 2000) := ⟨⟨hac, hwf⟩, hsm⟩
        have HLN : Hid (sn = bs.length) := hsn
        have hL : (sn : Int) ≤ 1000 := by omega
        have hbg : sn ≤ 1000 := by omega
        clear hms hwf hsm hsn hac hbig hff
        go_wp2_with fail
        go_loopw [8, 9] (fun al i wr => ∃ (j n c : Nat) (p : Option Addr), j ≤ sn ∧ n ≤ 1000 ∧ al = .slice p n c ∧ i = .int .i64 j ∧ Hid (n = j) ∧ Hid (OwnBB wr w3.heap.size wr.heap.size p n c (bndsU M ((bs.map Prod.fst).take j))) ∧ Hid (Below w3.heap.size w3 wr) ∧ Hid (∀ v ∈ (bs.map Prod.fst).take j, (bndU M v).2.length ≤ 2000)) (fun _ i _ => sn - (intOf i).toNat)
        case atStart => exact ⟨0, 0, 0, none, Nat.zero_le _, Nat.zero_le _, rfl, rfl, rfl, OwnBB.nil _ _ _, Below.refl _ _, fun v hv => by simp at hv⟩
        case round =>
          obtain ⟨j, n, c, p, hj, hn, rfl, rfl, HNJ, HOB, HB, HSM⟩ := hrel
          clear s0
          have hms := HM0.out wr HB.out
          have s0 := hms.sub
          by_cases hlt : j < sn
          · have hjk : j < bs.length := by rw [← HLN.out]; exact hlt
            obtain ⟨sg, so, rfl, hbs⟩ := hms.lies (by omega)
            obtain ⟨qd, cd, y0, y1, y2, y3, y4⟩ := hbs j hjk
            obtain ⟨u, hu, eu⟩ := HBR.out.at j hjk
            rw [eu] at y1 y2 y4
            have hfl : bndU M (bs.getD j Bnd.zero).1 = ((bs.getD j Bnd.zero).1, (tcs u).flatMap (putC M)) := by
              unfold bndU
              rw [hu]
              simp only [HW.out.1.2.full_flat u (HW.out.1.2.ok _ _ hu)]
              rfl
            have HTK : Hid ((bs.map Prod.fst).take (j + 1) = (bs.map Prod.fst).take j ++ [(bs.getD j Bnd.zero).1]) := by
              show _ = _
              rw [List.take_add_one, List.getElem?_eq_getElem (by simpa using hjk)]
              simp [List.getD, hjk]
            have hmem : (bs.getD j Bnd.zero).1 ∈ bs.map Prod.fst := List.mem_map.2 ⟨_, by simp [List.getD, hjk], rfl⟩
            have HREC := HWH.out (rk (bs.getD j Bnd.zero).1) u qd (tcs u).length cd wr.heap.size wr [] none 0 0 (HW.out.1.2.ok _ _ hu) (HW.out.2 _ _ hu) ⟨rfl, y2, y3, y4⟩ (fun v hv _ => HW.out.1.1 _ _ hu v hv) HB.out HB.out.size (Nat.le_refl _) (OwnC.nil _ _) (Nat.zero_le _)
            obtain ⟨x, ex⟩ : ∃ x, x = (bs.getD j Bnd.zero).1 := ⟨_, rfl⟩
            rw [← ex] at y0 hfl hmem HTK
            obtain ⟨ld, eld⟩ : ∃ l, l = (tcs u).length := ⟨_, rfl⟩
            rw [← eld] at y1 HREC
            obtain ⟨R, eR⟩ : ∃ R, R = (tcs u).flatMap (putC M) := ⟨_, rfl⟩
            rw [← eR] at hfl HREC
            rw [List.nil_append] at HREC
            have HBU : Hid (bndU M x = (x, R) ∧ x ∈ bs.map Prod.fst) := ⟨hfl, hmem⟩
            have HY0 : Hid (∀ W, Below wr.heap.size wr W → W.cell? ⟨sg, so + j * 2, none⟩ = some (.int .i64 x) ∧ W.cell? ⟨w2.heap.size, 0, none⟩ = some (.slice (some ⟨sg, so, none⟩) sn sc)) := fun W hW => ⟨(hW.cell (World.block_lt_of_cell? _ _ y0)).trans y0, (hW.cell (World.block_lt_of_cell? _ _ s0)).trans s0⟩
            clear hbs y0 y2 y3 y4 eu hu hfl hmem ex eld eR hms
            go_wp2_with fail
            refine HREC.mono ?_
            rintro e w4 ⟨hb4, ⟨hle, q4, m4, c4, rfl, ho4⟩ | ⟨hle, rfl⟩⟩
            · have HOC : Hid (OwnC w4 wr.heap.size q4 m4 c4 R) := ho4
              have HB4 : Hid (Below wr.heap.size wr w4) := hb4
              have HLR : Hid (R.length ≤ 2000) := hle
              clear s0 y1
              obtain ⟨y0, s0⟩ := HY0.out w4 hb4
              have HW3 : Hid (w3.heap.size ≤ wr.heap.size) := HB.out.size
              clear ho4 hb4 hle HREC
              go_wp2_with (at_builtin; refine app_bnd wr _ rfl _ _ rfl w3.heap.size p n c _ x rfl HOB.out HB4.out HW3.out q4 m4 c4 _ HOC.out rfl (by omega) ?_; intro g6 n6 cap6 w6 hown6 hb6 hn6 hg6 hat6)
              have HO6 : Hid (OwnBB w6 w3.heap.size w6.heap.size (some ⟨g6, 0, none⟩) n6 cap6 (bndsU M ((bs.map Prod.fst).take (j + 1)))) := by
                have e : bndsU M ((bs.map Prod.fst).take (j + 1)) = bndsU M ((bs.map Prod.fst).take j) ++ [(x, R)] := by
                  rw [HTK.out]
                  unfold bndsU
                  rw [List.map_append, List.map_singleton, HBU.out.1]
                rw [e]; exact hown6
              have HB6 : Hid (Below w3.heap.size w3 w6) := (HB.out.trans ((Below.on HB4.out ((Below.refl _ _).alloc (Nat.le_refl _) _)).mono HW3.out)).trans hb6
              have HM6 : Hid (∀ v ∈ (bs.map Prod.fst).take (j + 1), (bndU M v).2.length ≤ 2000) := fun v hv => by
                rw [HTK.out] at hv
                rcases List.mem_append.1 hv with hv | hv
                · exact HSM.out v hv
                · rw [List.mem_singleton.1 hv, HBU.out.1]; exact HLR.out
              have HN6 : Hid (n6 = j + 1) := by have := hn6.out; have := HNJ.out; show n6 = j + 1; omega
              have hn6b : n6 ≤ 1000 := by have := hn6.out; have := HNJ.out; omega
              clear hown6 hb6 hn6 hg6 hat6 HOC HB4
              go_wp2_with fail
              go_roundw
              case rel => exact ⟨j + 1, n6, cap6, _, by omega, hn6b, rfl, by go_num, HN6, HO6, HB6, HM6⟩
              case measure => simp [intOf]; omega
            · have HF : Hid (UniO w xs ys (.returned (.tuple #[.slice none 0 0, .int .i64 3])) w4) := HFIN.out [] 3 _ _ _ _ _ (HU.out [] 3 (by
                have : bindR M (bs.map Prod.fst) = none := by
                  unfold bindR
                  rw [if_neg (fun h => by have := h.2 x HBU.out.2; rw [HBU.out.1] at this; exact absurd this (by show ¬ R.length ≤ 2000; omega))]
                rw [this]; exact ⟨rfl, rfl⟩)) rfl (OwnBB.nil _ _ _) (Below.on HB3.out (Below.on HB.out hb4))
              clear hb4 hle HREC s0 y1
              go_wp2_with fail
              go_ret2
              exact HF.out
          · obtain rfl : j = sn := by omega
            have hall : (bs.map Prod.fst).take j = bs.map Prod.fst := List.take_of_length_le (by rw [List.length_map, HLN.out]; exact Nat.le_refl _)
            rw [hall] at HOB HSM
            have HF : Hid (UniO w xs ys (.returned (.tuple #[.slice p n c, .int .i64 0])) wr) := HFIN.out (bndsU M (bs.map Prod.fst)) 0 _ _ _ _ _ (HU.out _ 0 (by
              have : bindR M (bs.map Prod.fst) = some (bndsU M (bs.map Prod.fst)) := by
                unfold bindR
                rw [if_pos ⟨by rw [List.length_map, ← HLN.out]; omega, HSM.out⟩]
              rw [this]; exact ⟨rfl, rfl⟩)) rfl (HOB.out.wide (Nat.le_refl _) HB3.out.size) (Below.on HB3.out HB.out)
            clear hms hall
            go_wp2_with fail
            go_ret2
            exact HF.out
  · exact specUni_bad xs ys p q w hn hm hp hq hv

end Go.Proofs.Ytglebnelmnnboaa

namespace Go.Proofs.Ytglebnelmnnboaa
open Go Go.RowKit
set_option linter.unusedVariables false

/-- Where the marks of binding j begin. -/
def kB (k : Int) : List Bnd → Nat → Int
  | _, 0 => k
  | [], _ + 1 => k
  | b :: r, j + 1 => kB (endC (k + 1) b.2) r j
theorem kB_succ : ∀ (bs : List Bnd) (j : Nat) (k : Int), j < bs.length → kB k bs (j + 1) = endC (kB k bs j + 1) (bs.getD j Bnd.zero).2
  | [], j, k, h => by simp at h
  | b :: r, 0, k, _ => by cases r <;> rfl
  | b :: r, j + 1, k, h => by
    have := kB_succ r j (endC (k + 1) b.2) (by simpa using h)
    simp only [kB] at this ⊢
    rw [this]; simp
theorem kB_bound : ∀ (bs : List Bnd) (j : Nat) (k : Int), k ≤ kB k bs j ∧ kB k bs j ≤ k + bs.length + 2 * tll (trm bs)
  | [], 0, k => by simp [kB, trm, tll]
  | [], j + 1, k => by simp [kB, trm, tll]
  | b :: r, 0, k => by simp only [kB]; omega
  | b :: r, j + 1, k => by
    have := kB_bound r j (endC (k + 1) b.2)
    simp only [kB, endC_eq] at this ⊢
    simp only [trm, List.map_cons, tll, List.length_cons] at this ⊢
    omega
def mixB (k : Int) (bs : List Bnd) (j : Nat) : List Bnd := (List.range bs.length).map fun i => if i < j then (kB k bs i, markC (kB k bs i + 1) (bs.getD i Bnd.zero).2) else bs.getD i Bnd.zero
theorem mixB_len (k : Int) (bs : List Bnd) (j : Nat) : (mixB k bs j).length = bs.length := by simp [mixB]
theorem mixB_at (k : Int) (bs : List Bnd) (j i : Nat) (h : i < bs.length) : (mixB k bs j).getD i Bnd.zero = if i < j then (kB k bs i, markC (kB k bs i + 1) (bs.getD i Bnd.zero).2) else bs.getD i Bnd.zero := by
  simp [mixB, List.getD, h]
theorem markC_len' (k : Int) (cs : List Cel) : (markC k cs).length = cs.length := mixC_len _ _ _
theorem mixB_itemlen (k : Int) (bs : List Bnd) (j i : Nat) (h : i < bs.length) : ((mixB k bs j).getD i Bnd.zero).2.length = (bs.getD i Bnd.zero).2.length := by
  rw [mixB_at _ _ _ _ h]
  split
  · exact markC_len' _ _
  · rfl
theorem same_bs {xs ys : List Bnd} (hl : xs.length = ys.length) (h : ∀ j, j < xs.length → xs.getD j Bnd.zero = ys.getD j Bnd.zero) : xs = ys := by
  apply List.ext_getElem hl
  intro i h1 h2
  have := h i h1
  rwa [List.getD, List.getD, List.getElem?_eq_getElem h1, List.getElem?_eq_getElem h2] at this
theorem mixB_zero (k : Int) (bs : List Bnd) : mixB k bs 0 = bs := same_bs (mixB_len ..) (fun j hj => by rw [mixB_at _ _ _ _ (by rw [mixB_len] at hj; exact hj), if_neg (Nat.not_lt_zero _)])
def markB (k : Int) (bs : List Bnd) : List Bnd := mixB k bs bs.length
def endBd (k : Int) (bs : List Bnd) : Int := kB k bs bs.length

set_option maxRecDepth 100000 in
set_option maxHeartbeats 1000000 in
theorem markBd_any (B U : Nat) (p : Option Addr) (n c : Nat) (k : Int) (bs : List Bnd) (w : World) (h0 : 0 ≤ k) (h1 : k ≤ 100) (hn : bs.length + tll (trm bs) ≤ 2000000) (hown : OwnBB w B U p n c bs) :
    Calls Try.prog 19 #[.slice p n c, .int .i64 k] w fun e w' => e = .returned (.int .i64 (endBd k bs)) ∧ OwnBB w' B U p n c (markB k bs) ∧ Keep B U w w' := by
  obtain ⟨ds, hss⟩ := hown
  have HNL : Hid (n = bs.length) := hss.len
  have hnn : n ≤ 2000000 := by have := hss.len; omega
  have HO : Hid (OwnBd w B U p n c bs ds) := hss
  clear hss
  go_enter Try.func19, Try.ntmps19
  go_wp2_with fail
  go_loopw [1, 5] (fun q i wr => ∃ (j : Nat) (kj : Int), j ≤ n ∧ 0 ≤ kj ∧ kj ≤ 9000000 ∧ i = .int .i64 j ∧ q = .int .i64 kj ∧ Hid (kj = kB k bs j) ∧ Hid (OwnBd wr B U p n c (mixB k bs j) ds) ∧ Hid (Keep B U w wr)) (fun _ i _ => n - (intOf i).toNat)
  case atStart => exact ⟨0, k, Nat.zero_le _, h0, by omega, rfl, rfl, by cases bs <;> rfl, by rw [mixB_zero]; exact HO, Keep.refl _ _ _⟩
  case round =>
    obtain ⟨j, kj, hj, hk0, hk1, rfl, rfl, HK, HR, HG⟩ := hrel
    by_cases hlt : j < n
    · have hjl : j < bs.length := by rw [← HNL.out]; exact hlt
      have hjm : j < (mixB k bs j).length := by rw [mixB_len]; exact hjl
      obtain ⟨g, cap, hv, hbg, hgs⟩ := HR.out.row.form (by omega)
      simp only [Value.slice.injEq, true_and] at hv
      obtain ⟨rfl, rfl⟩ := hv
      have dv := (HR.out.row.cellAt (j * 2) (by omega)).trans (pairRow_at0 _ _ _ j hjm)
      have d0 := (HR.out.row.cellAt (j * 2 + 1) (by omega)).trans (pairRow_at1 _ _ _ j hjm)
      have fz := HR.out.row.frozenAt (j * 2)
      have hst := (HR.out.row.stored (j * 2) (.int .i64 kj)).1
      have hit := HR.out.item j hjm
      have hmj : (mixB k bs j).getD j Bnd.zero = bs.getD j Bnd.zero := by rw [mixB_at _ _ _ _ hjl, if_neg (Nat.lt_irrefl j)]
      rw [hmj] at dv d0 hit
      have ht := tll_at (trm bs) j (by rw [trm_len]; exact hjl)
      rw [trm_at] at ht
      have HAW : Hid (g < (ds.getD j It.zero).2.2.1 ∨ (ds.getD j It.zero).2.2.2 ≤ g) := HR.out.away j hjm g rfl
      have hit2 : OwnCU (wr.setCell ⟨g, j * 2, none⟩ (.int .i64 kj)) _ _ _ _ _ _ := hit.other (by simp) (fun b h1 h2 h3 => Below.heap_setCell _ _ _ _ (show b ≠ g by have := HAW.out; omega))
      have HMK := markCells_any _ _ _ _ _ (kj + 1) (bs.getD j Bnd.zero).2 (wr.setCell ⟨g, j * 2, none⟩ (.int .i64 kj)) (by omega) (by omega) (by omega) hit2
      have HBD : Hid (kB k bs (j + 1) = endC (kj + 1) (bs.getD j Bnd.zero).2 ∧ 0 ≤ kB k bs (j + 1) ∧ kB k bs (j + 1) ≤ 9000000) := ⟨by rw [kB_succ _ _ _ hjl, ← HK.out], by have := kB_bound bs (j + 1) k; omega, by have := kB_bound bs (j + 1) k; omega⟩
      have HLOW : Hid _ := HR.out.low j hjm
      obtain ⟨l, el⟩ : ∃ l, l = (bs.getD j Bnd.zero).2.length := ⟨_, rfl⟩
      obtain ⟨vv, evv⟩ : ∃ l, l = (bs.getD j Bnd.zero).1 := ⟨_, rfl⟩
      obtain ⟨ek, eek⟩ : ∃ ek, ek = endC (kj + 1) (bs.getD j Bnd.zero).2 := ⟨_, rfl⟩
      have HEL : Hid (l = (bs.getD j Bnd.zero).2.length) := el
      rw [← eek] at HMK HBD
      rw [← el] at d0 HMK
      rw [← evv] at dv
      obtain ⟨ip, eip⟩ : ∃ x, x = (ds.getD j It.zero).1 := ⟨_, rfl⟩
      obtain ⟨ic, eic⟩ : ∃ x, x = (ds.getD j It.zero).2.1 := ⟨_, rfl⟩
      have HIP : Hid (ip = (ds.getD j It.zero).1 ∧ ic = (ds.getD j It.zero).2.1) := ⟨eip, eic⟩
      rw [← eip, ← eic] at d0 HMK
      have d0' : (wr.setCell ⟨g, j * 2, none⟩ (.int .i64 kj)).cell? ⟨g, j * 2 + 1, none⟩ = some (.slice ip l ic) := (World.cell?_setCell_other _ _ _ _ (by simp)).trans d0
      have HST : Hid _ := hst
      have HGB : Hid (B ≤ g ∧ g < U) := ⟨hbg, HR.out.top g rfl⟩
      clear hit hit2 hmj ht el eek eip eic hst evv
      go_wp2_with fail
      refine HMK.mono ?_
      rintro e w3 ⟨rfl, ho3, hkp⟩
      have HO3 : Hid (OwnBd w3 B U (some ⟨g, 0, none⟩) n c (mixB k bs (j + 1)) ds) := by
        have hr := HR.out
        have hlow := HLOW.out
        have haw := HAW.out
        refine ⟨by rw [mixB_len]; exact HNL.out, by rw [mixB_len, ← mixB_len k bs j]; exact hr.dlen, ?_, fun i hi => ?_, fun i hi => hr.low i (by rw [mixB_len] at hi ⊢; exact hi), fun i hi => hr.away i (by rw [mixB_len] at hi ⊢; exact hi), fun i i' h1 h2 => hr.apart i i' h1 (by rw [mixB_len] at h2 ⊢; exact h2), hr.top⟩
        · have hrow := HST.out
          have hv : (valsB ds (mixB k bs j)).set (j * 2) (.int .i64 kj) = valsB ds (mixB k bs (j + 1)) := by
            have hs := pairRow_set0 (f := fun i => .int .i64 ((mixB k bs j).getD i Bnd.zero).1) (g := fun i => .slice (ds.getD i It.zero).1 ((mixB k bs j).getD i Bnd.zero).2.length (ds.getD i It.zero).2.1) (f' := fun i => .int .i64 ((mixB k bs (j + 1)).getD i Bnd.zero).1) (n := bs.length) hjl (fun i hi hne => by
              rw [mixB_at _ _ _ _ hi, mixB_at _ _ _ _ hi]
              by_cases h2 : i < j
              · rw [if_pos h2, if_pos (by omega)]
              · rw [if_neg h2, if_neg (by omega)])
            have hkj : ((mixB k bs (j + 1)).getD j Bnd.zero).1 = kj := by rw [mixB_at _ _ _ _ hjl, if_pos (by omega), HK.out]
            rw [hkj] at hs
            unfold valsB
            rw [mixB_len, mixB_len, hs]
            exact pairRow_congr fun i hi => ⟨rfl, by rw [mixB_itemlen _ _ _ _ hi, mixB_itemlen _ _ _ _ hi]⟩
          rw [hv] at hrow
          refine ⟨hrow.1, ?_⟩
          rcases hrow.2 with h' | ⟨g', cap, cur, hv, hB, hg, r⟩
          · exact .inl h'
          · have e : g = g' := by simp only [Value.slice.injEq] at hv; exact congrArg Addr.block (Option.some.inj hv.1)
            exact .inr ⟨g', cap, cur, hv, hB, (hkp.block g' (Array.getElem?_eq_some_iff.1 hg).1 (by omega)).trans hg, r⟩
        · have hi' : i < bs.length := by rw [mixB_len] at hi; exact hi
          have him : i < (mixB k bs j).length := by rw [mixB_len]; exact hi'
          rw [mixB_itemlen _ _ _ _ hi', mixB_at _ _ _ _ hi']
          by_cases e : i = j
          · subst e
            rw [if_pos (by omega), ← HK.out, ← HEL.out, ← HIP.out.1, ← HIP.out.2]
            exact ho3
          · have old := hr.item i him
            rw [mixB_itemlen _ _ _ _ hi', mixB_at _ _ _ _ hi'] at old
            have hne : ∀ b, (ds.getD i It.zero).2.2.1 ≤ b → b < (ds.getD i It.zero).2.2.2 → b ≠ g := fun b h1 h2 => by have := hr.away i him g rfl; omega
            have old2 : OwnCU (wr.setCell ⟨g, j * 2, none⟩ (.int .i64 kj)) _ _ _ _ _ _ := old.other (by simp) (fun b _ h2 h3 => Below.heap_setCell _ _ _ _ (hne b h2 h3))
            have hap : (ds.getD i It.zero).2.2.2 ≤ (ds.getD j It.zero).2.2.1 ∨ (ds.getD j It.zero).2.2.2 ≤ (ds.getD i It.zero).2.2.1 := by
              rcases Nat.lt_or_ge i j with h | h
              · exact .inl (hr.apart i j h hjm)
              · exact .inr (hr.apart j i (by omega) him)
            have := old2.keep hkp hap
            by_cases h2 : i < j
            · rw [if_pos h2] at this
              rw [if_pos (by omega)]
              exact this
            · rw [if_neg h2] at this
              rw [if_neg (by omega)]
              exact this
      have HK3 : Hid (Keep B U w w3) := HG.out.trans (Keep.trans (⟨rfl, rfl, rfl, by simp, fun b hb hp => Below.heap_setCell _ _ _ _ (show b ≠ g by have := HGB.out; omega)⟩ : Keep B U wr (wr.setCell ⟨g, j * 2, none⟩ (.int .i64 kj))) ⟨hkp.os, hkp.tape, hkp.output, hkp.size, fun b hb hp => hkp.block b hb (by have := HLOW.out; omega)⟩)
      clear ho3 hkp HMK
      go_wp2_with fail
      go_roundw
      case rel => exact ⟨j + 1, ek, by omega, by have := HBD.out; omega, by have := HBD.out; omega, by go_num, rfl, HBD.out.1.symm, HO3, HK3⟩
      case measure => simp [intOf]; omega
    · obtain rfl : j = n := by omega
      have HE : Hid (kj = endBd k bs) := by show _ = _; rw [HK.out, endBd, HNL.out]
      have HF : Hid (OwnBB wr B U p j c (markB k bs)) := ⟨ds, by have := HR.out; rw [markB, ← HNL.out]; exact this⟩
      go_wp2_with fail
      go_ret
      exact ⟨ret_int HE.out, HF.out, HG.out⟩

set_option maxRecDepth 100000 in
theorem heldBd_any (p : Option Addr) (n c : Nat) (k : Int) (bs : List Bnd) (w : World) (h0 : 0 ≤ k) (h1 : k ≤ 100) (hn : bs.length + tll (trm bs) ≤ 2000000) (hl : n = bs.length) (hin : BdIn w p (markB k bs)) :
    Calls Try.prog 24 #[.slice p n c, .int .i64 k] w fun e w' => e = .returned (.int .i64 (endBd k bs)) ∧ w' = w := by
  have HI : Hid (BdIn w p (markB k bs)) := hin
  have HN : Hid (n = bs.length) := hl
  have hnn : n ≤ 2000000 := by omega
  clear hin hl
  go_enter Try.func24, Try.ntmps24
  go_wp2_with fail
  go_loop [1, 5] (fun q i => ∃ (j : Nat) (kj : Int), j ≤ n ∧ 0 ≤ kj ∧ kj ≤ 9000000 ∧ i = .int .i64 j ∧ q = .int .i64 kj ∧ Hid (kj = kB k bs j)) (fun _ i => n - (intOf i).toNat)
  case atStart => exact ⟨0, k, Nat.zero_le _, h0, by omega, rfl, rfl, by cases bs <;> rfl⟩
  case round =>
    obtain ⟨j, kj, hj, hk0, hk1, rfl, rfl, HK⟩ := hrel
    by_cases hlt : j < n
    · have hjl : j < bs.length := by rw [← HN.out]; exact hlt
      obtain ⟨b, o, rfl, hcs⟩ := HI.out (by rw [markB, mixB_len]; omega)
      obtain ⟨q, qc, dv, d0, d1⟩ := hcs j (by rw [markB, mixB_len]; exact hjl)
      simp only [markB] at dv d0 d1
      rw [mixB_itemlen _ _ _ _ hjl] at d0
      rw [mixB_at _ _ _ _ hjl, if_pos hjl] at dv d1
      rw [← HK.out] at dv d1
      have ht := tll_at (trm bs) j (by rw [trm_len]; exact hjl)
      rw [trm_at] at ht
      have HH := heldCells_any q (bs.getD j Bnd.zero).2.length qc (kj + 1) (bs.getD j Bnd.zero).2 w (by omega) (by omega) (by omega) rfl d1
      have HBD : Hid (kB k bs (j + 1) = endC (kj + 1) (bs.getD j Bnd.zero).2 ∧ 0 ≤ kB k bs (j + 1) ∧ kB k bs (j + 1) ≤ 9000000) := ⟨by rw [kB_succ _ _ _ hjl, ← HK.out], by have := kB_bound bs (j + 1) k; omega, by have := kB_bound bs (j + 1) k; omega⟩
      obtain ⟨l, el⟩ : ∃ l, l = (bs.getD j Bnd.zero).2.length := ⟨_, rfl⟩
      obtain ⟨ek, eek⟩ : ∃ ek, ek = endC (kj + 1) (bs.getD j Bnd.zero).2 := ⟨_, rfl⟩
      rw [← eek] at HH HBD
      rw [← el] at HH d0
      have hek : ¬ ek < 0 := by have := HBD.out; omega
      clear hcs d1 ht el eek
      go_wp2_with fail
      refine HH.mono ?_
      rintro e w3 ⟨rfl, rfl⟩
      go_wp2_with fail
      go_round
      case rel => exact ⟨j + 1, ek, by omega, by have := HBD.out; omega, by have := HBD.out; omega, by go_num, rfl, HBD.out.1.symm⟩
      case measure => simp [intOf]; omega
    · obtain rfl : j = n := by omega
      have HE : Hid (kj = endBd k bs) := by show _ = _; rw [HK.out, endBd, HN.out]
      go_wp2_with fail
      go_ret
      exact ⟨ret_int HE.out, rfl⟩

end Go.Proofs.Ytglebnelmnnboaa

