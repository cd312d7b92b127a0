/- Texts of UnI, BD4, Ap1, Ap2. Own work of the verifier. -/
import Derived.Test.YtaakpdakeolgeaaGreatUqbb
import Derived.Test.YtaakpdakeolgeaaGreatUqax
import Derived.Test.YtaakpdakeolgeaaGreatUqba
import Derived.Test.YtaakpdakeolgeaaGreatUqam
import Derived.Test.YtaakpdakeolgeaaGreatUqar
import Derived.Test.YtaakpdakeolgeaaGreatUqas
import Derived.Deep.RegionWith
namespace Go.Proofs.YtaakpdakeolgeaaGreat
open Go Go.RowKit
set_option linter.unusedVariables false
def AscM (M : BM) (ks : List Int) : Prop := ks.Pairwise (· < ·) ∧ ∀ x, x ∈ ks ↔ (M x).isSome = true
def UniT (x y : Tr) (bs : List Bnd) (code : Int) : Prop := match runU 4 5 3 20000 (fun _ => none) [(x, y)] with
  | .error c => bs = [] ∧ code = c ∧ 3 ≤ c ∧ c ≤ 5
  | .ok (M, _) => ∃ ks, AscM M ks ∧ match bindR M ks with
    | none => bs = [] ∧ code = 3
    | some l => bs = l ∧ code = 0
def UniIs (xs ys : List Cel) (bs : List Bnd) (code : Int) : Prop :=
  (validB xs = true ∧ validB ys = true ∧ ∃ c k c' k', xs = c :: k.cells ∧ ys = c' :: k'.cells ∧ (Fo.node c k .nil).ok ∧ (Fo.node c' k' .nil).ok ∧ UniT (c, k) (c', k') bs code) ∨ (¬ (validB xs = true ∧ validB ys = true) ∧ bs = [] ∧ code = 1)
theorem asc_unique : ∀ {l l' : List Int}, l.Pairwise (· < ·) → l'.Pairwise (· < ·) → (∀ x, x ∈ l ↔ x ∈ l') → l = l'
  | [], [], _, _, _ => rfl
  | [], b :: l', _, _, h => by have := (h b).2 (by simp); simp at this
  | a :: l, [], _, _, h => by have := (h a).1 (by simp); simp at this
  | a :: l, b :: l', h1, h2, h => by
    obtain ⟨p1, p2⟩ := List.pairwise_cons.1 h1
    obtain ⟨q1, q2⟩ := List.pairwise_cons.1 h2
    have hab : a = b := by
      rcases List.mem_cons.1 ((h a).1 (by simp)) with e | e
      · exact e
      · rcases List.mem_cons.1 ((h b).2 (by simp)) with e' | e'
        · exact e'.symm
        · have := p1 b e'
          have := q1 a e
          omega
    subst hab
    rw [asc_unique p2 q2 (fun x => ⟨fun hx => by
      rcases List.mem_cons.1 ((h x).1 (List.mem_cons_of_mem _ hx)) with e | e
      · have := p1 x hx; omega
      · exact e, fun hx => by
      rcases List.mem_cons.1 ((h x).2 (List.mem_cons_of_mem _ hx)) with e | e
      · have := q1 x hx; omega
      · exact e⟩)]
theorem UniT.det {x y : Tr} {bs bs' : List Bnd} {c c' : Int} (h : UniT x y bs c) (h' : UniT x y bs' c') : bs = bs' ∧ c = c' := by
  unfold UniT at h h'
  cases hr : runU 4 5 3 20000 (fun _ => none) [(x, y)] with
  | error d =>
    rw [hr] at h h'
    exact ⟨h.1.trans h'.1.symm, h.2.1.trans h'.2.1.symm⟩
  | ok r =>
    obtain ⟨M, m⟩ := r
    rw [hr] at h h'
    obtain ⟨ks, ha, hb⟩ := h
    obtain ⟨ks', ha', hb'⟩ := h'
    obtain rfl := asc_unique ha.1 ha'.1 (fun x => (ha.2 x).trans (ha'.2 x).symm)
    cases hB : bindR M ks with
    | none => rw [hB] at hb hb'; exact ⟨hb.1.trans hb'.1.symm, hb.2.trans hb'.2.symm⟩
    | some l => rw [hB] at hb hb'; exact ⟨hb.1.trans hb'.1.symm, hb.2.trans hb'.2.symm⟩
def Rng (M : BM) : Prop := ∀ x u, M x = some u → 0 ≤ x ∧ x ≤ 1000000
theorem ok_rng {t : Tr} (h : t.fo.ok) (h0 : t.1.1 = 0) : 0 ≤ t.1.2.1 ∧ t.1.2.1 ≤ 1000000 := by
  have h1 := h.1
  rw [h0] at h1
  simp [cellB] at h1
  omega
theorem Rng.set {M : BM} (h : Rng M) {v : Int} {t : Tr} (hv : 0 ≤ v ∧ v ≤ 1000000) : Rng (M.set v t) := fun x u hx => by
  simp only [BM.set] at hx
  by_cases e : x = v
  · rw [e]; exact hv
  · rw [if_neg e] at hx; exact h x u hx
theorem Rng.step {M M' : BM} {X Y : Tr} {qs : List TT} (hM : Rng M) (oX : X.fo.ok) (oY : Y.fo.ok) (h : stepE 4 5 M X Y = .ok (M', qs)) : Rng M' := by
  unfold stepE at h
  split at h
  · rename_i h0
    split at h
    · cases h; exact hM.set (ok_rng oX h0.1)
    · split at h
      · cases h; exact hM.set (ok_rng oY h0.2)
      · cases h; exact hM
  · split at h
    · rename_i h0
      split at h
      · cases h
      · cases h; exact hM.set (ok_rng oX h0)
    · split at h
      · rename_i h0
        split at h
        · cases h
        · cases h; exact hM.set (ok_rng oY h0)
      · split at h
        · cases h; exact hM
        · cases h
theorem Rng.run : ∀ (k : Nat) (M : BM) (st : List TT), Rng M → WfU M → (∀ p ∈ st, p.1.fo.ok ∧ p.2.fo.ok) → ∀ M' n, runU 4 5 3 k M st = .ok (M', n) → Rng M'
  | k, M, [], h, _, _, M', n, e => by rw [runU_nil] at e; cases e; exact h
  | 0, M, p :: ps, h, _, _, M', n, e => by cases e
  | k + 1, M, p :: ps, h, hw, ho, M', n, e => by
    rw [runU] at e
    have hp := ho p (by simp)
    have oX := hw.end_ok hp.1 (hw.endB p.1)
    have oY := hw.end_ok hp.2 (hw.endB p.2)
    cases hs : stepE 4 5 M (endB M p.1) (endB M p.2) with
    | error c => rw [hs] at e; cases e
    | ok r =>
      obtain ⟨M1, qs⟩ := r
      rw [hs] at e
      simp only at e
      obtain ⟨w1, w2⟩ := hw.step (hw.endB p.1).last (hw.endB p.2).last oX oY hs
      exact Rng.run k M1 (qs ++ ps) (h.step oX oY hs) w1 (fun q hq => by
        rcases List.mem_append.1 hq with hq | hq
        · exact w2 q hq
        · exact ho q (by simp [hq])) M' n e
theorem WfU.zero : WfU (fun _ => none) := ⟨⟨fun _ => 0, fun v u h => by cases h⟩, fun v u h => by cases h⟩
theorem bndU_same {P M : BM} (hc : Cut P M) (h : WfU M) (v : Int) : bndU P v = bndU M v := by
  unfold bndU
  cases hm : M v with
  | none => rw [hc.1 v hm]
  | some u =>
    obtain ⟨u', hp, hway⟩ := hc.2 v u hm
    rw [hp]
    simp only
    have hu' := (hc.wf h).ok v u' hp
    obtain ⟨g, hg⟩ := h.full u' hu'
    rw [hc.full_same h u' hu', fullC_eq hg, fullC_eq (FullF.from_stop hway hg)]
theorem bindR_same {P M : BM} (hc : Cut P M) (h : WfU M) (ks : List Int) : bindR P ks = bindR M ks := by
  have : bndU P = bndU M := funext (bndU_same hc h)
  unfold bindR bndsU
  rw [this]
theorem asc_same {W0 : World} {Bt : Nat} {P M : BM} {E : List (Int × Value)} {ks : List Int} (hc : Cut P M) (hb : BMIn W0 Bt P E) (h : AscK E ks) : AscM M ks := ⟨h.1, fun x => by
  rw [h.2.1 x]
  cases hm : M x with
  | none => rw [hb.2 x (hc.1 x hm)]; simp
  | some u =>
    obtain ⟨u', hp, _⟩ := hc.2 x u hm
    obtain ⟨v, hv, _⟩ := hb.1 x u' hp
    rw [hv]
    simp⟩
def UniO (w : World) (xs ys : List Cel) (e : Ending) (w' : World) : Prop := ∃ bs code p n c, UniIs xs ys bs code ∧ e = .returned (.tuple #[.slice p n c, .int .i64 code]) ∧ OwnBB w' w.heap.size w'.heap.size p n c bs ∧ Below w.heap.size w w'
set_option maxRecDepth 100000 in
set_option maxHeartbeats 1000000 in
theorem implUniC_bad (xs ys : List Cel) (p q : Option Addr) (cx cy : Nat) (hcx : xs.length ≤ cx ∧ cx ≤ 9223372036854775807) (hcy : ys.length ≤ cy ∧ cy ≤ 9223372036854775807) (w : World) (hn : xs.length ≤ 1000000000) (hm : ys.length ≤ 1000000000) (hp : CIn w p xs) (hq : CIn w q ys) (hb : ¬ (validB xs = true ∧ validB ys = true)) :
    Calls Tryz.prog 6 #[.slice p xs.length cx, .slice q ys.length cy] w (UniO w xs ys) := by
  have HV1 := implValid_any p cx xs w hn hp
  have HF : Hid (∀ W, Below w.heap.size w W → UniO w xs ys (.returned (.tuple #[.slice none 0 0, .int .i64 1])) W) := fun W hW => ⟨[], 1, none, 0, 0, .inr ⟨hb, rfl, rfl⟩, rfl, OwnBB.nil _ _ _, hW⟩
  by_cases h1 : validB xs = true
  · have HV2 : Hid (∀ W, Below w.heap.size w W → Calls Tryz.prog 25 #[.slice q ys.length cy] W fun e w' => e = .returned (.bool (validB ys)) ∧ Below W.heap.size W w') := fun W hW => implValid_any q cy ys W hm (hq.below hW)
    rw [h1] at HV1
    have h2' : validB ys = false := by
      cases h : validB ys with
      | false => rfl
      | true => exact (hb ⟨h1, h⟩).elim
    rw [h2'] at HV2
    clear h1 h2' hp hq hb
    go_enter Tryz.func6, Tryz.ntmps6
    go_wp2_with fail
    refine HV1.mono ?_
    rintro e w1 ⟨rfl, hb1⟩
    have HB1 : Hid (Below w.heap.size w w1) := hb1
    clear hb1 HV1
    go_wp2_with fail
    refine (HV2.out w1 HB1.out).mono ?_
    rintro e w2 ⟨rfl, hb2⟩
    have HB2 : Hid (Below w.heap.size w w2) := Below.on HB1.out hb2
    clear hb2
    go_wp2_with fail
    go_ret2
    exact HF.out _ HB2.out
  · have h1' : validB xs = false := by simpa using h1
    rw [h1'] at HV1
    clear h1 h1' hp hq hb
    go_enter Tryz.func6, Tryz.ntmps6
    go_wp2_with fail
    refine HV1.mono ?_
    rintro e w1 ⟨rfl, hb1⟩
    have HB1 : Hid (Below w.heap.size w w1) := hb1
    clear hb1 HV1
    go_wp2_with fail
    go_ret2
    exact HF.out _ HB1.out
set_option maxRecDepth 100000 in
set_option maxHeartbeats 2000000 in
theorem implUniC_any (xs ys : List Cel) (p q : Option Addr) (cx cy : Nat) (hcx : xs.length ≤ cx ∧ cx ≤ 9223372036854775807) (hcy : ys.length ≤ cy ∧ cy ≤ 9223372036854775807) (w : World) (hxb : ∀ i, i < xs.length → Byte (xs.getD i Cel.none).2.2) (hyb : ∀ i, i < ys.length → Byte (ys.getD i Cel.none).2.2) (hn : xs.length ≤ 1000000000) (hm : ys.length ≤ 1000000000) (hp : CIn w p xs) (hq : CIn w q ys) :
    Calls Tryz.prog 6 #[.slice p xs.length cx, .slice q ys.length cy] w (UniO w xs ys) := by
  by_cases hv : validB xs = true ∧ validB ys = true
  · obtain ⟨h1, h2⟩ := hv
    obtain ⟨c, k, ex, hok, hlx⟩ := tree_of hxb h1
    obtain ⟨c', k', ey, hok', hly⟩ := tree_of hyb h2
    have HV1 := implValid_any p cx xs w hn hp
    have HV2 : Hid (∀ W, Below w.heap.size w W → Calls Tryz.prog 25 #[.slice q ys.length cy] W fun e w' => e = .returned (.bool (validB ys)) ∧ Below W.heap.size W w') := fun W hW => implValid_any q cy ys W hm (hq.below hW)
    rw [h1] at HV1
    rw [h2] at HV2
    have HFIN : Hid (∀ bs code e pp nn cc W, UniT (c, k) (c', k') bs code → e = .returned (.tuple #[.slice pp nn cc, .int .i64 code]) → OwnBB W w.heap.size W.heap.size pp nn cc bs → Below w.heap.size w W → UniO w xs ys e W) := fun bs code e pp nn cc W h he ho hW => ⟨bs, code, pp, nn, cc, .inl ⟨h1, h2, c, k, c', k', ex, ey, hok, hok', h⟩, he, ho, hW⟩
    obtain ⟨n, en⟩ : ∃ n, n = xs.length := ⟨_, rfl⟩
    obtain ⟨m, em⟩ : ∃ m, m = ys.length := ⟨_, rfl⟩
    rw [← en] at hcx HV1 hn hlx ⊢
    rw [← em] at hcy HV2 hm hly ⊢
    have HK : Hid ((tcs (c, k)).length ≤ 2000 ∧ (tcs (c', k')).length ≤ 2000) := ⟨by rw [en, ex] at hlx; simp [tcs] at hlx ⊢; omega, by rw [em, ey] at hly; simp [tcs] at hly ⊢; omega⟩
    have HX : Hid ((Fo.node c k .nil).ok ∧ (Fo.node c' k' .nil).ok) := ⟨hok, hok'⟩
    have HT1 : Hid (∀ W, Below w.heap.size w W → Calls Tryz.prog 27 #[.slice p n cx] W fun e w' => ∃ v, e = .returned v ∧ FoIn w' W.heap.size (.node c k .nil) [v] ∧ Below W.heap.size W w') := fun W hW => termOf_any c k p n cx W hok (by rw [en, ex]; simp) hcx.1 hcx.2 (by have := hp.below hW; rwa [ex] at this)
    have HT2 : Hid (∀ W, Below w.heap.size w W → Calls Tryz.prog 27 #[.slice q m cy] W fun e w' => ∃ v, e = .returned v ∧ FoIn w' W.heap.size (.node c' k' .nil) [v] ∧ Below W.heap.size W w') := fun W hW => termOf_any c' k' q m cy W hok' (by rw [em, ey]; simp) hcy.1 hcy.2 (by have := hq.below hW; rwa [ey] at this)
    clear h1 h2 hp hq ex ey en em hok hok' hxb hyb hlx hly
    go_enter Tryz.func6, Tryz.ntmps6
    go_wp2_with fail
    refine HV1.mono ?_
    rintro e w1 ⟨rfl, hb1⟩
    have HB1 : Hid (Below w.heap.size w w1) := hb1
    clear hb1 HV1
    go_wp2_with fail
    refine (HV2.out w1 HB1.out).mono ?_
    rintro e w2 ⟨rfl, hb2⟩
    have HB2 : Hid (Below w.heap.size w w2) := Below.on HB1.out hb2
    clear hb2
    go_wp2_with fail
    refine (HT1.out w2 HB2.out).mono ?_
    rintro e w3 ⟨v3, rfl, hf3, hb3⟩
    have HB3 : Hid (Below w.heap.size w w3) := Below.on HB2.out hb3
    have HF3 : Hid (FoIn w3 w2.heap.size (.node c k .nil) [v3]) := hf3
    obtain ⟨t3, y3, rfl⟩ := hf3.iface
    clear hb3 hf3
    go_wp2_with fail
    refine (HT2.out w3 HB3.out).mono ?_
    rintro e w5 ⟨v5, rfl, hf5, hb5⟩
    have HB5 : Hid (Below w.heap.size w w5) := Below.on HB3.out hb5
    obtain ⟨t5, y5, rfl⟩ := hf5.iface
    have hri := RI.made w5 (c, k) (c', k') (.iface t3 y3) (.iface t5 y5) (FoIn.mono (FoIn.below HF3.out hb5) (Nat.zero_le _)) (FoIn.mono hf5 (Nat.zero_le _)) HX.out.1 HX.out.2 HK.out.1 HK.out.2
    have HNU := newUnifier_any w5 t3 t5 y3 y5
    obtain ⟨ub, eub⟩ : ∃ ub, ub = w5.heap.size + 1 + 1 + 1 := ⟨_, rfl⟩
    rw [← eub] at hri HNU
    have HRUN := run_any w5 0 w5.heap.size ub _ _ _ _ _ _ hri
    have HRR : Hid (∀ M m, runU 4 5 3 20000 (fun _ => none) [((c, k), (c', k'))] = .ok (M, m) → Rng M) := fun M m h => Rng.run 20000 _ _ (fun x u h => by cases h) WfU.zero (fun pp hpp => by rw [List.mem_singleton.1 hpp]; exact HX.out) M m h
    obtain ⟨RR, eRR⟩ : ∃ RR, RR = runU 4 5 3 20000 (fun _ => none) [((c, k), (c', k'))] := ⟨_, rfl⟩
    have HER : Hid (RR = runU 4 5 3 20000 (fun _ => none) [((c, k), (c', k'))]) := eRR
    rw [← eRR] at HRUN
    clear hb5 hf5 hri eRR eub
    go_wp2_with fail
    refine HNU.mono ?_
    rintro e w6 ⟨rfl, rfl⟩
    clear HNU
    go_wp2_with fail
    refine HRUN.mono ?_
    intro e w7 ho
    clear HRUN
    cases RR with
    | error d =>
      obtain ⟨hd, rfl, hb7⟩ := ho
      have HB7 : Hid (Below w.heap.size w w7) := Below.on HB5.out hb7
      have HD : Hid (3 ≤ d ∧ d ≤ 5) := by rcases hd with rfl | rfl | rfl <;> exact ⟨by decide, by decide⟩
      have hd0 : (d == 0) = false := by rcases hd with rfl | rfl | rfl <;> rfl
      clear hd hb7
      go_wp2_with fail
      go_ret2
      refine HFIN.out [] d _ _ _ _ _ ?_ rfl (OwnBB.nil _ _ _) HB7.out
      unfold UniT
      rw [← HER.out]
      exact ⟨rfl, rfl, HD.out.1, HD.out.2⟩
    | ok r =>
      obtain ⟨M, mm⟩ := r
      obtain ⟨rfl, hwf, hsm, P, E, hcut, hust, hEl⟩ := ho
      have hrng := HRR.out M mm HER.out.symm
      have HBI := bindings_any w5 0 P E w5.heap.size ub w7 hust (hcut.wf hwf) (hcut.small hwf hsm) hEl (fun x hx => by
        cases hP : M x with
        | none => rw [hust.bmi.2 x (hcut.1 x hP)] at hx; cases hx
        | some u => exact hrng x u hP)
      have HAS : Hid (∀ ks, AscK E ks → AscM M ks ∧ bindR P ks = bindR M ks) := fun ks h => ⟨asc_same hcut hust.bmi h, bindR_same hcut hwf ks⟩
      clear hwf hsm hcut hust hEl hrng
      go_wp2_with fail
      refine HBI.mono ?_
      rintro e w8 ⟨ks, hks, hb8, hbo⟩
      obtain ⟨ha, hbr⟩ := HAS.out ks hks
      rw [hbr] at hbo
      have HB8 : Hid (Below w.heap.size w w8) := Below.on HB5.out hb8
      have HU : Hid (∀ (bs : List Bnd) (code : Int), (match bindR M ks with | none => bs = [] ∧ code = 3 | some l => bs = l ∧ code = 0) → UniT (c, k) (c', k') bs code) := fun bs code h => by
        unfold UniT
        rw [← HER.out]
        exact ⟨ks, ha, h⟩
      cases hB : bindR M ks with
      | none =>
        rw [hB] at hbo HU
        subst hbo
        clear HBI hb8 ha hbr hB hks
        go_wp2_with fail
        go_ret2
        exact HFIN.out [] 3 _ _ _ _ _ (HU.out [] 3 ⟨rfl, rfl⟩) rfl (OwnBB.nil _ _ _) HB8.out
      | some l =>
        rw [hB] at hbo HU
        obtain ⟨pp, nn, cc, rfl, hown⟩ := hbo
        have HO : Hid (OwnBB w8 w.heap.size w8.heap.size pp nn cc l) := hown.wide (Nat.le_refl _) HB5.out.size
        clear HBI hb8 ha hbr hB hks hown
        go_wp2_with fail
        go_ret2
        exact HFIN.out l 0 _ _ _ _ _ (HU.out l 0 ⟨rfl, rfl⟩) rfl HO.out HB8.out
  · exact implUniC_bad xs ys p q cx cy hcx hcy w hn hm hp hq hv
end Go.Proofs.YtaakpdakeolgeaaGreat

namespace Go.Proofs.YtaakpdakeolgeaaGreat
open Go Go.RowKit
set_option linter.unusedVariables false
def bndB (last : Int) (b : Bnd) : Bool := decide (last < b.1) && decide (b.1 ≤ 1000000) && validB b.2
def substFrom : Int → List Bnd → Bool
  | _, [] => true
  | last, b :: r => bndB last b && substFrom b.1 r
def substB (bs : List Bnd) : Bool := decide (bs.length ≤ 1000) && substFrom (-1) bs
def lastB (bs : List Bnd) (k : Nat) : Int := if k = 0 then -1 else (bs.getD (k - 1) Bnd.zero).1
theorem substFrom_at (bs : List Bnd) (k : Nat) (h : k < bs.length) (last : Int) : substFrom last (bs.drop k) = (bndB last (bs.getD k Bnd.zero) && substFrom (bs.getD k Bnd.zero).1 (bs.drop (k + 1))) := by
  rw [List.drop_eq_getElem_cons h, substFrom]
  simp [List.getD, h]
theorem lastB_succ (bs : List Bnd) (k : Nat) : lastB bs (k + 1) = (bs.getD k Bnd.zero).1 := by simp [lastB]
theorem substFrom_mem : ∀ (bs : List Bnd) (last : Int), substFrom last bs = true → ∀ b ∈ bs, last < b.1 ∧ b.1 ≤ 1000000 ∧ validB b.2 = true
  | [], _, _, b, h => by cases h
  | x :: r, last, h, b, hb => by
    simp only [substFrom, bndB, Bool.and_eq_true, decide_eq_true_eq] at h
    rcases List.mem_cons.1 hb with rfl | hb
    · exact ⟨h.1.1.1, h.1.1.2, h.1.2⟩
    · have := substFrom_mem r x.1 h.2 b hb
      exact ⟨by omega, this.2⟩
theorem substFrom_up : ∀ (bs : List Bnd) (last : Int), substFrom last bs = true → ∀ i j, i < j → j < bs.length → (bs.getD i Bnd.zero).1 < (bs.getD j Bnd.zero).1
  | [], _, _, i, j, _, h => by simp at h
  | x :: r, last, h, i, j, hij, hj => by
    simp only [substFrom, bndB, Bool.and_eq_true, decide_eq_true_eq] at h
    cases j with
    | zero => omega
    | succ j =>
      have hj' : j < r.length := by simpa using hj
      cases i with
      | zero =>
        have := (substFrom_mem r x.1 h.2 (r.getD j Bnd.zero) (by simp [List.getD, hj'])).1
        simpa using this
      | succ i => simpa using substFrom_up r x.1 h.2 i j (by omega) hj'
set_option maxRecDepth 100000 in
set_option maxHeartbeats 1000000 in
theorem implSubst_any (p : Option Addr) (n c : Nat) (bs : List Bnd) (w : World) (hn : n = bs.length) (hb : n ≤ 300000000) (hl : bs.length + tll (trm bs) ≤ 300000000) (hin : BdIn w p bs) :
    Calls Tryz.prog 30 #[.slice p n c] w fun e w' => e = .returned (.bool (substB bs)) ∧ Below w.heap.size w w' := by
  have HI : Hid (BdIn w p bs) := hin
  have HN : Hid (n = bs.length) := hn
  by_cases h1 : n ≤ 1000
  · obtain ⟨R, eR⟩ : ∃ R, R = substFrom (-1) bs := ⟨_, rfl⟩
    have hR : substB bs = R := by rw [substB, eR, ← hn, decide_eq_true h1]; rfl
    rw [hR]
    have HR : Hid (R = substFrom (-1) (bs.drop 0)) := by show _ = _; rw [eR, List.drop_zero]
    clear hin hn hR eR
    go_enter Tryz.func30, Tryz.ntmps30
    go_wp2_with fail
    go_loopw [3, 11] (fun l i wr => ∃ (k : Nat) (last : Int), k ≤ n ∧ i = .int .i64 k ∧ l = .int .i64 last ∧ -1 ≤ last ∧ last ≤ 1000000 ∧ Hid (R = substFrom last (bs.drop k)) ∧ Hid (Below w.heap.size w wr)) (fun _ i _ => n - (intOf i).toNat)
    case atStart => exact ⟨0, -1, Nat.zero_le _, rfl, rfl, by decide, by decide, HR, Below.refl _ _⟩
    case round =>
      obtain ⟨k, last, hk, rfl, rfl, hl0, hl1, HR, HB⟩ := hrel
      by_cases hlt : k < n
      · have hkl : k < bs.length := by rw [← HN.out]; exact hlt
        obtain ⟨b, o, rfl, hcs⟩ := (HI.out.below HB.out) (by omega)
        obtain ⟨q, qc, d0, d1, d2⟩ := hcs k hkl
        have hst := substFrom_at bs k hkl last
        have hbd := tll_at (trm bs) k (by rw [trm_len]; exact hkl)
        rw [trm_at] at hbd
        obtain ⟨m, em⟩ : ∃ x, x = (bs.getD k Bnd.zero).2.length := ⟨_, rfl⟩
        obtain ⟨vv, evv⟩ : ∃ x, x = (bs.getD k Bnd.zero).1 := ⟨_, rfl⟩
        have HV : Hid (∀ W, Below wr.heap.size wr W → Calls Tryz.prog 25 #[.slice q m qc] W fun e w' => e = .returned (.bool (validB (bs.getD k Bnd.zero).2)) ∧ Below W.heap.size W w') := fun W hW => by rw [em]; exact implValid_any q qc (bs.getD k Bnd.zero).2 W (by omega) (d2.below hW)
        have HA : Hid (∀ o, Below wr.heap.size wr (wr.alloc o)) := fun o => (Below.refl _ _).alloc (Nat.le_refl _) _
        rw [bndB, ← evv] at hst
        rw [← em] at d1
        rw [← evv] at d0
        clear hcs d2 hbd em evv
        by_cases hv1 : last < vv
        · by_cases hv2 : vv ≤ 1000000
          · have hv1' : ¬ vv ≤ last := by omega
            have hv2' : ¬ 1000000 < vv := by omega
            rw [decide_eq_true hv1, decide_eq_true hv2] at hst
            obtain ⟨r, er⟩ : ∃ r, r = validB (bs.getD k Bnd.zero).2 := ⟨_, rfl⟩
            rw [← er] at hst HV
            cases r with
            | true =>
              have HR2 : Hid (R = substFrom vv (bs.drop (k + 1))) := by show _ = _; rw [HR.out, hst]; simp
              clear hst er
              go_wp2_with fail
              refine (HV.out _ (HA.out _)).mono ?_
              rintro e w2 ⟨rfl, hb2⟩
              have HB2 : Hid (Below w.heap.size w w2) := Below.on HB.out (Below.on (HA.out _) hb2)
              have k1 : w2.cell? ⟨wr.heap.size, 0, none⟩ = some (.int .i64 vv) := (hb2.cell (p := ⟨wr.heap.size, 0, none⟩) (by show _ < (wr.alloc _).heap.size; simp)).trans (cell_of_row _ _ 0 _ _ _ (heap_alloc_new wr _))
              clear hb2
              go_wp2_with fail
              go_roundw
              case rel => exact ⟨k + 1, vv, by omega, by go_num, rfl, by omega, hv2, HR2, HB2⟩
              case measure => simp [intOf]; omega
            | false =>
              have HR2 : Hid (R = false) := by show _ = _; rw [HR.out, hst]; simp
              clear hst er
              go_wp2_with fail
              refine (HV.out _ (HA.out _)).mono ?_
              rintro e w2 ⟨rfl, hb2⟩
              have HB2 : Hid (Below w.heap.size w w2) := Below.on HB.out (Below.on (HA.out _) hb2)
              clear hb2
              go_wp2_with fail
              go_ret
              exact ⟨ret_bool HR2.out.symm, HB2.out⟩
          · have hv1' : ¬ vv ≤ last := by omega
            have hv2' : 1000000 < vv := by omega
            have HR2 : Hid (R = false) := by show _ = _; rw [HR.out, hst, decide_eq_false hv2]; simp
            clear hst hv2
            go_wp2_with fail
            go_ret
            exact ⟨ret_bool HR2.out.symm, HB.out.alloc HB.out.size _⟩
        · have hv1' : vv ≤ last := by omega
          have HR2 : Hid (R = false) := by show _ = _; rw [HR.out, hst, decide_eq_false hv1]; simp
          clear hst hv1
          go_wp2_with fail
          go_ret
          exact ⟨ret_bool HR2.out.symm, HB.out.alloc HB.out.size _⟩
      · obtain rfl : k = n := by omega
        have HR2 : Hid (R = true) := by show _ = _; rw [HR.out, List.drop_eq_nil_of_le (by rw [← HN.out]; exact Nat.le_refl _)]; rfl
        go_wp2_with fail
        go_ret
        exact ⟨ret_bool HR2.out.symm, HB.out⟩
  · have hR : substB bs = false := by rw [substB, ← hn, decide_eq_false h1]; rfl
    rw [hR]
    have h1' : (1000 : Int) < (n : Int) := by omega
    clear hin hn hR h1
    go_enter Tryz.func30, Tryz.ntmps30
    go_wp2_with fail
    go_ret
    exact ⟨rfl, Below.refl _ _⟩
set_option maxRecDepth 100000 in
set_option maxHeartbeats 1000000 in
theorem l5index_any (p : Option Addr) (n c : Nat) (bs : List Bnd) (v : Int) (w : World) (hn : n = bs.length) (hb : n ≤ 1000000) (hup : ∀ i j, i < j → j < bs.length → (bs.getD i Bnd.zero).1 < (bs.getD j Bnd.zero).1) (hin : BdIn w p bs) :
    Calls Tryz.prog 37 #[.slice p n c, .int .i64 v] w fun e w' => e = .returned (.int .i64 (findI (bs.map Prod.fst) v)) ∧ w' = w := by
  have hkey : ∀ i, i < bs.length → (bs.map Prod.fst).getD i 0 = (bs.getD i Bnd.zero).1 := fun i hi => by simp [List.getD, hi]
  have HI : Hid (BdIn w p bs) := hin
  have HN : Hid (n = bs.length) := hn
  have HUP : Hid _ := hup
  have HKY : Hid _ := hkey
  clear hin hn hup hkey
  obtain ⟨R, eR⟩ : ∃ R, R = findI (bs.map Prod.fst) v := ⟨_, rfl⟩
  have HER : Hid (R = findI (bs.map Prod.fst) v) := eR
  rw [← eR]
  clear eR
  go_enter Tryz.func37, Tryz.ntmps37
  go_wp2_with fail
  go_loop [5, 6] (fun a b => ∃ (l h : Nat), l ≤ h ∧ h ≤ n ∧ a = .int .i64 l ∧ b = .int .i64 h ∧ Hid (∀ i, i < l → (bs.getD i Bnd.zero).1 < v) ∧ Hid (∀ i, h ≤ i → i < n → v ≤ (bs.getD i Bnd.zero).1)) (fun a b => (intOf b).toNat - (intOf a).toNat)
  case atStart => exact ⟨0, n, Nat.zero_le _, Nat.le_refl _, rfl, rfl, fun i h => by omega, fun i h1 h2 => by omega⟩
  case round =>
    obtain ⟨l, h, hlh, hhn, rfl, rfl, HL, HH⟩ := hrel
    by_cases hlt : l < h
    · obtain ⟨m, em⟩ : ∃ m, m = (l + h) / 2 := ⟨_, rfl⟩
      have hml : l ≤ m := by omega
      have hmh : m < h := by omega
      have hme : ((l : Int) + (h : Int)) / 2 = (m : Int) := by omega
      have hmn : m < bs.length := by rw [← HN.out]; omega
      obtain ⟨b, o, rfl, hcs⟩ := HI.out (by omega)
      obtain ⟨q, qc, d0, _, _⟩ := hcs m hmn
      obtain ⟨vv, evv⟩ : ∃ x, x = (bs.getD m Bnd.zero).1 := ⟨_, rfl⟩
      rw [← evv] at d0
      have HEV : Hid (vv = (bs.getD m Bnd.zero).1) := evv
      have hm0 : (0 : Int) ≤ (m : Int) := by omega
      have hmn' : (m : Int) < (n : Int) := by omega
      clear hcs em evv
      by_cases hv : vv < v
      · have HL2 : Hid (∀ i, i < m + 1 → (bs.getD i Bnd.zero).1 < v) := fun i hi => by
          rcases Nat.lt_or_ge i m with h' | h'
          · have := HUP.out i m h' hmn
            have := HEV.out
            omega
          · have e : i = m := by omega
            rw [e, ← HEV.out]; exact hv
        go_wp2_with fail
        go_round
        case rel => exact ⟨m + 1, h, by omega, hhn, by go_num, rfl, HL2, HH⟩
        case measure => simp [intOf]; omega
      · have HH2 : Hid (∀ i, m ≤ i → i < n → v ≤ (bs.getD i Bnd.zero).1) := fun i h1 h2 => by
          have := HEV.out
          rcases Nat.lt_or_ge m i with h' | h'
          · have := HUP.out m i h' (by rw [← HN.out]; exact h2)
            omega
          · have e : i = m := by omega
            rw [e, ← HEV.out]; omega
        go_wp2_with fail
        go_round
        case rel => exact ⟨l, m, hml, by omega, rfl, by rw [hme], HL, HH2⟩
        case measure => simp [intOf]; omega
    · obtain rfl : l = h := by omega
      by_cases hln : l < n
      · have hll : l < bs.length := by rw [← HN.out]; exact hln
        obtain ⟨b, o, rfl, hcs⟩ := HI.out (by omega)
        obtain ⟨q, qc, d0, _, _⟩ := hcs l hll
        obtain ⟨vv, evv⟩ : ∃ x, x = (bs.getD l Bnd.zero).1 := ⟨_, rfl⟩
        rw [← evv] at d0
        have HEV : Hid (vv = (bs.getD l Bnd.zero).1) := evv
        clear hcs evv
        by_cases hv : vv = v
        · subst hv
          have HF : Hid (R = (l : Int)) := by
            show _ = _
            rw [HER.out]
            refine find_at (by simp; exact hll) (fun i hi => ?_) (by rw [HKY.out l hll, ← HEV.out])
            rw [HKY.out i (by omega)]
            have := HL.out i hi
            omega
          go_wp2_with fail
          go_ret
          exact ⟨ret_int HF.out.symm, rfl⟩
        · have HF : Hid (R = -1) := by
            show _ = _
            rw [HER.out]
            refine find_none fun i hi => ?_
            have hi' : i < bs.length := by simpa using hi
            rw [HKY.out i hi']
            have h1 := HH.out l (Nat.le_refl _) hln
            have h2 := HEV.out
            rcases Nat.lt_trichotomy i l with h' | h' | h'
            · have := HL.out i h'; omega
            · rw [h', ← h2]; exact hv
            · have := HUP.out l i h' hi'; omega
          have hv' : (vv == v) = false := by simpa using hv
          go_wp2_with fail
          go_ret
          exact ⟨ret_int HF.out.symm, rfl⟩
      · have HF : Hid (R = -1) := by
          show _ = _
          rw [HER.out]
          refine find_none fun i hi => ?_
          have hi' : i < bs.length := by simpa using hi
          rw [HKY.out i hi']
          have := HL.out i (by have := HN.out; omega)
          omega
        go_wp2_with fail
        go_ret
        exact ⟨ret_int HF.out.symm, rfl⟩
end Go.Proofs.YtaakpdakeolgeaaGreat

namespace Go.Proofs.YtaakpdakeolgeaaGreat
open Go Go.RowKit
set_option linter.unusedVariables false
def sub1 (bs : List Bnd) (c : Cel) : List Cel := if c.1 = 0 then (match look bs c.2.1 with | some t => t | none => [c]) else [c]
def applyC (bs : List Bnd) (cs : List Cel) : List Cel := cs.flatMap (sub1 bs)
def szV (bs : List Bnd) (v : Int) : Nat := match look bs v with | some t => max 1 t.length | none => 1
def sz1 (bs : List Bnd) (c : Cel) : Nat := if c.1 = 0 then szV bs c.2.1 else 1
def szC (bs : List Bnd) : List Cel → Nat
  | [] => 0
  | c :: r => sz1 bs c + szC bs r
theorem szC_append (bs : List Bnd) : ∀ a b : List Cel, szC bs (a ++ b) = szC bs a + szC bs b
  | [], b => by simp [szC]
  | c :: r, b => by simp [szC, szC_append bs r b]; omega
def envC (y : Int × Tr) : Bnd := (y.1, y.2.1 :: y.2.2.cells)
def EnvOf (bs : List Bnd) (env : Env) : Prop := bs = env.map envC ∧ ∀ y ∈ env, y.2.ok ∧ (y.2.1 :: y.2.2.cells).length ≤ 2000
theorem validB_len {cs : List Cel} (h : validB cs = true) : cs.length ≤ 2000 := by
  simp only [validB, Bool.and_eq_true, decide_eq_true_eq] at h
  exact h.1
theorem env_of : ∀ (bs : List Bnd) (last : Int), substFrom last bs = true → (∀ b ∈ bs, ∀ j, j < b.2.length → Byte (b.2.getD j Cel.none).2.2) → ∃ env, EnvOf bs env
  | [], _, _, _ => ⟨[], rfl, fun y h => by cases h⟩
  | b :: r, last, h, hb => by
    simp only [substFrom, bndB, Bool.and_eq_true, decide_eq_true_eq] at h
    obtain ⟨env, he, hok⟩ := env_of r b.1 h.2 (fun x hx => hb x (by simp [hx]))
    obtain ⟨c, k, e, hck, hl⟩ := tree_of (hb b (by simp)) h.1.2
    refine ⟨(b.1, (c, k)) :: env, ?_, fun y hy => ?_⟩
    · rw [List.map_cons, ← he, envC]
      simp only
      rw [← e]
    · rcases List.mem_cons.1 hy with rfl | hy
      · exact ⟨hck, by rw [← e]; exact hl⟩
      · exact hok y hy
theorem look_env : ∀ (env : Env) (x : Int), look (env.map envC) x = (look env x).map (fun t => t.1 :: t.2.cells)
  | [], x => rfl
  | y :: r, x => by
    simp only [List.map_cons, look, envC]
    by_cases h : y.1 = x
    · simp [h]
    · simp [h, look_env r x]
def Fo.subst (env : Env) : Fo → Fo
  | .nil => .nil
  | .node c k r => if c.1 = 0 then (match look env c.2.1 with | some t => .node t.1 t.2 (Fo.subst env r) | none => .node c k (Fo.subst env r)) else .node c (Fo.subst env k) (Fo.subst env r)
theorem Fo.count_subst (env : Env) : ∀ F : Fo, (F.subst env).count = F.count
  | .nil => rfl
  | .node c k r => by
    have ih := Fo.count_subst env r
    simp only [Fo.subst]
    split
    · split <;> simp [Fo.count, ih]
    · simp [Fo.count, ih]
theorem Fo.subst_cat (env : Env) : ∀ a b : Fo, (a.cat b).subst env = (a.subst env).cat (b.subst env)
  | .nil, b => rfl
  | .node c k r, b => by
    have ih := Fo.subst_cat env r b
    simp only [Fo.cat, Fo.subst, ih]
    split
    · split <;> rfl
    · rfl
theorem Fo.ok_subst {env : Env} (he : ∀ y ∈ env, Tr.ok y.2) : ∀ F : Fo, F.ok → (F.subst env).ok
  | .nil, _ => trivial
  | .node c k r, h => by
    have ih := Fo.ok_subst he r h.2.2.2.2.2
    simp only [Fo.subst]
    split
    · cases hl : look env c.2.1 with
      | none => exact ⟨h.1, h.2.1, h.2.2.1, h.2.2.2.1, h.2.2.2.2.1, ih⟩
      | some t =>
        have ht := he _ (look_mem hl)
        exact ⟨ht.1, ht.2.1, ht.2.2.1, ht.2.2.2.1, ht.2.2.2.2.1, ih⟩
    · rename_i h0
      refine ⟨h.1, h.2.1, fun h3 => ?_, fun h3 => ?_, Fo.ok_subst he k h.2.2.2.2.1, ih⟩
      · rw [Fo.count_subst]; exact h.2.2.1 h3
      · rw [h.2.2.2.1 h3]; rfl
theorem Fo.cells_subst {bs : List Bnd} {env : Env} (he : EnvOf bs env) : ∀ F : Fo, F.ok → (F.subst env).cells = applyC bs F.cells
  | .nil, _ => rfl
  | .node c k r, h => by
    have ih := Fo.cells_subst he r h.2.2.2.2.2
    have ihk := Fo.cells_subst he k h.2.2.2.2.1
    have hlk : look bs c.2.1 = (look env c.2.1).map (fun t => t.1 :: t.2.cells) := by rw [he.1, look_env]
    simp only [applyC] at ih ihk
    simp only [Fo.subst, applyC, Fo.cells, List.flatMap_cons, List.flatMap_append]
    by_cases h0 : c.1 = 0
    · have hk : k = .nil := h.2.2.2.1 (by rw [h0]; decide)
      subst hk
      simp only [if_pos h0, sub1, hlk]
      cases hl : look env c.2.1 with
      | none => simp [Fo.cells, ih]
      | some t => simp [Fo.cells, ih]
    · simp only [if_neg h0, sub1, Fo.cells, ih, ihk]
      simp
theorem szC_len {bs : List Bnd} {env : Env} (he : EnvOf bs env) (cs : List Cel) : szC bs cs = (applyC bs cs).length := by
  induction cs with
  | nil => rfl
  | cons c r ih =>
    have hlk : look bs c.2.1 = (look env c.2.1).map (fun t => t.1 :: t.2.cells) := by rw [he.1, look_env]
    simp only [szC, applyC, List.flatMap_cons, List.length_append] at ih ⊢
    rw [ih]
    congr 1
    simp only [sz1, sub1, szV, hlk]
    split
    · cases look env c.2.1 with
      | none => simp
      | some t => simp
    · simp
theorem szV_bound {bs : List Bnd} {env : Env} (he : EnvOf bs env) (x : Int) : 1 ≤ szV bs x ∧ szV bs x ≤ 2000 := by
  have hlk : look bs x = (look env x).map (fun t => t.1 :: t.2.cells) := by rw [he.1, look_env]
  simp only [szV, hlk]
  cases hl : look env x with
  | none => simp
  | some t =>
    have := (he.2 _ (look_mem hl)).2
    simp at this ⊢
    omega
theorem szC_bound {bs : List Bnd} {env : Env} (he : EnvOf bs env) : ∀ cs : List Cel, szC bs cs ≤ 2000 * cs.length
  | [] => Nat.le_refl _
  | c :: r => by
    have := szC_bound he r
    have h1 := szV_bound he c.2.1
    simp only [szC, sz1, List.length_cons]
    split <;> omega
def BE (w0 : World) : List Bnd → List (Int × Value) → Prop
  | [], E => E = []
  | b :: r, E => ∃ q cp s, E = (b.1, .slice q b.2.length cp) :: s ∧ (b.2.length ≤ cp ∧ cp ≤ 9223372036854775807 ∧ CIn w0 q b.2) ∧ BE w0 r s
theorem BE.look {w0 : World} : ∀ (bs : List Bnd) (E : List (Int × Value)), BE w0 bs E → ∀ x : Int, (∀ t, Go.Proofs.YtaakpdakeolgeaaGreat.look bs x = some t → ∃ q cp, Go.Proofs.YtaakpdakeolgeaaGreat.look E x = some (.slice q t.length cp) ∧ t.length ≤ cp ∧ cp ≤ 9223372036854775807 ∧ CIn w0 q t) ∧ (Go.Proofs.YtaakpdakeolgeaaGreat.look bs x = none → Go.Proofs.YtaakpdakeolgeaaGreat.look E x = none)
  | [], E, h, x => by rw [show E = [] from h]; exact ⟨fun t e => (by cases e), fun _ => rfl⟩
  | b :: r, E, ⟨q, cp, s, e, hf, hr⟩, x => by
    subst e
    have ih := BE.look r s hr x
    simp only [Go.Proofs.YtaakpdakeolgeaaGreat.look]
    by_cases h : b.1 = x
    · simp only [if_pos h]
      exact ⟨fun t e => by cases e; exact ⟨q, cp, rfl, hf⟩, fun e => by cases e⟩
    · simp only [if_neg h]
      exact ih
theorem BE.snoc {w0 : World} {b : Bnd} {q : Option Addr} {cp : Nat} (hf : b.2.length ≤ cp ∧ cp ≤ 9223372036854775807 ∧ CIn w0 q b.2) : ∀ (bs : List Bnd) (E : List (Int × Value)), BE w0 bs E → BE w0 (bs ++ [b]) (E ++ [(b.1, .slice q b.2.length cp)])
  | [], E, h => by rw [show E = [] from h]; exact ⟨q, cp, [], rfl, hf, rfl⟩
  | y :: r, E, ⟨u, cu, s, e, h1, h2⟩ => by subst e; exact ⟨u, cu, s ++ [_], rfl, h1, BE.snoc hf r s h2⟩
theorem BE.keys {w0 : World} : ∀ (bs : List Bnd) (E : List (Int × Value)), BE w0 bs E → E.map Prod.fst = bs.map Prod.fst
  | [], E, h => by rw [show E = [] from h]; rfl
  | y :: r, E, ⟨u, cu, s, e, h1, h2⟩ => by subst e; simp [BE.keys r s h2]
structure ASt (w0 : World) (bs : List Bnd) (pb mb : Nat) (W : World) : Prop where
  low : Below w0.heap.size w0 W
  cell : W.cell? ⟨pb, 0, none⟩ = some (.map (some mb))
  map : ∃ N E, VMap W mb N E ∧ BE w0 bs E
theorem ASt.below {w0 : World} {bs : List Bnd} {pb mb : Nat} {W W' : World} (h : ASt w0 bs pb mb W) (hb : Below W.heap.size W W') : ASt w0 bs pb mb W' := by
  obtain ⟨N, E, hm, he⟩ := h.map
  exact ⟨Below.on h.low hb, (hb.cell (World.block_lt_of_cell? _ _ h.cell)).trans h.cell, ⟨N, E, hm.below hb, he⟩⟩
theorem zeroCells (w : World) : (zeroValue 23).run Tryz.prog w = .ok (.slice none 0 0) w := by kernel_rfl
theorem VMap.look1 {w : World} {b N : Nat} {E : List (Int × Value)} (h : VMap w b N E) {t e : TypeId} (ht : Tryz.prog.underlying t = some (.map 63 e)) {z : Value} (hz : (zeroValue e).run Tryz.prog w = .ok z w) (x : Int) (h0 : 0 ≤ x) (h1 : x ≤ 1000000) :
    (Instr.lookup t (.map (some b)) (.int .i64 x) false).run Tryz.prog w = .ok (match Go.Proofs.YtaakpdakeolgeaaGreat.look E x with | some v => v | none => z) w := by
  obtain ⟨D, hown, hsz, hhas, hat⟩ := h
  obtain ⟨v, ps, hrun, hv⟩ := hown.lookup lawVar ht hz (zd := .held z) (zp := []) rfl (key_of x h0 h1)
  rw [hrun]
  rw [hat] at hv
  simp only [anyE, Option.some.injEq, Prod.mk.injEq] at hv
  have hv := hv.1
  cases hl : Go.Proofs.YtaakpdakeolgeaaGreat.look E x with
  | none => rw [hl] at hv; cases hv; rfl
  | some u => rw [hl] at hv; cases hv; rfl
set_option maxRecDepth 100000 in
theorem size1_any (w0 : World) (bs : List Bnd) (pb mb : Nat) (x : Int) (w : World) (h0 : 0 ≤ x) (h1 : x ≤ 1000000) (hb : ∀ t, look bs x = some t → t.length ≤ 2000) (hs : ASt w0 bs pb mb w) :
    Calls Tryz.prog 32 #[.int .i64 x, .pointer (some ⟨pb, 0, none⟩)] w fun e w' => e = .returned (.int .i64 (szV bs x)) ∧ w' = w := by
  obtain ⟨N, E, hm, he⟩ := hs.map
  have hc := hs.cell
  have hl := hm.look1 (t := 62) Tryz.underlying62 (zeroCells w) x h0 h1
  have hk := BE.look _ _ he x
  cases hx : look bs x with
  | none =>
    rw [hk.2 hx] at hl
    have hv : szV bs x = 1 := by rw [szV, hx]
    rw [hv]
    clear hk hx hv hs hm he
    go_enter Tryz.func32, Tryz.ntmps32
    go_wp2
    go_ret
    exact ⟨rfl, rfl⟩
  | some t =>
    obtain ⟨q, cp, hq, _⟩ := hk.1 t hx
    rw [hq] at hl
    have hv : szV bs x = max 1 t.length := by rw [szV, hx]
    have hbt := hb t hx
    rw [hv]
    obtain ⟨m, em⟩ : ∃ m, m = t.length := ⟨_, rfl⟩
    rw [← em] at hl hbt ⊢
    clear hk hx hv hs hm he hq em
    by_cases h : 1 ≤ m
    · have hmx : max 1 m = m := by omega
      rw [hmx]
      have h' : (1 : Int) ≤ (m : Int) := by omega
      clear hmx h hb h0 h1
      go_enter Tryz.func32, Tryz.ntmps32
      go_wp2
      all_goals (go_ret; exact ⟨ret_int (by omega), rfl⟩)
    · obtain rfl : m = 0 := by omega
      go_enter Tryz.func32, Tryz.ntmps32
      go_wp2
      go_ret
      exact ⟨rfl, rfl⟩
end Go.Proofs.YtaakpdakeolgeaaGreat

namespace Go.Proofs.YtaakpdakeolgeaaGreat
open Go Go.RowKit
set_option linter.unusedVariables false
structure SzS (wa : World) (bs : List Bnd) (pb mb cb fb acc : Nat) (W : World) : Prop where
  cnt : W.cell? ⟨cb, 0, none⟩ = some (.int .i64 acc)
  free : W.frozen? ⟨cb, 0, none⟩ = false
  fn : W.cell? ⟨fb, 0, none⟩ = some (.func (.func 32) #[] #[.pointer (some ⟨pb, 0, none⟩)])
  ast : ASt wa bs pb mb W
  ne1 : fb ≠ cb
  ne2 : pb ≠ cb
  high : wa.heap.size ≤ cb
def SzW (w : World) (B : Nat) (wa : World) (bs : List Bnd) (pb mb cb fb acc : Nat) (e : Ending) (w' : World) : Prop := e = .returned (.tuple #[]) ∧ SzS wa bs pb mb cb fb acc w' ∧ Below B w w'
theorem SzS.set {wa : World} {bs : List Bnd} {pb mb cb fb acc : Nat} {W : World} (h : SzS wa bs pb mb cb fb acc W) (a : Nat) : SzS wa bs pb mb cb fb a (W.setCell ⟨cb, 0, none⟩ (.int .i64 a)) := by
  have hmc : mb ≠ cb := fun e => by
    obtain ⟨N, E, ⟨D, ⟨es, clock, hb, _⟩, _⟩, _⟩ := h.ast.map
    have hc := h.cnt
    rw [e] at hb
    simp [World.cell?, hb] at hc
  refine ⟨World.cell?_setCell_same' _ _ _ (by rw [h.cnt]; rfl), by rw [World.frozen?_setCell]; exact h.free, ?_, ⟨?_, ?_, ?_⟩, h.ne1, h.ne2, h.high⟩
  · rw [World.cell?_setCell_other _ _ _ _ (fun e => h.ne1 (congrArg Addr.block e).symm)]; exact h.fn
  · exact h.ast.low.setCell (p := ⟨cb, 0, none⟩) h.high _
  · rw [World.cell?_setCell_other _ _ _ _ (fun e => h.ne2 (congrArg Addr.block e).symm)]; exact h.ast.cell
  · obtain ⟨N, E, hm, he⟩ := h.ast.map
    exact ⟨N, E, hm.of_block (Below.heap_setCell _ _ _ _ hmc), he⟩
set_option maxRecDepth 100000 in
set_option maxHeartbeats 1000000 in
theorem sizeVisit_any (wa : World) (bs : List Bnd) (env : Env) (henv : EnvOf bs env) (pb mb cb fb : Nat) (c : Cel) (k : Fo) (v : Value) (Bt B acc : Nat) (w0 w : World) (hok : (Fo.node c k .nil).ok) (hBm : B ≤ cb) (hacc : acc ≤ 100000000) (hn : NodeIn w0 Bt c (fun kv => FoIn w0 Bt k kv) v) (hs : SzS wa bs pb mb cb fb acc w) :
    Calls Tryz.prog 64 #[v, .pointer (some ⟨cb, 0, none⟩), .pointer (some ⟨fb, 0, none⟩)] w (SzW w B wa bs pb mb cb fb (acc + sz1 bs c)) := by
  have hc0 := hs.cnt
  have hf0 := hs.free
  have hfn := hs.fn
  by_cases h0 : c.1 = 0
  · have hv : v = .iface 63 (.int .i64 c.2.1) := by
      rcases hn with ⟨_, e⟩ | ⟨e, _⟩ | ⟨e, _⟩ | ⟨e, _⟩
      · exact e
      · omega
      · omega
      · omega
    subst hv
    have hcb := hok.1
    rw [h0] at hcb
    have hx : 0 ≤ c.2.1 ∧ c.2.1 ≤ 1000000 := by simp [cellB] at hcb; exact ⟨hcb.1, hcb.2.1⟩
    have hz : sz1 bs c = szV bs c.2.1 := by rw [sz1, if_pos h0]
    have hzb := szV_bound henv c.2.1
    have hast : ASt wa bs pb mb w.drew := ⟨hs.ast.low.drew, hs.ast.cell, hs.ast.map⟩
    have HS := size1_any wa bs pb mb c.2.1 w.drew hx.1 hx.2 (fun t ht => by
      rw [henv.1, look_env] at ht
      cases hl : look env c.2.1 with
      | none => rw [hl] at ht; cases ht
      | some u => rw [hl] at ht; cases ht; exact (henv.2 _ (look_mem hl)).2) hast
    have HF : Hid (SzW w B wa bs pb mb cb fb (acc + sz1 bs c) (.returned (.tuple #[])) (w.drew.setCell ⟨cb, 0, none⟩ (.int .i64 ((acc + szV bs c.2.1 : Nat) : Int)))) := ⟨rfl, by
      rw [hz]
      exact SzS.set (⟨hs.cnt, hs.free, hs.fn, hast, hs.ne1, hs.ne2, hs.high⟩ : SzS wa bs pb mb cb fb acc w.drew) _, ((Below.refl _ _).drew).setCell (p := ⟨cb, 0, none⟩) hBm _⟩
    obtain ⟨x, ex⟩ : ∃ x, x = c.2.1 := ⟨_, rfl⟩
    obtain ⟨z, ez⟩ : ∃ z, z = szV bs c.2.1 := ⟨_, rfl⟩
    rw [← ez] at HS HF hzb
    rw [← ex] at HS ⊢
    have HWR : Hid (IntKind.i64.wrap ((acc : Int) + (z : Int)) = ((acc + z : Nat) : Int)) := by show _ = _; rw [IntKind.wrap_i64]; omega
    have a1 := isVar
    clear hs hn hok hcb hx hz ex ez h0 hast
    go_enter Tryz.func64, Tryz.ntmps64
    go_wp2_with fail
    go_region_with ((go_at_call 32; refine HS.mono ?_; rintro e w3 ⟨rfl, rfl⟩))
    all_goals go_wp2_with fail
    all_goals go_end0
    all_goals (rw [HWR.out]; exact HF.out)
  · have hz : sz1 bs c = 1 := by rw [sz1, if_neg h0]
    have hty : ∃ t y, v = .iface t y ∧ ∀ W, (Instr.typeAssert (.iface t y) 57 63 true).run Tryz.prog W = .ok (.tuple #[.int .i64 0, .bool false]) W := by
      rcases hn with ⟨e, _⟩ | ⟨_, e⟩ | ⟨_, e⟩ | ⟨_, b, g, vs, e, _⟩
      · exact absurd e h0
      · exact ⟨_, _, e, fun W => noVar_num W _⟩
      · exact ⟨_, _, e, fun W => noVar_atom W _⟩
      · exact ⟨_, _, e, fun W => noVar_comp W _⟩
    obtain ⟨t, y, rfl, a1⟩ := hty
    have HF : Hid (SzW w B wa bs pb mb cb fb (acc + sz1 bs c) (.returned (.tuple #[])) (w.setCell ⟨cb, 0, none⟩ (.int .i64 ((acc + 1 : Nat) : Int)))) := ⟨rfl, by rw [hz]; exact hs.set _, (Below.refl _ _).setCell (p := ⟨cb, 0, none⟩) hBm _⟩
    clear hs hn hok hz h0
    go_enter Tryz.func64, Tryz.ntmps64
    go_wp2_with fail
    go_end0
    exact HF.out
set_option maxRecDepth 100000 in
set_option maxHeartbeats 1000000 in
theorem sizeWalk_any (wa : World) (bs : List Bnd) (env : Env) (henv : EnvOf bs env) (pb mb cb fb : Nat) : ∀ (N : Nat) (c : Cel) (k : Fo) (v : Value) (Bt B acc : Nat) (w0 w : World), k.cells.length ≤ N → (Fo.node c k .nil).ok → FoIn w0 Bt (.node c k .nil) [v] → Below w0.heap.size w0 w → w0.heap.size ≤ B → B ≤ w.heap.size → B ≤ cb → SzS wa bs pb mb cb fb acc w → acc + 2000 * (1 + k.cells.length) ≤ 100000000 →
    Calls Tryz.prog 63 #[v, .func (.func 64) #[] #[.pointer (some ⟨cb, 0, none⟩), .pointer (some ⟨fb, 0, none⟩)]] w (SzW w B wa bs pb mb cb fb (acc + szC bs (c :: k.cells))) := by
  intro N
  induction N using Nat.strongRecOn with
  | _ N ih =>
    intro c k v Bt B acc w0 w hN hok hfo hw hB0 hB hBm hs hlen
    obtain ⟨v', vr, e, hnode, _⟩ := hfo
    obtain ⟨rfl, rfl⟩ := List.cons.inj e
    have HV := sizeVisit_any wa bs env henv pb mb cb fb c k v Bt B acc w0 w hok hBm (by omega) hnode hs
    have hz1 := szC_bound henv [c]
    simp only [szC, List.length_singleton, Nat.add_zero] at hz1
    have hsplit : acc + szC bs (c :: k.cells) = acc + sz1 bs c + szC bs k.cells := by simp only [szC]; omega
    rw [hsplit]
    have HIH : Hid _ := ih
    have HW : Hid (Below w0.heap.size w0 w) := hw
    have leaf : ∀ (t : TypeId) (x : Value), v = .iface t x → (t = 63 ∨ t = 130 ∨ t = 131) → c.1 ≠ 3 → Calls Tryz.prog 63 #[v, .func (.func 64) #[] #[.pointer (some ⟨cb, 0, none⟩), .pointer (some ⟨fb, 0, none⟩)]] w (SzW w B wa bs pb mb cb fb (acc + sz1 bs c + szC bs k.cells)) := fun t x hv ht h3 => by
      have hk : k = .nil := hok.2.2.2.1 h3
      subst hk hv
      have HA := fun W => argsLeaf_any t x W ht
      have hz : acc + sz1 bs c + szC bs Fo.nil.cells = acc + sz1 bs c := rfl
      rw [hz]
      clear hok hnode hs HIH ih e hw hsplit hz
      go_enter Tryz.func63, Tryz.ntmps63
      go_wp2_with fail
      refine HV.mono ?_
      rintro e w1 ⟨rfl, hst, hb⟩
      go_wp2_with fail
      refine (HA _).mono ?_
      rintro e w2 ⟨rfl, rfl⟩
      go_wp2_with fail
      refine wp_loop_rounds 1 ?_
      rw [rounds_succ]
      go_wp2_with fail
      go_end0
      exact ⟨rfl, hst, hb⟩
    rcases hnode with ⟨h0, hv⟩ | ⟨h0, hv⟩ | ⟨h0, hv⟩ | ⟨h0, b, g, vs, hv, hcomp⟩
    · exact leaf _ _ hv (.inl rfl) (by rw [h0]; decide)
    · exact leaf _ _ hv (.inr (.inl rfl)) (by rw [h0]; decide)
    · exact leaf _ _ hv (.inr (.inr rfl)) (by rw [h0]; decide)
    · subst hv
      clear leaf
      have HC : Hid (CompAt w0 Bt c.2.2 k b g vs) := hcomp
      have hvl2 : vs.length = k.count := FoIn.count _ _ hcomp.2.2.2.2.2.2
      obtain ⟨q, eq⟩ : ∃ q, q = vs.length := ⟨_, rfl⟩
      have HE : Hid (q = vs.length ∧ vs.length = k.count) := ⟨eq, hvl2⟩
      have hq : q ≤ 100000 := by have := Fo.count_le k; omega
      have HK : Hid k.ok := hok.2.2.2.2.1
      have HBB : Hid (b < w0.heap.size ∧ w0.cell? ⟨b, 1, none⟩ = some (.slice (some ⟨g, 0, none⟩) q q)) := ⟨World.block_lt_of_cell? _ _ hcomp.2.2.2.1, by rw [eq]; exact hcomp.2.2.2.1⟩
      clear hcomp hok hs ih e hw eq hvl2 hsplit
      go_enter Tryz.func63, Tryz.ntmps63
      go_wp2_with fail
      refine HV.mono ?_
      rintro e w1 ⟨rfl, hst, hb1⟩
      have d1 : w1.cell? ⟨b, 1, none⟩ = some (.slice (some ⟨g, 0, none⟩) q q) := (((HW.out.trans (hb1.mono hB0)).cell (p := ⟨b, 1, none⟩) HBB.out.1)).trans HBB.out.2
      have HST : Hid _ := hst
      have HB1 : Hid (Below B w w1) := hb1
      clear hst hb1 HV
      go_wp2_with fail
      refine (argsComp_any b g q _ d1).mono ?_
      rintro e w2 ⟨rfl, hw2⟩
      subst hw2
      clear d1
      go_wp2_with fail
      go_loopw [12] (fun i wr => ∃ (D R : Fo) (us vs2 : List Value) (j : Nat), j ≤ q ∧ i = .int .i64 j ∧ Hid (k = D.cat R ∧ vs = us ++ vs2 ∧ us.length = j) ∧ Hid (FoIn w0 Bt R vs2) ∧ Hid (SzS wa bs pb mb cb fb (acc + sz1 bs c + szC bs D.cells) wr) ∧ Hid (Below B w wr)) (fun i _ => q - (intOf i).toNat)
      case atStart => exact ⟨.nil, k, [], vs, 0, Nat.zero_le _, rfl, ⟨rfl, rfl, rfl⟩, HC.out.2.2.2.2.2.2, HST, HB1⟩
      case round =>
        obtain ⟨D, R, us, vs2, j, hj, rfl, HF, HR, HS, HB⟩ := hrel
        by_cases hlt : j < q
        · obtain ⟨c', k', r', rfl⟩ : ∃ c' k' r', R = .node c' k' r' := by
            cases R with
            | nil =>
              have h1 := HF.out
              have h2 : vs2 = [] := HR.out
              have h3 := HE.out.1
              rw [h1.2.1, h2, List.append_nil] at h3
              omega
            | node c' k' r' => exact ⟨c', k', r', rfl⟩
          obtain ⟨v, vr, rfl, hnode, hrest⟩ := HR.out
          have hok2 := (Fo.ok_cat D (.node c' k' r')).1 (HF.out.1 ▸ HK.out)
          have hl2 : D.cells.length + (k'.cells.length + r'.cells.length + 1) = k.cells.length := by
            rw [HF.out.1, Fo.cells_cat]; simp [Fo.cells]
          have hat : w0.cell? ⟨g, j, none⟩ = some v := by
            rw [HC.out.2.2.2.2.2.1 j (by rw [← HE.out.1]; exact hlt), HF.out.2.1]
            simp [List.getD, HF.out.2.2]
          have hwr : Below w0.heap.size w0 wr := HW.out.trans (HB.out.mono hB0)
          have c5 : wr.cell? ⟨g, j, none⟩ = some v := (hwr.cell (World.block_lt_of_cell? _ _ hat)).trans hat
          have hB4 : B ≤ wr.heap.size := Nat.le_trans hB HB.out.size
          have HWK := HIH.out k'.cells.length (by omega) c' k' v Bt B (acc + sz1 bs c + szC bs D.cells) w0 wr (Nat.le_refl _) ⟨hok2.2.1, hok2.2.2.1, hok2.2.2.2.1, hok2.2.2.2.2.1, hok2.2.2.2.2.2.1, trivial⟩ ⟨v, [], rfl, hnode, rfl⟩ hwr hB0 hB4 hBm HS.out (by have := szC_bound henv D.cells; omega)
          obtain ⟨vt, vx, rfl⟩ := hnode.iface
          have HRR : Hid (FoIn w0 Bt r' vr) := hrest
          clear hok2 hl2 hat hwr hnode hrest HIH
          go_wp2_with fail
          refine HWK.mono ?_
          rintro e w3 ⟨rfl, hst3, hb3⟩
          have HN : Hid (k = (D.cat (.node c' k' .nil)).cat r' ∧ vs = (us ++ [.iface vt vx]) ++ vr ∧ (us ++ [Value.iface vt vx]).length = j + 1) := ⟨by rw [Fo.cat_assoc]; exact HF.out.1, by rw [HF.out.2.1]; simp, by simp [HF.out.2.2]⟩
          have HST3 : Hid (SzS wa bs pb mb cb fb (acc + sz1 bs c + szC bs (D.cat (.node c' k' .nil)).cells) w3) := by
            have e : acc + sz1 bs c + szC bs (D.cat (.node c' k' .nil)).cells = acc + sz1 bs c + szC bs D.cells + szC bs (c' :: k'.cells) := by rw [Fo.cells_cat, szC_append]; simp [Fo.cells]; omega
            show SzS _ _ _ _ _ _ _ _
            rw [e]; exact hst3
          have HB3 : Hid (Below B w w3) := HB.out.trans hb3
          clear hst3 hb3 HWK
          go_wp2_with fail
          go_roundw
          case rel => exact ⟨D.cat (.node c' k' .nil), r', us ++ [.iface vt vx], vr, j + 1, by omega, by go_num, HN, HRR, HST3, HB3⟩
          case measure => simp [intOf]; omega
        · obtain rfl : j = q := by omega
          obtain rfl : R = .nil := by
            have h1 := FoIn.count _ _ HR.out
            have h2 := HE.out
            rw [HF.out.2.1, List.length_append] at h2
            have h3 := HF.out.2.2
            cases R with
            | nil => rfl
            | node a b d => simp [Fo.count] at h1; omega
          have HF' : Hid (D = k) := by have := HF.out.1; rw [Fo.cat_nil] at this; exact this.symm
          go_wp2_with fail
          go_end0
          refine ⟨rfl, ?_, HB.out⟩
          have h1 := HS.out
          rwa [HF'.out] at h1
end Go.Proofs.YtaakpdakeolgeaaGreat

