/- Texts of UnM2, UnS, Stk1, StrI. Own work of the verifier. -/
import Derived.Test.YtaakpdakeolgeaaGreatUqat
import Derived.RegionTactic
import Derived.ChangeAlike
import Derived.Test.YtaakpdakeolgeaaGreatUqar
import Derived.Test.YtaakpdakeolgeaaGreatUqag
import Derived.Test.YtaakpdakeolgeaaGreatUqab
import Derived.WalkSmall
import Derived.RangeFuncBox
import Derived.Test.YtaakpdakeolgeaaGreatUqac
namespace Go.Proofs.YtaakpdakeolgeaaGreat
open Go Go.RowKit
set_option linter.unusedVariables false
section
variable (W0 : World) (Bt : Nat) (P : BM) (EP : List (Int × Value)) (b ub mb : Nat)
set_option maxRecDepth 100000 in
set_option maxHeartbeats 1000000 in
theorem meetWalk_any (hbm : BMIn W0 Bt P EP) (hPok : ∀ x u, P x = some u → u.fo.ok ∧ (tcs u).length ≤ 2000) (hne : b ≠ mb) (hlow : W0.heap.size ≤ mb) (m : Nat) (hI : ∀ k, k < m → MeetOk W0 Bt P EP b ub mb k) (mx ux : Nat) : ∀ (N : Nat) (c : Cel) (k : Fo) (v : Value) (E : List (Int × Value)) (w : World), k.cells.length ≤ N → (Fo.node c k .nil).ok → FoIn W0 Bt (.node c k .nil) [v] →
    phi P E (EP.map Prod.fst) ≤ m → MeK W0 EP b ub mb w → VMet w mb E → w.cell? ⟨mx, 0, none⟩ = some (.map (some mb)) → w.cell? ⟨ux, 0, none⟩ = some (.pointer (some ⟨ub, 0, none⟩)) → E.length + phi P E (EP.map Prod.fst) + (1 + k.cells.length) ≤ 90000000 →
    Calls Tryz.prog 63 #[v, .func (.func 93) #[] #[.pointer (some ⟨mx, 0, none⟩), .pointer (some ⟨ux, 0, none⟩)]] w (MeOut P (EP.map Prod.fst) mb (c :: k.cells) E w) := by
  intro N
  induction N using Nat.strongRecOn with
  | _ N ih =>
    intro c k v E w hN hok hfo hphi hk hm hmx hux hbig
    obtain ⟨v', vr, e, hnode, _⟩ := hfo
    obtain ⟨rfl, rfl⟩ := List.cons.inj e
    have HV := meetVisit_any W0 Bt P EP b ub mb hbm hPok hne hlow m hI mx ux c k v E w hphi hok hnode hk hm hmx hux (by omega)
    have HIH : Hid _ := ih
    have HW : Hid (Below W0.heap.size W0 w) := hk.low
    have HK0 : Hid (MeK W0 EP b ub mb w) := hk
    have HM0 : Hid (VMap w mb E.length E) := hm.1
    have HMX : Hid (w.cell? ⟨mx, 0, none⟩ = some (.map (some mb))) := hmx
    have HUX : Hid (w.cell? ⟨ux, 0, none⟩ = some (.pointer (some ⟨ub, 0, none⟩))) := hux
    have HPH : Hid (phi P E (EP.map Prod.fst) ≤ m ∧ E.length + phi P E (EP.map Prod.fst) + (1 + k.cells.length) ≤ 90000000) := ⟨hphi, hbig⟩
    clear hphi hbig hk hm hmx hux hbm hPok hI
    have leaf : ∀ (t : TypeId) (x : Value), v = .iface t x → (t = 63 ∨ t = 130 ∨ t = 131) → c.1 ≠ 3 → Calls Tryz.prog 63 #[v, .func (.func 93) #[] #[.pointer (some ⟨mx, 0, none⟩), .pointer (some ⟨ux, 0, none⟩)]] w (MeOut P (EP.map Prod.fst) mb (c :: k.cells) E w) := fun t x hv ht h3 => by
      have hk : k = .nil := hok.2.2.2.1 h3
      subst hk hv
      have HA := fun W => argsLeaf_any t x W ht
      clear hok hnode HIH ih e
      go_enter Tryz.func63, Tryz.ntmps63
      go_wp2_with fail
      refine HV.mono ?_
      rintro e w1 ⟨rfl, hst⟩
      have HST : Hid (∃ E', MRel P (EP.map Prod.fst) [c] E E' ∧ VMet w1 mb E' ∧ w.grownBy w1 (some mb)) := hst
      clear hst
      go_wp2_with fail
      refine (HA _).mono ?_
      rintro e w2 ⟨rfl, rfl⟩
      go_wp2_with fail
      refine wp_loop_rounds 1 ?_
      rw [rounds_succ]
      go_wp2_with fail
      go_end0
      exact ⟨rfl, HST.out⟩
    rcases hnode with ⟨h0, hv⟩ | ⟨h0, hv⟩ | ⟨h0, hv⟩ | ⟨h0, bc, g, vs, hv, hcomp⟩
    · exact leaf _ _ hv (.inl rfl) (by rw [h0]; decide)
    · exact leaf _ _ hv (.inr (.inl rfl)) (by rw [h0]; decide)
    · exact leaf _ _ hv (.inr (.inr rfl)) (by rw [h0]; decide)
    · subst hv
      clear leaf
      have HC : Hid (CompAt W0 Bt c.2.2 k bc g vs) := hcomp
      have hvl2 : vs.length = k.count := FoIn.count _ _ hcomp.2.2.2.2.2.2
      obtain ⟨q, eq⟩ : ∃ q, q = vs.length := ⟨_, rfl⟩
      have HE : Hid (q = vs.length ∧ vs.length = k.count) := ⟨eq, hvl2⟩
      have hq : q ≤ 90000000 := by have := Fo.count_le k; have := HPH.out.2; omega
      have HK : Hid k.ok := hok.2.2.2.2.1
      have HBB : Hid (bc < W0.heap.size ∧ W0.cell? ⟨bc, 1, none⟩ = some (.slice (some ⟨g, 0, none⟩) q q)) := ⟨World.block_lt_of_cell? _ _ hcomp.2.2.2.1, by rw [eq]; exact hcomp.2.2.2.1⟩
      clear hcomp hok ih e eq hvl2
      go_enter Tryz.func63, Tryz.ntmps63
      go_wp2_with fail
      refine HV.mono ?_
      rintro e w1 ⟨rfl, E1, hr1, hm1, hg1⟩
      have hk1 := HK0.out.grown HM0.out hne hlow hg1
      have d1 : w1.cell? ⟨bc, 1, none⟩ = some (.slice (some ⟨g, 0, none⟩) q q) := ((hk1.low.cell (p := ⟨bc, 1, none⟩) HBB.out.1)).trans HBB.out.2
      have HST : Hid (∃ E2, MRel P (EP.map Prod.fst) (c :: Fo.nil.cells) E E2 ∧ VMet w1 mb E2) := ⟨E1, hr1, hm1⟩
      have HB1 : Hid (w.grownBy w1 (some mb)) := hg1
      clear hr1 hm1 hg1 hk1 HV
      go_wp2_with fail
      refine (argsComp_any bc g q _ d1).mono ?_
      rintro e w2 ⟨rfl, hw2⟩
      subst hw2
      clear d1
      go_wp2_with fail
      go_loopw [12] (fun i wr => ∃ (D R : Fo) (us vs2 : List Value) (j : Nat), j ≤ q ∧ i = .int .i64 j ∧ Hid (k = D.cat R ∧ vs = us ++ vs2 ∧ us.length = j) ∧ Hid (FoIn W0 Bt R vs2) ∧ Hid (∃ E2, MRel P (EP.map Prod.fst) (c :: D.cells) E E2 ∧ VMet wr mb E2) ∧ Hid (w.grownBy wr (some mb))) (fun i _ => q - (intOf i).toNat)
      case atStart => exact ⟨.nil, k, [], vs, 0, Nat.zero_le _, rfl, ⟨rfl, rfl, rfl⟩, HC.out.2.2.2.2.2.2, HST, HB1⟩
      case round =>
        obtain ⟨D, R, us, vs2, j, hj, rfl, HF, HR, HS, HB⟩ := hrel
        by_cases hlt : j < q
        · obtain ⟨c', k', r', rfl⟩ : ∃ c' k' r', R = .node c' k' r' := by
            cases R with
            | nil =>
              have h1 := HF.out
              have h2 : vs2 = [] := HR.out
              have h3 := HE.out.1
              rw [h1.2.1, h2, List.append_nil] at h3
              omega
            | node c' k' r' => exact ⟨c', k', r', rfl⟩
          obtain ⟨v, vr, rfl, hnode, hrest⟩ := HR.out
          have hok2 := (Fo.ok_cat D (.node c' k' r')).1 (HF.out.1 ▸ HK.out)
          have hl2 : D.cells.length + (k'.cells.length + r'.cells.length + 1) = k.cells.length := by
            rw [HF.out.1, Fo.cells_cat]; simp [Fo.cells]
          have hat : W0.cell? ⟨g, j, none⟩ = some v := by
            rw [HC.out.2.2.2.2.2.1 j (by rw [← HE.out.1]; exact hlt), HF.out.2.1]
            simp [List.getD, HF.out.2.2]
          have hkr := HK0.out.grown HM0.out hne hlow HB.out
          have c5 : wr.cell? ⟨g, j, none⟩ = some v := (hkr.low.cell (World.block_lt_of_cell? _ _ hat)).trans hat
          obtain ⟨E2, hr2, hm2⟩ := HS.out
          have hph := phi_mono (P := P) hr2.mono (EP.map Prod.fst)
          have hcost := hr2.cost
          simp only [List.length_cons] at hcost
          have HWK := HIH.out k'.cells.length (by omega) c' k' v E2 wr (Nat.le_refl _) ⟨hok2.2.1, hok2.2.2.1, hok2.2.2.2.1, hok2.2.2.2.2.1, hok2.2.2.2.2.2.1, trivial⟩ ⟨v, [], rfl, hnode, rfl⟩ (by have := HPH.out.1; omega) hkr hm2 (cell_grown HMX.out HB.out (cell_map_ne HMX.out HM0.out)) (cell_grown HUX.out HB.out (cell_map_ne HUX.out HM0.out)) (by have := HPH.out.2; omega)
          obtain ⟨vt, vx, rfl⟩ := hnode.iface
          have HRR : Hid (FoIn W0 Bt r' vr) := hrest
          have HR2 : Hid (MRel P (EP.map Prod.fst) (c :: D.cells) E E2) := hr2
          clear hok2 hl2 hat hkr hnode hrest HIH hr2 hm2 hph hcost
          go_wp2_with fail
          refine HWK.mono ?_
          rintro e w3 ⟨rfl, E3, hr3, hm3, hg3⟩
          have HN : Hid (k = (D.cat (.node c' k' .nil)).cat r' ∧ vs = (us ++ [.iface vt vx]) ++ vr ∧ (us ++ [Value.iface vt vx]).length = j + 1) := ⟨by rw [Fo.cat_assoc]; exact HF.out.1, by rw [HF.out.2.1]; simp, by simp [HF.out.2.2]⟩
          have HST3 : Hid (∃ E2, MRel P (EP.map Prod.fst) (c :: (D.cat (.node c' k' .nil)).cells) E E2 ∧ VMet w3 mb E2) := ⟨E3, by
            have h := HR2.out.app hr3
            have e : (c :: D.cells) ++ (c' :: k'.cells) = c :: (D.cat (.node c' k' .nil)).cells := by rw [Fo.cells_cat]; simp [Fo.cells]
            rwa [e] at h, hm3⟩
          have HB3 : Hid (w.grownBy w3 (some mb)) := HB.out.andThen hg3 (fun j hj => .inr hj)
          clear hr3 hm3 hg3 HWK
          go_wp2_with fail
          go_roundw
          case rel => exact ⟨D.cat (.node c' k' .nil), r', us ++ [.iface vt vx], vr, j + 1, by omega, by go_num, HN, HRR, HST3, HB3⟩
          case measure => simp [intOf]; omega
        · obtain rfl : j = q := by omega
          obtain rfl : R = .nil := by
            have h1 := FoIn.count _ _ HR.out
            have h2 := HE.out
            rw [HF.out.2.1, List.length_append] at h2
            have h3 := HF.out.2.2
            cases R with
            | nil => rfl
            | node a b d => simp [Fo.count] at h1; omega
          have HF' : Hid (D = k) := by have := HF.out.1; rw [Fo.cat_nil] at this; exact this.symm
          go_wp2_with fail
          go_end0
          refine ⟨rfl, ?_⟩
          obtain ⟨E2, h1, h2⟩ := HS.out
          rw [HF'.out] at h1
          exact ⟨E2, h1, h2, HB.out⟩
set_option maxRecDepth 100000 in
set_option maxHeartbeats 1000000 in
theorem meet_any (hbm : BMIn W0 Bt P EP) (hPok : ∀ x u, P x = some u → u.fo.ok ∧ (tcs u).length ≤ 2000) (hne : b ≠ mb) (hlow : W0.heap.size ≤ mb) : ∀ m, MeetOk W0 Bt P EP b ub mb m := by
  intro m
  induction m using Nat.strongRecOn with
  | _ m ih =>
    intro t v E w hphi hok hf hk hm hbig
    obtain ⟨w1, e1⟩ : ∃ w1, w1 = (w.alloc (.cells #[.pointer (some ⟨ub, 0, none⟩)] 54)).alloc (.cells #[.map (some mb)] 149) := ⟨_, rfl⟩
    have hg : w.grownBy w1 (some mb) := by
      rw [e1]
      exact ((World.grownBy_alloc w _ (some mb)).andThen (World.grownBy_alloc _ _ (some mb)) (fun j hj => .inr hj))
    have hmx : w1.cell? ⟨w.heap.size + 1, 0, none⟩ = some (.map (some mb)) := by
      rw [e1]
      have := World.cell?_alloc_new (w.alloc (.cells #[.pointer (some ⟨ub, 0, none⟩)] 54)) #[.map (some mb)] 149 0
      rw [World.size_alloc] at this
      exact this
    have hux : w1.cell? ⟨w.heap.size, 0, none⟩ = some (.pointer (some ⟨ub, 0, none⟩)) := by
      rw [e1]
      rw [((Below.refl (w.heap.size + 1) (w.alloc (.cells #[.pointer (some ⟨ub, 0, none⟩)] 54))).alloc (by simp) _).cell (p := ⟨w.heap.size, 0, none⟩) (by simp)]
      simp
    have hm1 : VMet w1 mb E := ⟨by rw [e1]; exact (hm.1.allocd _).allocd _, hm.2⟩
    have HWK := meetWalk_any W0 Bt P EP b ub mb hbm hPok hne hlow m ih (w.heap.size + 1) w.heap.size t.2.cells.length t.1 t.2 v E w1 (Nat.le_refl _) hok hf hphi (hk.grown hm.1 hne hlow hg) hm1 hmx hux (by simp only [tcs, List.length_cons] at hbig; omega)
    have HO : Hid (∀ e w', MeOut P (EP.map Prod.fst) mb (t.1 :: t.2.cells) E w1 e w' → e = .returned (.tuple #[]) ∧ MeOut P (EP.map Prod.fst) mb (tcs t) E w e w') := fun e w' ⟨h1, E', h2, h3, h4⟩ => ⟨h1, h1, E', h2, h3, hg.andThen h4 (fun j hj => .inr hj)⟩
    have HW2 := HWK.mono HO.out
    obtain ⟨tv, yv, rfl⟩ := FoIn.iface (show FoIn W0 Bt (.node t.1 t.2 .nil) [v] from hf)
    clear hphi hok hf hk hm hbig hg hmx hux hm1 HWK HO ih hbm hPok
    go_enter Tryz.func88, Tryz.ntmps88
    go_wp2_with fail
    rw [← e1]
    refine HW2.mono ?_
    rintro e w2 ⟨rfl, hfin⟩
    have HF : Hid (MeOut P (EP.map Prod.fst) mb (tcs t) E w (.returned (.tuple #[])) w2) := hfin
    clear hfin HW2
    go_wp2_with fail
    go_end0
    exact HF.out
end
end Go.Proofs.YtaakpdakeolgeaaGreat

namespace Go.Proofs.YtaakpdakeolgeaaGreat
open Go Go.RowKit
set_option linter.unusedVariables false
theorem grown_none {w w' : World} {mb : Nat} (h : w.grownBy w' (some mb)) (hm : w.heap.size ≤ mb) : w.grownBy w' none := ⟨h.os, h.tape, h.output, h.size, fun k hk _ => h.block k hk (fun e => by cases e; omega)⟩
theorem phi_bound {P : BM} (hp : ∀ x u, P x = some u → (tcs u).length ≤ 2000) (E : List (Int × Value)) : ∀ K : List Int, phi P E K ≤ 2000 * K.length
  | [] => by simp [phi]
  | x :: r => by
    have ih := phi_bound hp E r
    unfold phi
    have hw : wgt P x ≤ 2000 := by
      unfold wgt
      cases h : P x with
      | none => exact Nat.zero_le _
      | some u => exact hp x u h
    simp only [List.length_cons]
    split <;> omega
def StOut (P : BM) (t : Tr) (x : Int) (w : World) (e : Ending) (w' : World) : Prop := ∃ r : Bool, e = .returned (.bool r) ∧ (r = true ↔ Reach P t x) ∧ w.grownBy w' none
set_option maxRecDepth 100000 in
set_option maxHeartbeats 1000000 in
theorem standsIn_any (W0 : World) (Bt : Nat) (P : BM) (EP : List (Int × Value)) (b ub : Nat) (hbm : BMIn W0 Bt P EP) (hPok : ∀ x u, P x = some u → u.fo.ok ∧ (tcs u).length ≤ 2000) (hE : EP.length ≤ 20000) (x : Int) (hx : 0 ≤ x ∧ x ≤ 1000000) (t : Tr) (v : Value) (w : World)
    (hok : t.fo.ok) (htl : (tcs t).length ≤ 2000) (hf : FoIn W0 Bt t.fo [v]) (hlow : Below W0.heap.size W0 w) (hub : w.cell? ⟨ub, 0, none⟩ = some (.map (some b))) (hb : VMap w b EP.length EP) :
    Calls Tryz.prog 78 #[.pointer (some ⟨ub, 0, none⟩), .int .i64 x, v] w (StOut P t x w) := by
  obtain ⟨w1, e1⟩ : ∃ w1, w1 = w.alloc (.map #[] 0) := ⟨_, rfl⟩
  have hg1 : w.grownBy w1 (some w.heap.size) := by rw [e1]; exact World.grownBy_alloc w _ _
  have hm1 : VMet w1 w.heap.size [] := ⟨by rw [e1]; exact VMap.made w, fun x y h => by simp [look] at h⟩
  have hne : b ≠ w.heap.size := Nat.ne_of_lt hb.lt
  have hk1 : MeK W0 EP b ub w.heap.size w1 := ⟨by rw [e1]; exact hlow.alloc hlow.size _, cell_grown hub hg1 (Nat.ne_of_lt (World.block_lt_of_cell? _ _ hub)), by rw [e1]; exact hb.allocd _⟩
  have hphi := phi_bound (fun y u hy => (hPok y u hy).2) [] (EP.map Prod.fst)
  rw [List.length_map] at hphi
  have HM := meet_any W0 Bt P EP b ub w.heap.size hbm hPok hne hlow.size _ t v [] w1 (Nat.le_refl _) hok hf hk1 hm1 (by simp only [List.length_nil]; omega)
  have HO : Hid (∀ e w2, MeOut P (EP.map Prod.fst) w.heap.size (tcs t) [] w1 e w2 → e = .returned (.tuple #[]) ∧ ∃ y r, (Instr.lookup 149 (.map (some w.heap.size)) (.int .i64 x) true).run Tryz.prog w2 = .ok (.tuple #[.agg #[], .bool r]) w2 ∧ (r = true ↔ Reach P t x) ∧ w.grownBy (w2.alloc (.cells #[] 151)) none ∧ w.grownBy w2 none ∧ y = true) := fun e w2 ⟨h1, E', h2, h3, h4⟩ => by
    have hl := h3.1.look (t := 149) Tryz.underlying149 (zeroUnit w2) x hx.1 hx.2
    have hgn := grown_none (hg1.andThen h4 (fun j hj => .inr hj)) (Nat.le_refl _)
    have hr := h2.reach x
    cases hq : look E' x with
    | none =>
      rw [hq] at hl hr
      exact ⟨h1, true, _, hl, hr, hgn.andThen (World.grownBy_alloc _ _ none) (fun j hj => .inr hj), hgn, rfl⟩
    | some y =>
      obtain rfl := h3.2 x y hq
      rw [hq] at hl hr
      exact ⟨h1, true, _, hl, hr, hgn.andThen (World.grownBy_alloc _ _ none) (fun j hj => .inr hj), hgn, rfl⟩
  have HM2 := HM.mono HO.out
  obtain ⟨tv, yv, rfl⟩ := FoIn.iface (show FoIn W0 Bt (.node t.1 t.2 .nil) [v] from hf)
  clear hbm hPok hE hx hok htl hf hlow hub hb hg1 hm1 hne hk1 hphi HM HO
  have hmm := @run_makeMap Tryz.prog
  go_enter Tryz.func78, Tryz.ntmps78
  go_wp2_with fail
  rw [← e1]
  refine HM2.mono ?_
  rintro e w2 ⟨rfl, _, r, hl, hr, hg, hg', _⟩
  have HR : Hid (r = true ↔ Reach P t x) := hr
  have HG : Hid (w.grownBy (w2.alloc (.cells #[] 151)) none) := hg
  have HG' : Hid (w.grownBy w2 none) := hg'
  clear hr hg hg' HM2
  go_wp2_with fail
  go_ret
  first | exact ⟨r, rfl, HR.out, HG.out⟩ | exact ⟨r, rfl, HR.out, HG'.out⟩
theorem var_or {W0 : World} {Bt : Nat} {t : Tr} {v : Value} (hf : FoIn W0 Bt t.fo [v]) : (t.1.1 = 0 → v = .iface 63 (.int .i64 t.1.2.1)) ∧ (t.1.1 ≠ 0 → ∃ a y, v = .iface a y ∧ ∀ W, (Instr.typeAssert (.iface a y) 57 63 true).run Tryz.prog W = .ok (.tuple #[.int .i64 0, .bool false]) W) := by
  obtain ⟨v', vr, e', hn, _⟩ := hf
  obtain ⟨rfl, rfl⟩ := List.cons.inj e'
  constructor
  · intro h0
    rcases hn with ⟨_, e⟩ | ⟨e, _⟩ | ⟨e, _⟩ | ⟨e, _⟩
    · exact e
    · omega
    · omega
    · omega
  · intro h0
    rcases hn with ⟨e, _⟩ | ⟨_, e⟩ | ⟨_, e⟩ | ⟨_, b, g, vs, e, _⟩
    · exact absurd e h0
    · exact ⟨_, _, e, fun W => noVar_num W _⟩
    · exact ⟨_, _, e, fun W => noVar_atom W _⟩
    · exact ⟨_, _, e, fun W => noVar_comp W _⟩
theorem gdrew {w w' : World} {r : Option Nat} (h : w.grownBy w' r) : w.grownBy w'.drew r := ⟨h.os, h.tape, h.output, h.size, h.block⟩
def TbOut (x y : Tr) (v1 v2 : Value) (w : World) (e : Ending) (w' : World) : Prop := (∃ (n : Int) (to : Value) (ok : Bool), e = .returned (.tuple #[.int .i64 n, to, .bool ok]) ∧
  (y.1.1 = 0 → (x.1.1 = 0 → x.1.2.1 < y.1.2.1) → n = y.1.2.1 ∧ to = v1 ∧ ok = true) ∧ (x.1.1 = 0 → (y.1.1 = 0 → y.1.2.1 ≤ x.1.2.1) → n = x.1.2.1 ∧ to = v2 ∧ ok = true) ∧ (x.1.1 ≠ 0 → y.1.1 ≠ 0 → ok = false)) ∧ w.grownBy w' none
set_option maxRecDepth 100000 in
set_option maxHeartbeats 1000000 in
theorem toBind_any (W0 : World) (Bt : Nat) (x y : Tr) (v1 v2 : Value) (w : World) (hx : FoIn W0 Bt x.fo [v1]) (hy : FoIn W0 Bt y.fo [v2]) (bx : x.1.1 = 0 → 0 ≤ x.1.2.1 ∧ x.1.2.1 ≤ 1000000) (bY : y.1.1 = 0 → 0 ≤ y.1.2.1 ∧ y.1.2.1 ≤ 1000000) :
    Calls Tryz.prog 77 #[.agg #[v1, v2]] w (TbOut x y v1 v2 w) := by
  have vx := var_or hx
  have vy := var_or hy
  have a1 := isVar
  have HG : Hid (∀ o, w.grownBy (w.alloc o) none) := fun o => World.grownBy_alloc w o none
  have HG0 : Hid (w.grownBy w none) := .refl _ _
  by_cases h1 : x.1.1 = 0
  · obtain rfl := vx.1 h1
    have b1 := bx h1
    by_cases h2 : y.1.1 = 0
    · obtain rfl := vy.1 h2
      have b2 := bY h2
      obtain ⟨m, em⟩ : ∃ m, m = x.1.2.1 := ⟨_, rfl⟩
      obtain ⟨n, en⟩ : ∃ n, n = y.1.2.1 := ⟨_, rfl⟩
      have HE : Hid (x.1.1 = 0 ∧ y.1.1 = 0 ∧ m = x.1.2.1 ∧ n = y.1.2.1) := ⟨h1, h2, em, en⟩
      rw [← em] at b1 ⊢
      rw [← en] at b2 ⊢
      clear vx vy h1 h2 bx bY hx hy em en
      by_cases hlt : m < n
      · go_enter Tryz.func77, Tryz.ntmps77
        go_wp2_with fail
        go_region
        all_goals
          go_wp2_with fail
          go_ret3
          refine ⟨⟨_, _, _, rfl, fun _ _ => ⟨HE.out.2.2.2, rfl, rfl⟩, fun _ h => ?_, fun h => absurd HE.out.1 h⟩, ?_⟩
          · have := h HE.out.2.1; have := HE.out; omega
          · first | exact HG0.out | exact HG.out _ | exact gdrew (HG.out _) | exact gdrew (gdrew (HG.out _))
      · go_enter Tryz.func77, Tryz.ntmps77
        go_wp2_with fail
        go_region
        all_goals
          go_wp2_with fail
          go_ret3
          refine ⟨⟨_, _, _, rfl, fun _ h => ?_, fun _ _ => ⟨HE.out.2.2.1, rfl, rfl⟩, fun h => absurd HE.out.1 h⟩, ?_⟩
          · have := h HE.out.1; have := HE.out; omega
          · first | exact HG0.out | exact HG.out _ | exact gdrew (HG.out _) | exact gdrew (gdrew (HG.out _))
    · obtain ⟨a, z, rfl, a2⟩ := vy.2 h2
      obtain ⟨m, em⟩ : ∃ m, m = x.1.2.1 := ⟨_, rfl⟩
      have HE : Hid (x.1.1 = 0 ∧ y.1.1 ≠ 0 ∧ m = x.1.2.1) := ⟨h1, h2, em⟩
      rw [← em] at b1 ⊢
      clear vx vy h1 h2 bx bY hx hy em
      go_enter Tryz.func77, Tryz.ntmps77
      go_wp2_with fail
      go_region
      all_goals
        go_wp2_with fail
        go_ret3
        refine ⟨⟨_, _, _, rfl, fun h => absurd h HE.out.2.1, fun _ _ => ⟨HE.out.2.2, rfl, rfl⟩, fun h => absurd HE.out.1 h⟩, ?_⟩
        first | exact HG0.out | exact HG.out _ | exact gdrew (HG.out _) | exact gdrew (gdrew (HG.out _))
  · obtain ⟨a, z, rfl, a2⟩ := vx.2 h1
    by_cases h2 : y.1.1 = 0
    · obtain rfl := vy.1 h2
      have b2 := bY h2
      obtain ⟨n, en⟩ : ∃ n, n = y.1.2.1 := ⟨_, rfl⟩
      have HE : Hid (x.1.1 ≠ 0 ∧ y.1.1 = 0 ∧ n = y.1.2.1) := ⟨h1, h2, en⟩
      rw [← en] at b2 ⊢
      clear vx vy h1 h2 bx bY hx hy en
      go_enter Tryz.func77, Tryz.ntmps77
      go_wp2_with fail
      go_region
      all_goals
        go_wp2_with fail
        go_ret3
        refine ⟨⟨_, _, _, rfl, fun _ _ => ⟨HE.out.2.2, rfl, rfl⟩, fun h => absurd h HE.out.1, fun _ h => absurd HE.out.2.1 h⟩, ?_⟩
        first | exact HG0.out | exact HG.out _ | exact gdrew (HG.out _) | exact gdrew (gdrew (HG.out _))
    · obtain ⟨a', z', rfl, a3⟩ := vy.2 h2
      have HE : Hid (x.1.1 ≠ 0 ∧ y.1.1 ≠ 0) := ⟨h1, h2⟩
      clear vx vy h1 h2 bx bY hx hy
      go_enter Tryz.func77, Tryz.ntmps77
      go_wp2_with fail
      go_region
      all_goals
        go_wp2_with fail
        go_ret3
        refine ⟨⟨_, _, _, rfl, fun h => absurd h HE.out.2, fun h => absurd h HE.out.1, fun _ _ => rfl⟩, ?_⟩
        first | exact HG0.out | exact HG.out _ | exact gdrew (HG.out _) | exact gdrew (gdrew (HG.out _))
end Go.Proofs.YtaakpdakeolgeaaGreat

namespace Go.Proofs.YtaakpdakeolgeaaGreat
open Go Go.RowKit
set_option linter.unusedVariables false
def flatP (vs : List (Value × Value)) : List Value := vs.flatMap (fun x => [x.1, x.2])
theorem flatP_append (a b : List (Value × Value)) : flatP (a ++ b) = flatP a ++ flatP b := by simp [flatP]
theorem flatP_len : ∀ vs : List (Value × Value), (flatP vs).length = vs.length * 2
  | [] => rfl
  | x :: r => by have := flatP_len r; simp only [flatP] at this; simp [flatP, this]; omega
def PairsIn (W0 : World) (Bt : Nat) : List TT → List (Value × Value) → Prop
  | [], vs => vs = []
  | x :: r, vs => ∃ v s, vs = v :: s ∧ FoIn W0 Bt x.1.fo [v.1] ∧ FoIn W0 Bt x.2.fo [v.2] ∧ PairsIn W0 Bt r s
theorem PairsIn.len {W0 : World} {Bt : Nat} : ∀ (st : List TT) (vs : List (Value × Value)), PairsIn W0 Bt st vs → vs.length = st.length
  | [], vs, h => by rw [show vs = [] from h]; rfl
  | x :: r, vs, ⟨v, s, e, _, _, h⟩ => by rw [e]; simp [PairsIn.len r s h]
theorem PairsIn.append {W0 : World} {Bt : Nat} : ∀ (a b : List TT) (vs us : List (Value × Value)), PairsIn W0 Bt a vs → PairsIn W0 Bt b us → PairsIn W0 Bt (a ++ b) (vs ++ us)
  | [], b, vs, us, h, k => by rw [show vs = [] from h]; exact k
  | x :: r, b, vs, us, ⟨v, s, e, h1, h2, h3⟩, k => by
    subst e
    exact ⟨v, s ++ us, rfl, h1, h2, PairsIn.append r b s us h3 k⟩
theorem PairsIn.parts {W0 : World} {Bt : Nat} : ∀ (a b : List TT) (vs : List (Value × Value)), PairsIn W0 Bt (a ++ b) vs → ∃ us ws, vs = us ++ ws ∧ PairsIn W0 Bt a us ∧ PairsIn W0 Bt b ws
  | [], b, vs, h => ⟨[], vs, rfl, rfl, h⟩
  | x :: r, b, vs, ⟨v, s, e, h1, h2, h3⟩ => by
    obtain ⟨us, ws, e', k1, k2⟩ := PairsIn.parts r b s h3
    subst e e'
    exact ⟨v :: us, ws, rfl, ⟨v, us, rfl, h1, h2, k1⟩, k2⟩
structure Stk (W0 : World) (Bt : Nat) (w : World) (B sb so : Nat) (p : Option Addr) (n c : Nat) (st : List TT) : Prop where
  cell : w.cell? ⟨sb, so, none⟩ = some (.slice p n c)
  free : w.frozen? ⟨sb, so, none⟩ = false
  len : n = st.length
  row : ∃ vs, w.ownsRow B 92 2 (.slice p n c) n (flatP vs) ∧ PairsIn W0 Bt st vs
  away : ∀ g, p = some ⟨g, 0, none⟩ → g ≠ sb
structure Kept2 (w w' : World) (sb so : Nat) (g : Option Nat) : Prop where
  os : w'.os = w.os
  tape : w'.tape = w.tape
  output : w'.output = w.output
  size : w.heap.size ≤ w'.heap.size
  block : ∀ k, k < w.heap.size → k ≠ sb → some k ≠ g → w'.heap[k]? = w.heap[k]?
  cells : ∀ o, o ≠ so → w'.cell? ⟨sb, o, none⟩ = w.cell? ⟨sb, o, none⟩
  frz : ∀ o, w'.frozen? ⟨sb, o, none⟩ = w.frozen? ⟨sb, o, none⟩
theorem Kept2.below {w w' : World} {sb so B : Nat} {g : Option Nat} (h : Kept2 w w' sb so g) (hs : B ≤ sb) (hg : ∀ k, g = some k → B ≤ k) (hB : B ≤ w.heap.size) : Below B w w' :=
  ⟨h.os, h.tape, h.output, h.size, fun k hk => h.block k (by omega) (by omega) (fun e => by have := hg k e.symm; omega)⟩
theorem Kept2.refl (w : World) (sb so : Nat) (g : Option Nat) : Kept2 w w sb so g := ⟨rfl, rfl, rfl, Nat.le_refl _, fun _ _ _ _ => rfl, fun _ _ => rfl, fun _ => rfl⟩
theorem Kept2.alloc {w w' : World} {sb so : Nat} {g : Option Nat} (h : Kept2 w w' sb so g) (hs : sb < w'.heap.size) (o : Obj) : Kept2 w (w'.alloc o) sb so g :=
  ⟨h.os, h.tape, h.output, Nat.le_trans h.size (by simp), fun k hk h1 h2 => (Below.heap_alloc _ _ _ (Nat.lt_of_lt_of_le hk h.size)).trans (h.block k hk h1 h2),
   fun j hj => (World.cell?_of_block (w := w') (a := ⟨sb, j, none⟩) (Below.heap_alloc _ _ _ hs)).trans (h.cells j hj), fun j => (World.frozen?_of_block (w := w') (a := ⟨sb, j, none⟩) (Below.heap_alloc _ _ _ hs)).trans (h.frz j)⟩
theorem Kept2.set {w w' : World} {sb so : Nat} {g : Option Nat} (h : Kept2 w w' sb so g) (u : Value) : Kept2 w (w'.setCell ⟨sb, so, none⟩ u) sb so g :=
  ⟨by rw [World.setCell]; split <;> exact h.os, h.tape, h.output, by simpa using h.size, fun k hk h1 h2 => (Below.heap_setCell _ _ _ _ h1).trans (h.block k hk h1 h2),
   fun j hj => (World.cell?_setCell_other _ _ _ _ (fun e => hj (congrArg Addr.off e).symm)).trans (h.cells j hj), fun j => by rw [World.frozen?_setCell]; exact h.frz j⟩
theorem Kept2.new {w w' : World} {sb so : Nat} {g : Option Nat} (h : Kept2 w w' sb so g) {a : Addr} (ha : w.heap.size ≤ a.block) (hs : sb < w.heap.size) (u : Value) : Kept2 w (w'.setCell a u) sb so g :=
  ⟨h.os, h.tape, h.output, by simpa using h.size, fun k hk h1 h2 => (Below.heap_setCell _ _ _ _ (by omega)).trans (h.block k hk h1 h2),
   fun j hj => (World.cell?_setCell_other _ _ _ _ (fun e => by rw [e] at ha; simp at ha; omega)).trans (h.cells j hj), fun j => by rw [World.frozen?_setCell]; exact h.frz j⟩
def TakeOut (W0 : World) (Bt : Nat) (w : World) (B sb so : Nat) (g : Option Nat) (st : List TT) (x : TT) (e : Ending) (w' : World) : Prop :=
  ∃ v1 v2, e = .returned (.agg #[v1, v2]) ∧ FoIn W0 Bt x.1.fo [v1] ∧ FoIn W0 Bt x.2.fo [v2] ∧ (∃ p n c, Stk W0 Bt w' B sb so p n c st ∧ Value.ownBlock (.slice p n c) = g) ∧ Kept2 w w' sb so none
set_option maxRecDepth 100000 in
set_option maxHeartbeats 1000000 in
theorem take_any (W0 : World) (Bt : Nat) (w : World) (B sb so : Nat) (p : Option Addr) (n c : Nat) (st : List TT) (x : TT) (hn : n ≤ 1000000) (h : Stk W0 Bt w B sb so p n c (st ++ [x])) :
    Calls Tryz.prog 67 #[.pointer (some ⟨sb, so, none⟩)] w (TakeOut W0 Bt w B sb so (Value.ownBlock (.slice p n c)) st x) := by
  obtain ⟨hcell, hfree, hlen, ⟨vs, hrow, hin⟩, haway⟩ := h
  obtain ⟨us, ws, rfl, hin1, hin2⟩ := PairsIn.parts _ _ _ hin
  obtain ⟨v, s, rfl, hx1, hx2, hs0⟩ := hin2
  obtain rfl : s = [] := hs0
  have hul := hin1.len
  obtain ⟨L, eL⟩ : ∃ L, L = st.length := ⟨_, rfl⟩
  have hnL : n = L + 1 := by rw [hlen, eL]; simp
  obtain ⟨g, cap, hform⟩ := ownsRow_succ (k := L) (by rw [← hnL]; exact hrow)
  subst hnL
  cases hform
  have d0 : w.cell? ⟨g, L * 2, none⟩ = some v.1 := by
    rw [hrow.cellAt _ (by omega), flatP_append, List.getElem?_append_right (by rw [flatP_len]; omega), flatP_len]
    rw [show L * 2 - us.length * 2 = 0 by omega]; rfl
  have d1 : w.cell? ⟨g, L * 2 + 1, none⟩ = some v.2 := by
    rw [hrow.cellAt _ (by omega), flatP_append, List.getElem?_append_right (by rw [flatP_len]; omega), flatP_len]
    rw [show L * 2 + 1 - us.length * 2 = 1 by omega]; rfl
  obtain ⟨t1, x1, e1⟩ := FoIn.iface (show FoIn W0 Bt (.node x.1.1 x.1.2 .nil) [v.1] from hx1)
  obtain ⟨t2, x2, e2⟩ := FoIn.iface (show FoIn W0 Bt (.node x.2.1 x.2.2 .nil) [v.2] from hx2)
  have hpop := ownsRow_pop (size := 2) (n := L) (xs := flatP us) (last := flatP [v]) (by rw [flatP_len]; omega) (by rw [← flatP_append]; exact hrow)
  obtain ⟨v1, v2⟩ := v
  simp only at e1 e2 hx1 hx2 d0 d1
  subst e1 e2
  have HFIN : Hid (∀ w', Kept2 w w' sb so none → w'.cell? ⟨sb, so, none⟩ = some (.slice (some ⟨g, 0, none⟩) L c) → w'.heap[g]? = w.heap[g]? → TakeOut W0 Bt w B sb so (some g) st x (.returned (.agg #[.iface t1 x1, .iface t2 x2])) w') := fun w' hk hc hg =>
    ⟨_, _, rfl, hx1, hx2, ⟨_, _, _, ⟨hc, (hk.frz so).trans hfree, eL, ⟨us, ⟨hpop.1, by
      rcases hpop.2 with ⟨h', _⟩ | ⟨g', cap', cur, hv, hB, hh, r⟩
      · cases h'
      · exact .inr ⟨g', cap', cur, hv, hB, by cases hv; exact hg.trans hh, r⟩⟩, hin1⟩, haway⟩, rfl⟩, hk⟩
  have hne := haway g rfl
  have hlt : sb < w.heap.size := World.block_lt_of_cell? _ _ hcell
  have hglt : g < w.heap.size := World.block_lt_of_cell? _ _ d0
  have hc1 : L ≤ c := by
    rcases hrow.2 with ⟨h', _⟩ | ⟨g', cap', cur, hv, hB, hh, r, _⟩
    · cases h'
    · cases hv; omega
  clear hpop hrow hin hin1 hx1 hx2 haway hlen hul eL
  go_enter Tryz.func67, Tryz.ntmps67
  go_wp2
  refine bodyPost_ret (v := .agg #[.iface t1 x1, .iface t2 x2]) (by simp [results, Tryz.results67, go_sem]) rfl (HFIN.out _ (((Kept2.refl w sb so none).set _).alloc (by simpa using hlt) _ |>.alloc (by simp; omega) _) ?_ ?_)
  · exact Lib.cell?_alloc_marked _ (Lib.cell?_alloc_marked _ (World.cell?_setCell_same' _ _ _ (by rw [hcell]; rfl)))
  · exact (Below.heap_alloc _ _ _ (by simp; omega)).trans ((Below.heap_alloc _ _ _ (by simpa using hglt)).trans (Below.heap_setCell _ _ _ _ hne))
end Go.Proofs.YtaakpdakeolgeaaGreat

namespace Go.Proofs.YtaakpdakeolgeaaGreat
open Go Go.RowKit
set_option linter.unusedVariables false
theorem str_inj {xs ys : List Int} (hx : Byte xs) (hy : Byte ys) : (strOfNums xs == strOfNums ys) = decide (xs = ys) := by
  have h1 := str_beq hx (strOfNums ys).toList
  have h2 := (str_eq hy (strOfNums ys).toList).1 rfl
  rw [← h2] at h1
  rw [← h1]
  congr 1
  rw [ByteArray.toList_eq]
theorem str_ne {xs ys : List Int} (hx : Byte xs) (hy : Byte ys) (h : strOfNums xs = strOfNums ys) : xs = ys := by
  have h1 := str_inj hx hy
  rw [h, str_inj hy hy] at h1
  simpa using h1.symm
end Go.Proofs.YtaakpdakeolgeaaGreat

