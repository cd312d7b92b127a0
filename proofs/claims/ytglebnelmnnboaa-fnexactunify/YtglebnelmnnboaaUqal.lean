/- Texts of UnM1, UnM2, UnS. Own work of the verifier. -/
import Derived.Test.YtglebnelmnnboaaUqak
import Derived.Test.YtglebnelmnnboaaUqaj
import Derived.RegionTactic
import Derived.ChangeAlike
namespace Go.Proofs.Ytglebnelmnnboaa
open Go Go.RowKit
set_option linter.unusedVariables false

theorem zeroUnit (w : World) : (zeroValue 152).run Try.prog w = .ok (.agg #[]) w := by kernel_rfl
/-- What meet leaves as it is. -/
structure MeK (W0 : World) (EP : List (Int × Value)) (b ub mb : Nat) (W : World) : Prop where
  low : Below W0.heap.size W0 W
  ubc : W.cell? ⟨ub, 0, none⟩ = some (.map (some b))
  bnd : VMap W b EP.length EP
theorem cell_grown {w w' : World} {b mb : Nat} {v : Value} {o : Nat} (h : w.cell? ⟨b, o, none⟩ = some v) (hg : w.grownBy w' (some mb)) (hne : b ≠ mb) : w'.cell? ⟨b, o, none⟩ = some v := by
  have hlt := World.block_lt_of_cell? _ _ h
  have hb := hg.block b hlt (fun e => hne (Option.some.inj e))
  exact (World.cell?_of_block (a := ⟨b, o, none⟩) hb).trans h
theorem cell_map_ne {w : World} {b mb N : Nat} {E : List (Int × Value)} {v : Value} {o : Nat} (h : w.cell? ⟨b, o, none⟩ = some v) (hm : VMap w mb N E) : b ≠ mb := fun e => by
  obtain ⟨D, ⟨es, clock, h1, _⟩, _⟩ := hm
  subst e
  simp [World.cell?, h1] at h
theorem MeK.grown {W0 : World} {EP : List (Int × Value)} {b ub mb N : Nat} {E : List (Int × Value)} {W W' : World} (h : MeK W0 EP b ub mb W) (hm : VMap W mb N E) (hne : b ≠ mb) (hlow : W0.heap.size ≤ mb) (hg : W.grownBy W' (some mb)) : MeK W0 EP b ub mb W' :=
  ⟨h.low.grown hg h.low.size (fun k e => by cases e; exact hlow), cell_grown h.ubc hg (cell_map_ne h.ubc hm), h.bnd.of_block (hg.block b h.bnd.lt (fun e => hne (Option.some.inj e)))⟩
/-- The map of those that were met. -/
def VMet (w : World) (mb : Nat) (E : List (Int × Value)) : Prop := VMap w mb E.length E ∧ ∀ x y, look E x = some y → y = .agg #[]
theorem VMet.put {w : World} {mb N : Nat} {E : List (Int × Value)} {x : Int} (h : VMap w mb N (putE E x (.agg #[]))) (hu : ∀ x y, look E x = some y → y = .agg #[]) : VMet w mb (putE E x (.agg #[])) := ⟨h.tight, fun z y hz => by
  rw [look_putE] at hz
  split at hz
  · cases hz; rfl
  · exact hu z y hz⟩
theorem VMap.allocd {w : World} {b N : Nat} {E : List (Int × Value)} (h : VMap w b N E) (o : Obj) : VMap (w.alloc o) b N E := h.of_block (Below.heap_alloc _ _ _ h.lt)
/-- What a visit, a walk or meet does. -/
def MeOut (P : BM) (K : List Int) (mb : Nat) (cs : List Cel) (E : List (Int × Value)) (w : World) (e : Ending) (w' : World) : Prop := e = .returned (.tuple #[]) ∧ ∃ E', MRel P K cs E E' ∧ VMet w' mb E' ∧ w.grownBy w' (some mb)
/-- meet, where at most m cells are left. -/
def MeetOk (W0 : World) (Bt : Nat) (P : BM) (EP : List (Int × Value)) (b ub mb m : Nat) : Prop := ∀ (t : Tr) (v : Value) (E : List (Int × Value)) (w : World), phi P E (EP.map Prod.fst) ≤ m → t.fo.ok → FoIn W0 Bt t.fo [v] → MeK W0 EP b ub mb w → VMet w mb E → E.length + phi P E (EP.map Prod.fst) + (tcs t).length ≤ 90000000 →
  Calls Try.prog 95 #[.pointer (some ⟨ub, 0, none⟩), v, .map (some mb)] w (MeOut P (EP.map Prod.fst) mb (tcs t) E w)

section
variable (W0 : World) (Bt : Nat) (P : BM) (EP : List (Int × Value)) (b ub mb : Nat)
set_option maxRecDepth 100000 in
set_option maxHeartbeats 1000000 in
theorem meetVisit_any (hbm : BMIn W0 Bt P EP) (hPok : ∀ x u, P x = some u → u.fo.ok ∧ (tcs u).length ≤ 2000) (hne : b ≠ mb) (hlow : W0.heap.size ≤ mb) (m : Nat) (hI : ∀ k, k < m → MeetOk W0 Bt P EP b ub mb k) (mx ux : Nat) (c : Cel) (k : Fo) (v : Value) (E : List (Int × Value)) (w : World)
    (hphi : phi P E (EP.map Prod.fst) ≤ m) (hok : (Fo.node c k .nil).ok) (hn : NodeIn W0 Bt c (fun kv => FoIn W0 Bt k kv) v) (hk : MeK W0 EP b ub mb w) (hmu : VMet w mb E) (hmx : w.cell? ⟨mx, 0, none⟩ = some (.map (some mb))) (hux : w.cell? ⟨ux, 0, none⟩ = some (.pointer (some ⟨ub, 0, none⟩))) (hbig : E.length + phi P E (EP.map Prod.fst) + 1 ≤ 90000000) :
    Calls Try.prog 99 #[v, .pointer (some ⟨mx, 0, none⟩), .pointer (some ⟨ux, 0, none⟩)] w (MeOut P (EP.map Prod.fst) mb [c] E w) := by
  have a1 := isVar
  obtain ⟨hm0, hu⟩ := hmu
  have hm := hm0.allocd (.cells #[] 152)
  have hgz := World.grownBy_alloc w (.cells #[] 152) (some mb)
  have hkz := hk.grown hm0 hne hlow hgz
  have hmxz : (w.alloc (.cells #[] 152)).cell? ⟨mx, 0, none⟩ = some (.map (some mb)) := cell_grown hmx hgz (cell_map_ne hmx hm0)
  have huxz : (w.alloc (.cells #[] 152)).cell? ⟨ux, 0, none⟩ = some (.pointer (some ⟨ub, 0, none⟩)) := cell_grown hux hgz (cell_map_ne hux hm0)
  by_cases h0 : c.1 = 0
  · have hv : v = .iface 67 (.int .i64 c.2.1) := by
      rcases hn with ⟨_, e⟩ | ⟨e, _⟩ | ⟨e, _⟩ | ⟨e, _⟩
      · exact e
      · omega
      · omega
      · omega
    subst hv
    have hcb := hok.1
    rw [h0] at hcb
    have hx : 0 ≤ c.2.1 ∧ c.2.1 ≤ 1000000 := by simp [cellB] at hcb; exact ⟨hcb.1, hcb.2.1⟩
    have hlk := hm0.look (t := 150) Try.underlying150 (zeroUnit w) c.2.1 hx.1 hx.2
    cases hl : look E c.2.1 with
    | some y =>
      rw [hl] at hlk
      simp only [Option.isSome_some] at hlk
      have hy := hu _ _ hl
      subst hy
      have HF : Hid (MeOut P (EP.map Prod.fst) mb [c] E w (.returned (.tuple #[])) (w.alloc (.cells #[] 152))) := ⟨rfl, E, .skip _ _ _ _ (fun _ => by rw [hl]; rfl), ⟨hm, hu⟩, hgz⟩
      obtain ⟨x, ex⟩ : ∃ x, x = c.2.1 := ⟨_, rfl⟩
      rw [← ex] at hlk ⊢
      clear hbm hPok hI hphi hok hn hk hm hux hbig hcb hx hl h0 ex hm0 hu hgz hkz hmxz huxz
      go_enter Try.func99, Try.ntmps99
      go_wp2_with fail
      go_end0
      exact HF.out
    | none =>
      rw [hl] at hlk
      simp only [Option.isSome_none] at hlk
      obtain ⟨w1, hrun, hm1, hg1⟩ := hm.putBig (t := 150) Try.underlying150 (by omega) c.2.1 hx.1 hx.2 (.agg #[])
      have hk1 := hkz.grown hm hne hlow hg1
      have hmx1 := cell_grown hmxz hg1 (cell_map_ne hmxz hm)
      have hux1 := cell_grown huxz hg1 (cell_map_ne huxz hm)
      have hg1' := hgz.andThen hg1 (fun j hj => .inr hj)
      have hub1 := hk1.ubc
      have hlb := hk1.bnd.look (t := 89) Try.underlying89 (zeroTerm w1) c.2.1 hx.1 hx.2
      cases hp : P c.2.1 with
      | none =>
        rw [hbm.2 _ hp] at hlb
        simp only [Option.isSome_none] at hlb
        have HF : Hid (MeOut P (EP.map Prod.fst) mb [c] E w (.returned (.tuple #[])) w1) := ⟨rfl, _, .free _ h0 E (.agg #[]) hp, .put hm1 hu, hg1'⟩
        obtain ⟨x, ex⟩ : ∃ x, x = c.2.1 := ⟨_, rfl⟩
        rw [← ex] at hlk hlb hrun ⊢
        clear hbm hPok hI hphi hok hn hk hm hbig hcb hx hl h0 ex hk1 hm1 hg1 hp hm0 hu hgz hkz hg1' hux
        go_enter Try.func99, Try.ntmps99
        go_wp2_with fail
        go_end0
        exact HF.out
      | some u =>
        obtain ⟨vu, hlu, hfu⟩ := hbm.1 _ _ hp
        rw [hlu] at hlb
        simp only [Option.isSome_some] at hlb
        have hK : c.2.1 ∈ EP.map Prod.fst := by
          cases hq : decide (c.2.1 ∈ EP.map Prod.fst) with
          | true => exact of_decide_eq_true hq
          | false => rw [(look_none EP c.2.1).2 (of_decide_eq_false hq)] at hlu; cases hlu
        have hpp := phi_put (v := .agg #[]) hp hl _ hK
        have hpos : 1 ≤ (tcs u).length := by simp [tcs]
        have hlen := putE_len E c.2.1 (.agg #[])
        rw [hl] at hlen
        simp only [Option.isSome_none, Bool.false_eq_true, if_false] at hlen
        obtain ⟨uo, _⟩ := hPok _ _ hp
        have HI := hI (phi P (putE E c.2.1 (.agg #[])) (EP.map Prod.fst)) (by omega) u vu (putE E c.2.1 (.agg #[])) w1 (Nat.le_refl _) uo hfu hk1 (.put hm1 hu) (by omega)
        have HO : Hid (∀ e w', MeOut P (EP.map Prod.fst) mb (tcs u) (putE E c.2.1 (.agg #[])) w1 e w' → MeOut P (EP.map Prod.fst) mb [c] E w e w') := fun e w' ⟨h1, E', h2, h3, h4⟩ => ⟨h1, E', .into h0 hp hl hK h2, h3, hg1'.andThen h4 (fun j hj => .inr hj)⟩
        have HI2 := HI.mono HO.out
        have HI3 := HI2.mono (fun e w' h => (⟨h.1, h⟩ : e = .returned (.tuple #[]) ∧ MeOut P (EP.map Prod.fst) mb [c] E w e w'))
        obtain ⟨x, ex⟩ : ∃ x, x = c.2.1 := ⟨_, rfl⟩
        rw [← ex] at hlk hlb hrun ⊢
        clear hbm hPok hI hphi hok hn hk hm hbig hcb hx hl h0 ex hk1 hm1 hg1 hp hlu hfu hK hpp hpos hlen uo HI HI2 HO hm0 hu hgz hkz hg1' hux
        go_enter Try.func99, Try.ntmps99
        go_wp2_with fail
        refine HI3.mono ?_
        rintro e w2 ⟨rfl, hfin⟩
        have HF : Hid (MeOut P (EP.map Prod.fst) mb [c] E w (.returned (.tuple #[])) w2) := hfin
        clear hfin HI3
        go_wp2_with fail
        go_end0
        exact HF.out
  · have hty : ∃ t y, v = .iface t y ∧ ∀ W, (Instr.typeAssert (.iface t y) 53 67 true).run Try.prog W = .ok (.tuple #[.int .i64 0, .bool false]) W := by
      rcases hn with ⟨e, _⟩ | ⟨_, e⟩ | ⟨_, e⟩ | ⟨_, b, g, vs, e, _⟩
      · exact absurd e h0
      · exact ⟨_, _, e, fun W => noVar_num W _⟩
      · exact ⟨_, _, e, fun W => noVar_atom W _⟩
      · exact ⟨_, _, e, fun W => noVar_comp W _⟩
    obtain ⟨t, y, rfl, a2⟩ := hty
    have HF : Hid (MeOut P (EP.map Prod.fst) mb [c] E w (.returned (.tuple #[])) (w.alloc (.cells #[] 152))) := ⟨rfl, E, .skip _ _ _ _ (fun h => absurd h h0), ⟨hm, hu⟩, hgz⟩
    have HF2 : Hid (MeOut P (EP.map Prod.fst) mb [c] E w (.returned (.tuple #[])) w) := ⟨rfl, E, .skip _ _ _ _ (fun h => absurd h h0), ⟨hm0, hu⟩, .refl _ _⟩
    clear hbm hPok hI hphi hok hn hk hm hux hbig h0 a1 hm0 hu hgz hkz hmxz huxz
    go_enter Try.func99, Try.ntmps99
    go_wp2_with fail
    go_end0
    first | exact HF.out | exact HF2.out
end

end Go.Proofs.Ytglebnelmnnboaa

namespace Go.Proofs.Ytglebnelmnnboaa
open Go Go.RowKit
set_option linter.unusedVariables false

section
variable (W0 : World) (Bt : Nat) (P : BM) (EP : List (Int × Value)) (b ub mb : Nat)
set_option maxRecDepth 100000 in
set_option maxHeartbeats 1000000 in
theorem meetWalk_any (hbm : BMIn W0 Bt P EP) (hPok : ∀ x u, P x = some u → u.fo.ok ∧ (tcs u).length ≤ 2000) (hne : b ≠ mb) (hlow : W0.heap.size ≤ mb) (m : Nat) (hI : ∀ k, k < m → MeetOk W0 Bt P EP b ub mb k) (mx ux : Nat) : ∀ (N : Nat) (c : Cel) (k : Fo) (v : Value) (E : List (Int × Value)) (w : World), k.cells.length ≤ N → (Fo.node c k .nil).ok → FoIn W0 Bt (.node c k .nil) [v] →
    phi P E (EP.map Prod.fst) ≤ m → MeK W0 EP b ub mb w → VMet w mb E → w.cell? ⟨mx, 0, none⟩ = some (.map (some mb)) → w.cell? ⟨ux, 0, none⟩ = some (.pointer (some ⟨ub, 0, none⟩)) → E.length + phi P E (EP.map Prod.fst) + (1 + k.cells.length) ≤ 90000000 →
    Calls Try.prog 72 #[v, .func (.func 99) #[] #[.pointer (some ⟨mx, 0, none⟩), .pointer (some ⟨ux, 0, none⟩)]] w (MeOut P (EP.map Prod.fst) mb (c :: k.cells) E w) := by
  intro N
  induction N using Nat.strongRecOn with
  | _ N ih =>
    intro c k v E w hN hok hfo hphi hk hm hmx hux hbig
    obtain ⟨v', vr, e, hnode, _⟩ := hfo
    obtain ⟨rfl, rfl⟩ := List.cons.inj e
    have HV := meetVisit_any W0 Bt P EP b ub mb hbm hPok hne hlow m hI mx ux c k v E w hphi hok hnode hk hm hmx hux (by omega)
    have HIH : Hid _ := ih
    have HW : Hid (Below W0.heap.size W0 w) := hk.low
    have HK0 : Hid (MeK W0 EP b ub mb w) := hk
    have HM0 : Hid (VMap w mb E.length E) := hm.1
    have HMX : Hid (w.cell? ⟨mx, 0, none⟩ = some (.map (some mb))) := hmx
    have HUX : Hid (w.cell? ⟨ux, 0, none⟩ = some (.pointer (some ⟨ub, 0, none⟩))) := hux
    have HPH : Hid (phi P E (EP.map Prod.fst) ≤ m ∧ E.length + phi P E (EP.map Prod.fst) + (1 + k.cells.length) ≤ 90000000) := ⟨hphi, hbig⟩
    clear hphi hbig hk hm hmx hux hbm hPok hI
    have leaf : ∀ (t : TypeId) (x : Value), v = .iface t x → (t = 67 ∨ t = 138 ∨ t = 139) → c.1 ≠ 3 → Calls Try.prog 72 #[v, .func (.func 99) #[] #[.pointer (some ⟨mx, 0, none⟩), .pointer (some ⟨ux, 0, none⟩)]] w (MeOut P (EP.map Prod.fst) mb (c :: k.cells) E w) := fun t x hv ht h3 => by
      have hk : k = .nil := hok.2.2.2.1 h3
      subst hk hv
      have HA := fun W => argsLeaf_any t x W ht
      clear hok hnode HIH ih e
      go_enter Try.func72, Try.ntmps72
      go_wp2_with fail
      refine HV.mono ?_
      rintro e w1 ⟨rfl, hst⟩
      have HST : Hid (∃ E', MRel P (EP.map Prod.fst) [c] E E' ∧ VMet w1 mb E' ∧ w.grownBy w1 (some mb)) := hst
      clear hst
      go_wp2_with fail
      refine (HA _).mono ?_
      rintro e w2 ⟨rfl, rfl⟩
      go_wp2_with fail
      refine wp_loop_rounds 1 ?_
      rw [rounds_succ]
      go_wp2_with fail
      go_end0
      exact ⟨rfl, HST.out⟩
    rcases hnode with ⟨h0, hv⟩ | ⟨h0, hv⟩ | ⟨h0, hv⟩ | ⟨h0, bc, g, vs, hv, hcomp⟩
    · exact leaf _ _ hv (.inl rfl) (by rw [h0]; decide)
    · exact leaf _ _ hv (.inr (.inl rfl)) (by rw [h0]; decide)
    · exact leaf _ _ hv (.inr (.inr rfl)) (by rw [h0]; decide)
    · subst hv
      clear leaf
      have HC : Hid (CompAt W0 Bt c.2.2 k bc g vs) := hcomp
      have hvl2 : vs.length = k.count := FoIn.count _ _ hcomp.2.2.2.2.2.2
      obtain ⟨q, eq⟩ : ∃ q, q = vs.length := ⟨_, rfl⟩
      have HE : Hid (q = vs.length ∧ vs.length = k.count) := ⟨eq, hvl2⟩
      have hq : q ≤ 90000000 := by have := Fo.count_le k; have := HPH.out.2; omega
      have HK : Hid k.ok := hok.2.2.2.2.1
      have HBB : Hid (bc < W0.heap.size ∧ W0.cell? ⟨bc, 1, none⟩ = some (.slice (some ⟨g, 0, none⟩) q q)) := ⟨World.block_lt_of_cell? _ _ hcomp.2.2.2.1, by rw [eq]; exact hcomp.2.2.2.1⟩
      clear hcomp hok ih e eq hvl2
      go_enter Try.func72, Try.ntmps72
      go_wp2_with fail
      refine HV.mono ?_
      rintro e w1 ⟨rfl, E1, hr1, hm1, hg1⟩
      have hk1 := HK0.out.grown HM0.out hne hlow hg1
      have d1 : w1.cell? ⟨bc, 1, none⟩ = some (.slice (some ⟨g, 0, none⟩) q q) := ((hk1.low.cell (p := ⟨bc, 1, none⟩) HBB.out.1)).trans HBB.out.2
      have HST : Hid (∃ E2, MRel P (EP.map Prod.fst) (c :: Fo.nil.cells) E E2 ∧ VMet w1 mb E2) := ⟨E1, hr1, hm1⟩
      have HB1 : Hid (w.grownBy w1 (some mb)) := hg1
      clear hr1 hm1 hg1 hk1 HV
      go_wp2_with fail
      refine (argsComp_any bc g q _ d1).mono ?_
      rintro e w2 ⟨rfl, hw2⟩
      subst hw2
      clear d1
      go_wp2_with fail
      go_loopw [12] (fun i wr => ∃ (D R : Fo) (us vs2 : List Value) (j : Nat), j ≤ q ∧ i = .int .i64 j ∧ Hid (k = D.cat R ∧ vs = us ++ vs2 ∧ us.length = j) ∧ Hid (FoIn W0 Bt R vs2) ∧ Hid (∃ E2, MRel P (EP.map Prod.fst) (c :: D.cells) E E2 ∧ VMet wr mb E2) ∧ Hid (w.grownBy wr (some mb))) (fun i _ => q - (intOf i).toNat)
      case atStart => exact ⟨.nil, k, [], vs, 0, Nat.zero_le _, rfl, ⟨rfl, rfl, rfl⟩, HC.out.2.2.2.2.2.2, HST, HB1⟩
      case round =>
        obtain ⟨D, R, us, vs2, j, hj, rfl, HF, HR, HS, HB⟩ := hrel
        by_cases hlt : j < q
        · obtain ⟨c', k', r', rfl⟩ : ∃ c' k' r', R = .node c' k' r' := by
            cases R with
            | nil =>
              have h1 := HF.out
              have h2 : vs2 = [] := HR.out
              have h3 := HE.out.1
              rw [h1.2.1, h2, List.append_nil] at h3
              omega
            | node c' k' r' => exact ⟨c', k', r', rfl⟩
          obtain ⟨v, vr, rfl, hnode, hrest⟩ := HR.out
          have hok2 := (Fo.ok_cat D (.node c' k' r')).1 (HF.out.1 ▸ HK.out)
          have hl2 : D.cells.length + (k'.cells.length + r'.cells.length + 1) = k.cells.length := by
            rw [HF.out.1, Fo.cells_cat]; simp [Fo.cells]
          have hat : W0.cell? ⟨g, j, none⟩ = some v := by
            rw [HC.out.2.2.2.2.2.1 j (by rw [← HE.out.1]; exact hlt), HF.out.2.1]
            simp [List.getD, HF.out.2.2]
          have hkr := HK0.out.grown HM0.out hne hlow HB.out
          have c5 : wr.cell? ⟨g, j, none⟩ = some v := (hkr.low.cell (World.block_lt_of_cell? _ _ hat)).trans hat
          obtain ⟨E2, hr2, hm2⟩ := HS.out
          have hph := phi_mono (P := P) hr2.mono (EP.map Prod.fst)
          have hcost := hr2.cost
          simp only [List.length_cons] at hcost
          have HWK := HIH.out k'.cells.length (by omega) c' k' v E2 wr (Nat.le_refl _) ⟨hok2.2.1, hok2.2.2.1, hok2.2.2.2.1, hok2.2.2.2.2.1, hok2.2.2.2.2.2.1, trivial⟩ ⟨v, [], rfl, hnode, rfl⟩ (by have := HPH.out.1; omega) hkr hm2 (cell_grown HMX.out HB.out (cell_map_ne HMX.out HM0.out)) (cell_grown HUX.out HB.out (cell_map_ne HUX.out HM0.out)) (by have := HPH.out.2; omega)
          obtain ⟨vt, vx, rfl⟩ := hnode.iface
          have HRR : Hid (FoIn W0 Bt r' vr) := hrest
          have HR2 : Hid (MRel P (EP.map Prod.fst) (c :: D.cells) E E2) := hr2
          clear hok2 hl2 hat hkr hnode hrest HIH hr2 hm2 hph hcost
          go_wp2_with fail
          refine HWK.mono ?_
          rintro e w3 ⟨rfl, E3, hr3, hm3, hg3⟩
          have HN : Hid (k = (D.cat (.node c' k' .nil)).cat r' ∧ vs = (us ++ [.iface vt vx]) ++ vr ∧ (us ++ [Value.iface vt vx]).length = j + 1) := ⟨by rw [Fo.cat_assoc]; exact HF.out.1, by rw [HF.out.2.1]; simp, by simp [HF.out.2.2]⟩
          have HST3 : Hid (∃ E2, MRel P (EP.map Prod.fst) (c :: (D.cat (.node c' k' .nil)).cells) E E2 ∧ VMet w3 mb E2) := ⟨E3, by
            have h := HR2.out.app hr3
            have e : (c :: D.cells) ++ (c' :: k'.cells) = c :: (D.cat (.node c' k' .nil)).cells := by rw [Fo.cells_cat]; simp [Fo.cells]
            rwa [e] at h, hm3⟩
          have HB3 : Hid (w.grownBy w3 (some mb)) := HB.out.andThen hg3 (fun j hj => .inr hj)
          clear hr3 hm3 hg3 HWK
          go_wp2_with fail
          go_roundw
          case rel => exact ⟨D.cat (.node c' k' .nil), r', us ++ [.iface vt vx], vr, j + 1, by omega, by go_num, HN, HRR, HST3, HB3⟩
          case measure => simp [intOf]; omega
        · obtain rfl : j = q := by omega
          obtain rfl : R = .nil := by
            have h1 := FoIn.count _ _ HR.out
            have h2 := HE.out
            rw [HF.out.2.1, List.length_append] at h2
            have h3 := HF.out.2.2
            cases R with
            | nil => rfl
            | node a b d => simp [Fo.count] at h1; omega
          have HF' : Hid (D = k) := by have := HF.out.1; rw [Fo.cat_nil] at this; exact this.symm
          go_wp2_with fail
          go_end0
          refine ⟨rfl, ?_⟩
          obtain ⟨E2, h1, h2⟩ := HS.out
          rw [HF'.out] at h1
          exact ⟨E2, h1, h2, HB.out⟩
set_option maxRecDepth 100000 in
set_option maxHeartbeats 1000000 in
theorem meet_any (hbm : BMIn W0 Bt P EP) (hPok : ∀ x u, P x = some u → u.fo.ok ∧ (tcs u).length ≤ 2000) (hne : b ≠ mb) (hlow : W0.heap.size ≤ mb) : ∀ m, MeetOk W0 Bt P EP b ub mb m := by
  intro m
  induction m using Nat.strongRecOn with
  | _ m ih =>
    intro t v E w hphi hok hf hk hm hbig
    obtain ⟨w1, e1⟩ : ∃ w1, w1 = (w.alloc (.cells #[.pointer (some ⟨ub, 0, none⟩)] 81)).alloc (.cells #[.map (some mb)] 150) := ⟨_, rfl⟩
    have hg : w.grownBy w1 (some mb) := by
      rw [e1]
      exact ((World.grownBy_alloc w _ (some mb)).andThen (World.grownBy_alloc _ _ (some mb)) (fun j hj => .inr hj))
    have hmx : w1.cell? ⟨w.heap.size + 1, 0, none⟩ = some (.map (some mb)) := by
      rw [e1]
      have := World.cell?_alloc_new (w.alloc (.cells #[.pointer (some ⟨ub, 0, none⟩)] 81)) #[.map (some mb)] 150 0
      rw [World.size_alloc] at this
      exact this
    have hux : w1.cell? ⟨w.heap.size, 0, none⟩ = some (.pointer (some ⟨ub, 0, none⟩)) := by
      rw [e1]
      rw [((Below.refl (w.heap.size + 1) (w.alloc (.cells #[.pointer (some ⟨ub, 0, none⟩)] 81))).alloc (by simp) _).cell (p := ⟨w.heap.size, 0, none⟩) (by simp)]
      simp
    have hm1 : VMet w1 mb E := ⟨by rw [e1]; exact (hm.1.allocd _).allocd _, hm.2⟩
    have HWK := meetWalk_any W0 Bt P EP b ub mb hbm hPok hne hlow m ih (w.heap.size + 1) w.heap.size t.2.cells.length t.1 t.2 v E w1 (Nat.le_refl _) hok hf hphi (hk.grown hm.1 hne hlow hg) hm1 hmx hux (by simp only [tcs, List.length_cons] at hbig; omega)
    have HO : Hid (∀ e w', MeOut P (EP.map Prod.fst) mb (t.1 :: t.2.cells) E w1 e w' → e = .returned (.tuple #[]) ∧ MeOut P (EP.map Prod.fst) mb (tcs t) E w e w') := fun e w' ⟨h1, E', h2, h3, h4⟩ => ⟨h1, h1, E', h2, h3, hg.andThen h4 (fun j hj => .inr hj)⟩
    have HW2 := HWK.mono HO.out
    obtain ⟨tv, yv, rfl⟩ := FoIn.iface (show FoIn W0 Bt (.node t.1 t.2 .nil) [v] from hf)
    clear hphi hok hf hk hm hbig hg hmx hux hm1 HWK HO ih hbm hPok
    go_enter Try.func95, Try.ntmps95
    go_wp2_with fail
    rw [← e1]
    refine HW2.mono ?_
    rintro e w2 ⟨rfl, hfin⟩
    have HF : Hid (MeOut P (EP.map Prod.fst) mb (tcs t) E w (.returned (.tuple #[])) w2) := hfin
    clear hfin HW2
    go_wp2_with fail
    go_end0
    exact HF.out
end

end Go.Proofs.Ytglebnelmnnboaa

namespace Go.Proofs.Ytglebnelmnnboaa
open Go Go.RowKit
set_option linter.unusedVariables false

theorem grown_none {w w' : World} {mb : Nat} (h : w.grownBy w' (some mb)) (hm : w.heap.size ≤ mb) : w.grownBy w' none := ⟨h.os, h.tape, h.output, h.size, fun k hk _ => h.block k hk (fun e => by cases e; omega)⟩
theorem phi_bound {P : BM} (hp : ∀ x u, P x = some u → (tcs u).length ≤ 2000) (E : List (Int × Value)) : ∀ K : List Int, phi P E K ≤ 2000 * K.length
  | [] => by simp [phi]
  | x :: r => by
    have ih := phi_bound hp E r
    unfold phi
    have hw : wgt P x ≤ 2000 := by
      unfold wgt
      cases h : P x with
      | none => exact Nat.zero_le _
      | some u => exact hp x u h
    simp only [List.length_cons]
    split <;> omega
/-- What standsIn says. -/
def StOut (P : BM) (t : Tr) (x : Int) (w : World) (e : Ending) (w' : World) : Prop := ∃ r : Bool, e = .returned (.bool r) ∧ (r = true ↔ Reach P t x) ∧ w.grownBy w' none
set_option maxRecDepth 100000 in
set_option maxHeartbeats 1000000 in
theorem standsIn_any (W0 : World) (Bt : Nat) (P : BM) (EP : List (Int × Value)) (b ub : Nat) (hbm : BMIn W0 Bt P EP) (hPok : ∀ x u, P x = some u → u.fo.ok ∧ (tcs u).length ≤ 2000) (hE : EP.length ≤ 20000) (x : Int) (hx : 0 ≤ x ∧ x ≤ 1000000) (t : Tr) (v : Value) (w : World)
    (hok : t.fo.ok) (htl : (tcs t).length ≤ 2000) (hf : FoIn W0 Bt t.fo [v]) (hlow : Below W0.heap.size W0 w) (hub : w.cell? ⟨ub, 0, none⟩ = some (.map (some b))) (hb : VMap w b EP.length EP) :
    Calls Try.prog 88 #[.pointer (some ⟨ub, 0, none⟩), .int .i64 x, v] w (StOut P t x w) := by
  obtain ⟨w1, e1⟩ : ∃ w1, w1 = w.alloc (.map #[] 0) := ⟨_, rfl⟩
  have hg1 : w.grownBy w1 (some w.heap.size) := by rw [e1]; exact World.grownBy_alloc w _ _
  have hm1 : VMet w1 w.heap.size [] := ⟨by rw [e1]; exact VMap.made w, fun x y h => by simp [look] at h⟩
  have hne : b ≠ w.heap.size := Nat.ne_of_lt hb.lt
  have hk1 : MeK W0 EP b ub w.heap.size w1 := ⟨by rw [e1]; exact hlow.alloc hlow.size _, cell_grown hub hg1 (Nat.ne_of_lt (World.block_lt_of_cell? _ _ hub)), by rw [e1]; exact hb.allocd _⟩
  have hphi := phi_bound (fun y u hy => (hPok y u hy).2) [] (EP.map Prod.fst)
  rw [List.length_map] at hphi
  have HM := meet_any W0 Bt P EP b ub w.heap.size hbm hPok hne hlow.size _ t v [] w1 (Nat.le_refl _) hok hf hk1 hm1 (by simp only [List.length_nil]; omega)
  have HO : Hid (∀ e w2, MeOut P (EP.map Prod.fst) w.heap.size (tcs t) [] w1 e w2 → e = .returned (.tuple #[]) ∧ ∃ y r, (Instr.lookup 150 (.map (some w.heap.size)) (.int .i64 x) true).run Try.prog w2 = .ok (.tuple #[.agg #[], .bool r]) w2 ∧ (r = true ↔ Reach P t x) ∧ w.grownBy (w2.alloc (.cells #[] 152)) none ∧ w.grownBy w2 none ∧ y = true) := fun e w2 ⟨h1, E', h2, h3, h4⟩ => by
    have hl := h3.1.look (t := 150) Try.underlying150 (zeroUnit w2) x hx.1 hx.2
    have hgn := grown_none (hg1.andThen h4 (fun j hj => .inr hj)) (Nat.le_refl _)
    have hr := h2.reach x
    cases hq : look E' x with
    | none =>
      rw [hq] at hl hr
      exact ⟨h1, true, _, hl, hr, hgn.andThen (World.grownBy_alloc _ _ none) (fun j hj => .inr hj), hgn, rfl⟩
    | some y =>
      obtain rfl := h3.2 x y hq
      rw [hq] at hl hr
      exact ⟨h1, true, _, hl, hr, hgn.andThen (World.grownBy_alloc _ _ none) (fun j hj => .inr hj), hgn, rfl⟩
  have HM2 := HM.mono HO.out
  obtain ⟨tv, yv, rfl⟩ := FoIn.iface (show FoIn W0 Bt (.node t.1 t.2 .nil) [v] from hf)
  clear hbm hPok hE hx hok htl hf hlow hub hb hg1 hm1 hne hk1 hphi HM HO
  have hmm := @run_makeMap Try.prog
  go_enter Try.func88, Try.ntmps88
  go_wp2_with fail
  rw [← e1]
  refine HM2.mono ?_
  rintro e w2 ⟨rfl, _, r, hl, hr, hg, hg', _⟩
  have HR : Hid (r = true ↔ Reach P t x) := hr
  have HG : Hid (w.grownBy (w2.alloc (.cells #[] 152)) none) := hg
  have HG' : Hid (w.grownBy w2 none) := hg'
  clear hr hg hg' HM2
  go_wp2_with fail
  go_ret
  first | exact ⟨r, rfl, HR.out, HG.out⟩ | exact ⟨r, rfl, HR.out, HG'.out⟩

/-- Whether a value is a variable. -/
theorem var_or {W0 : World} {Bt : Nat} {t : Tr} {v : Value} (hf : FoIn W0 Bt t.fo [v]) : (t.1.1 = 0 → v = .iface 67 (.int .i64 t.1.2.1)) ∧ (t.1.1 ≠ 0 → ∃ a y, v = .iface a y ∧ ∀ W, (Instr.typeAssert (.iface a y) 53 67 true).run Try.prog W = .ok (.tuple #[.int .i64 0, .bool false]) W) := by
  obtain ⟨v', vr, e', hn, _⟩ := hf
  obtain ⟨rfl, rfl⟩ := List.cons.inj e'
  constructor
  · intro h0
    rcases hn with ⟨_, e⟩ | ⟨e, _⟩ | ⟨e, _⟩ | ⟨e, _⟩
    · exact e
    · omega
    · omega
    · omega
  · intro h0
    rcases hn with ⟨e, _⟩ | ⟨_, e⟩ | ⟨_, e⟩ | ⟨_, b, g, vs, e, _⟩
    · exact absurd e h0
    · exact ⟨_, _, e, fun W => noVar_num W _⟩
    · exact ⟨_, _, e, fun W => noVar_atom W _⟩
    · exact ⟨_, _, e, fun W => noVar_comp W _⟩
theorem gdrew {w w' : World} {r : Option Nat} (h : w.grownBy w' r) : w.grownBy w'.drew r := ⟨h.os, h.tape, h.output, h.size, h.block⟩
/-- Which is bound to what. -/
def TbOut (x y : Tr) (v1 v2 : Value) (w : World) (e : Ending) (w' : World) : Prop := (∃ (n : Int) (to : Value) (ok : Bool), e = .returned (.tuple #[.int .i64 n, to, .bool ok]) ∧
  (y.1.1 = 0 → (x.1.1 = 0 → x.1.2.1 < y.1.2.1) → n = y.1.2.1 ∧ to = v1 ∧ ok = true) ∧ (x.1.1 = 0 → (y.1.1 = 0 → y.1.2.1 ≤ x.1.2.1) → n = x.1.2.1 ∧ to = v2 ∧ ok = true) ∧ (x.1.1 ≠ 0 → y.1.1 ≠ 0 → ok = false)) ∧ w.grownBy w' none
set_option maxRecDepth 100000 in
set_option maxHeartbeats 1000000 in
theorem toBind_any (W0 : World) (Bt : Nat) (x y : Tr) (v1 v2 : Value) (w : World) (hx : FoIn W0 Bt x.fo [v1]) (hy : FoIn W0 Bt y.fo [v2]) (bx : x.1.1 = 0 → 0 ≤ x.1.2.1 ∧ x.1.2.1 ≤ 1000000) (bY : y.1.1 = 0 → 0 ≤ y.1.2.1 ∧ y.1.2.1 ≤ 1000000) :
    Calls Try.prog 87 #[.agg #[v1, v2]] w (TbOut x y v1 v2 w) := by
  have vx := var_or hx
  have vy := var_or hy
  have a1 := isVar
  have HG : Hid (∀ o, w.grownBy (w.alloc o) none) := fun o => World.grownBy_alloc w o none
  have HG0 : Hid (w.grownBy w none) := .refl _ _
  by_cases h1 : x.1.1 = 0
  · obtain rfl := vx.1 h1
    have b1 := bx h1
    by_cases h2 : y.1.1 = 0
    · obtain rfl := vy.1 h2
      have b2 := bY h2
      obtain ⟨m, em⟩ : ∃ m, m = x.1.2.1 := ⟨_, rfl⟩
      obtain ⟨n, en⟩ : ∃ n, n = y.1.2.1 := ⟨_, rfl⟩
      have HE : Hid (x.1.1 = 0 ∧ y.1.1 = 0 ∧ m = x.1.2.1 ∧ n = y.1.2.1) := ⟨h1, h2, em, en⟩
      rw [← em] at b1 ⊢
      rw [← en] at b2 ⊢
      clear vx vy h1 h2 bx bY hx hy em en
      by_cases hlt : m < n
      · go_enter Try.func87, Try.ntmps87
        go_wp2_with fail
        go_region
        all_goals
          go_wp2_with fail
          go_ret3
          refine ⟨⟨_, _, _, rfl, fun _ _ => ⟨HE.out.2.2.2, rfl, rfl⟩, fun _ h => ?_, fun h => absurd HE.out.1 h⟩, ?_⟩
          · have := h HE.out.2.1; have := HE.out; omega
          · first | exact HG0.out | exact HG.out _ | exact gdrew (HG.out _) | exact gdrew (gdrew (HG.out _))
      · go_enter Try.func87, Try.ntmps87
        go_wp2_with fail
        go_region
        all_goals
          go_wp2_with fail
          go_ret3
          refine ⟨⟨_, _, _, rfl, fun _ h => ?_, fun _ _ => ⟨HE.out.2.2.1, rfl, rfl⟩, fun h => absurd HE.out.1 h⟩, ?_⟩
          · have := h HE.out.1; have := HE.out; omega
          · first | exact HG0.out | exact HG.out _ | exact gdrew (HG.out _) | exact gdrew (gdrew (HG.out _))
    · obtain ⟨a, z, rfl, a2⟩ := vy.2 h2
      obtain ⟨m, em⟩ : ∃ m, m = x.1.2.1 := ⟨_, rfl⟩
      have HE : Hid (x.1.1 = 0 ∧ y.1.1 ≠ 0 ∧ m = x.1.2.1) := ⟨h1, h2, em⟩
      rw [← em] at b1 ⊢
      clear vx vy h1 h2 bx bY hx hy em
      go_enter Try.func87, Try.ntmps87
      go_wp2_with fail
      go_region
      all_goals
        go_wp2_with fail
        go_ret3
        refine ⟨⟨_, _, _, rfl, fun h => absurd h HE.out.2.1, fun _ _ => ⟨HE.out.2.2, rfl, rfl⟩, fun h => absurd HE.out.1 h⟩, ?_⟩
        first | exact HG0.out | exact HG.out _ | exact gdrew (HG.out _) | exact gdrew (gdrew (HG.out _))
  · obtain ⟨a, z, rfl, a2⟩ := vx.2 h1
    by_cases h2 : y.1.1 = 0
    · obtain rfl := vy.1 h2
      have b2 := bY h2
      obtain ⟨n, en⟩ : ∃ n, n = y.1.2.1 := ⟨_, rfl⟩
      have HE : Hid (x.1.1 ≠ 0 ∧ y.1.1 = 0 ∧ n = y.1.2.1) := ⟨h1, h2, en⟩
      rw [← en] at b2 ⊢
      clear vx vy h1 h2 bx bY hx hy en
      go_enter Try.func87, Try.ntmps87
      go_wp2_with fail
      go_region
      all_goals
        go_wp2_with fail
        go_ret3
        refine ⟨⟨_, _, _, rfl, fun _ _ => ⟨HE.out.2.2, rfl, rfl⟩, fun h => absurd h HE.out.1, fun _ h => absurd HE.out.2.1 h⟩, ?_⟩
        first | exact HG0.out | exact HG.out _ | exact gdrew (HG.out _) | exact gdrew (gdrew (HG.out _))
    · obtain ⟨a', z', rfl, a3⟩ := vy.2 h2
      have HE : Hid (x.1.1 ≠ 0 ∧ y.1.1 ≠ 0) := ⟨h1, h2⟩
      clear vx vy h1 h2 bx bY hx hy
      go_enter Try.func87, Try.ntmps87
      go_wp2_with fail
      go_region
      all_goals
        go_wp2_with fail
        go_ret3
        refine ⟨⟨_, _, _, rfl, fun h => absurd h HE.out.2, fun h => absurd h HE.out.1, fun _ _ => rfl⟩, ?_⟩
        first | exact HG0.out | exact HG.out _ | exact gdrew (HG.out _) | exact gdrew (gdrew (HG.out _))

end Go.Proofs.Ytglebnelmnnboaa

