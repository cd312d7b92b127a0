/- Texts of UnB2, UnB3, UnI. Own work of the verifier. -/
import Derived.Test.YtedlcmkhbccjgaaUqbh
import Derived.Test.YtedlcmkhbccjgaaUqba
import Derived.Test.YtedlcmkhbccjgaaUqaw
import Derived.Test.YtedlcmkhbccjgaaUqar
namespace Go.Proofs.Ytedlcmkhbccjgaa
open Go Go.RowKit
set_option linter.unusedVariables false

theorem FullF.cnt {M : BM} {F G : Fo} (h : FullF M F G) : G.count = F.count := by
  induction h with
  | nil => rfl
  | keep _ _ _ _ ih => simp [Fo.count, ih]
  | put _ _ _ _ _ ih => simp [Fo.count, ih]
/-- What stands in the end is valid but for its size. -/
theorem FullF.okF {M : BM} (hM : ∀ v u, M v = some u → u.fo.ok) {F G : Fo} (h : FullF M F G) : F.ok → G.ok := by
  induction h with
  | nil => exact id
  | @keep c k r k' r' h0 hk hr ihk ihr =>
    rintro ⟨h1, h2, h3, h4, h5, h6⟩
    refine ⟨h1, h2, fun h => by rw [hk.cnt]; exact h3 h, fun h => ?_, ihk h5, ihr h6⟩
    have := h4 h
    subst this
    cases hk
    rfl
  | @put c r r' u g h0 hm hu hr ihu ihr =>
    rintro ⟨h1, h2, h3, h4, h5, h6⟩
    obtain ⟨g1, g2, g3, g4, g5, _⟩ := ihu (hM _ _ hm)
    exact ⟨g1, g2, g3, g4, g5, ihr h6⟩
/-- The bindings in the end. -/
noncomputable def bndU (P : BM) (v : Int) : Bnd := (v, match P v with | some u => fullC P u | none => [])
noncomputable def bndsU (P : BM) (ks : List Int) : List Bnd := ks.map (bndU P)
theorem bnd_full {P : BM} {v : Int} {u g : Tr} (hP : P v = some u) (h : FullF P (.node (0, v, []) .nil .nil) g.fo) : bndU P v = (v, tcs g) := by
  have h1 := full_var h
  unfold bndU
  rw [h1]
  simp [putC, hP]
open Classical in
/-- What bindings answers: nothing where a bound is broken. -/
noncomputable def bindR (P : BM) (ks : List Int) : Option (List Bnd) := if ks.length ≤ 1000 ∧ ∀ v ∈ ks, (bndU P v).2.length ≤ 2000 then some (bndsU P ks) else none
def BndO (W0 : World) (P : BM) (ks : List Int) (e : Ending) (w' : World) : Prop := Below W0.heap.size W0 w' ∧ match bindR P ks with
  | none => e = .returned (.tuple #[.slice none 0 0, .int .i64 3])
  | some bs => ∃ p n c, e = .returned (.tuple #[.slice p n c, .int .i64 0]) ∧ OwnBB w' W0.heap.size w'.heap.size p n c bs
theorem row_base {w : World} {B B' s n : Nat} {e : TypeId} {v : Value} {xs : List Value} (h : w.ownsRow B e s v n xs) (hb : B' ≤ B) : w.ownsRow B' e s v n xs := ⟨h.1, h.2.imp id fun ⟨g, cap, cur, hv, hbg, rest⟩ => ⟨g, cap, cur, hv, Nat.le_trans hb hbg, rest⟩⟩
theorem OwnBB.wide {w : World} {B U U' B' : Nat} {p : Option Addr} {n c : Nat} {bs : List Bnd} (h : OwnBB w B U p n c bs) (hu : U ≤ U') (hB : B' ≤ B) : OwnBB w B' U' p n c bs := by
  obtain ⟨ds, h⟩ := h
  exact ⟨ds, h.len, h.dlen, row_base h.row hB, h.item, fun i hi => ⟨by have := (h.low i hi).1; omega, by have := (h.low i hi).2; omega⟩, h.away, h.apart, fun g hg => by have := h.top g hg; omega⟩

end Go.Proofs.Ytedlcmkhbccjgaa

namespace Go.Proofs.Ytedlcmkhbccjgaa
open Go Go.RowKit
set_option linter.unusedVariables false

/-- The row of the answer so far, as what trees keep clear of. -/
def AOf (p : Option Addr) (n c : Nat) (a : Nat) : Prop := Value.ownBlock (.slice p n c) = some a
set_option maxRecDepth 100000 in
set_option maxHeartbeats 2000000 in
theorem bindings_any (W0 : World) (Bt : Nat) (P : BM) (E : List (Int × Value)) (b ub : Nat) (w : World) (hu : USt W0 Bt P E b ub [] w) (hwf : WfU P) (hPok : ∀ x u, P x = some u → u.fo.ok ∧ (tcs u).length ≤ 2000) (hEl : E.length ≤ 20000) (hrng : ∀ x, (look E x).isSome = true → 0 ≤ x ∧ x ≤ 1000000) :
    Calls Try.prog 56 #[.pointer (some ⟨ub, 0, none⟩)] w fun e w' => ∃ ks, AscK E ks ∧ BndO W0 P ks e w' := by
  obtain ⟨r, hac⟩ := hwf.acyc
  obtain ⟨D, hown, hsz, hhas, hat⟩ := id hu.bnd
  obtain ⟨ks0, hks0⟩ : ∃ ks, AscK E ks := ⟨_, asc_of hown hsz hhas (List.Perm.refl _)⟩
  have c0 := hu.ubc
  by_cases hbig : 1000 < E.length
  · have HF : Hid (∃ ks, AscK E ks ∧ BndO W0 P ks (.returned (.tuple #[.slice none 0 0, .int .i64 3])) w) := ⟨ks0, hks0, hu.low, by
      have : bindR P ks0 = none := by
        unfold bindR
        rw [if_neg (fun h => by have := h.1; have := hks0.2.2; omega)]
      rw [this]⟩
    have hL : (1000 : Int) < (E.length : Int) := by omega
    obtain ⟨L, eL⟩ : ∃ L, L = E.length := ⟨_, rfl⟩
    rw [← eL] at hL hsz
    clear hu hwf hPok hEl hrng hac hks0 hbig hhas hat eL
    go_enter Try.func56, Try.ntmps56
    go_wp2_with (at_len; refine wpList_len_own _ rfl _ 89 rfl 67 53 Try.underlying89 _ b E.length D rfl hown ?_; rw [hsz])
    go_ret2
    exact HF.out
  · have hL : ((E.length : Nat) : Int) ≤ 1000 := by omega
    have HKC := keysC (some b) w
    have HSC := sortedC b E.length E w hu.bnd (by omega)
    obtain ⟨s, hsb, hs0, hsc, hsm⟩ := hu.slv
    have HSV : Hid (SV W0 P E b s ub (fun _ => False) [] w) := ⟨hu.low, hu.ubc, hsc, hu.bnd, hsm, fun x sv h => by simp [look] at h, fun a h => h.elim, by
      have : uns (E.map Prod.fst) [] ≤ (E.map Prod.fst).length := List.length_filter_le _ _
      simp only [List.length_map, List.length_nil] at this ⊢
      omega, hs0, fun e => hsb e.symm⟩
    have HSOL : Hid (∀ x A ES W, 0 ≤ x ∧ x ≤ 1000000 → SV W0 P E b s ub A ES W → Calls Try.prog 83 #[.pointer (some ⟨ub, 0, none⟩), .int .i64 x] W (SolOut W0 P E b s ub A x W)) := fun x A ES W hx hsv => solve_any W0 Bt P E b s ub r hwf hu.bmi hPok hac (r x + 1) x A ES W (Nat.lt_succ_self _) hx hsv
    have HRNG : Hid (∀ x, (look E x).isSome = true → (0 ≤ x ∧ x ≤ 1000000) ∧ ∃ u, P x = some u) := fun x hx => ⟨hrng x hx, by
      cases hP : P x with
      | none => rw [hu.bmi.2 x hP] at hx; cases hx
      | some u => exact ⟨u, rfl⟩⟩
    have HPOK : Hid ((∀ x u, P x = some u → u.fo.ok)) := fun x u h => (hPok x u h).1
    have HW0 : Hid (W0.heap.size ≤ w.heap.size ∧ s < w.heap.size) := ⟨hu.low.size, hsm.lt⟩
    have HEL : Hid (E.length ≤ 1000) := by show E.length ≤ 1000; omega
    obtain ⟨L, eL⟩ : ∃ L, L = E.length := ⟨_, rfl⟩
    have HLE : Hid (L = E.length) := eL
    rw [← eL] at hL hsz
    clear hu hwf hPok hEl hrng hac hks0 hbig hhas hat eL hsb hs0 hsc hsm
    go_enter Try.func56, Try.ntmps56
    go_wp2_with (at_len; refine wpList_len_own _ rfl _ 89 rfl 67 53 Try.underlying89 _ b E.length D rfl hown ?_; rw [hsz])
    refine HKC.mono ?_
    rintro e w1 ⟨rfl, rfl⟩
    go_wp2_with fail
    refine HSC.mono ?_
    rintro e w2 ⟨v, ks, rfl, hasc, hrow, hb2⟩
    obtain ⟨qk, ck, hv⟩ : ∃ q c, v = .slice q ks.length c := by
      rcases hrow.2 with ⟨h', h2⟩ | ⟨g', cap', cur, hv, _⟩
      · rw [h']; exact ⟨none, 0, by rw [h2]⟩
      · exact ⟨_, _, hv⟩
    subst hv
    obtain ⟨Lk, eLk⟩ : ∃ Lk, Lk = ks.length := ⟨_, rfl⟩
    have HLK : Hid (Lk = ks.length) := eLk
    have hLk : Lk ≤ 1000 := by have := hasc.2.2; have := HEL.out; omega
    have HASC : Hid (AscK E ks) := hasc
    have HB2 : Hid (Below w.heap.size w w2) := hb2
    have HKC2 : Hid (∀ j, j < ks.length → ∃ gk, qk = some ⟨gk, 0, none⟩ ∧ w2.cell? ⟨gk, j, none⟩ = some (.int .i64 (ks.getD j 0))) := fun j hj => by
      obtain ⟨gk, cap, hv, _⟩ := hrow.form (by omega)
      simp only [Value.slice.injEq] at hv
      refine ⟨gk, hv.1, ?_⟩
      have h9 := hrow
      rw [hv.1] at h9
      rw [h9.cellAt j (by omega)]
      simp [List.getD, hj]
    have HSV2 : Hid (∃ ES, SV W0 P E b s ub (AOf none 0 0) ES w2) := ⟨[], (HSV.out.fresh hb2).move (HSV.out.fresh hb2).low rfl rfl rfl (fun p v _ hv => ⟨fun h => by simp [AOf, Value.ownBlock] at h, hv⟩) (Nat.le_refl _) (fun a h => by simp [AOf, Value.ownBlock] at h)⟩
    have HSB : Hid (s < w2.heap.size ∧ W0.heap.size ≤ w2.heap.size) := ⟨by have := HW0.out.2; have := hb2.size; omega, by have := HW0.out.1; have := hb2.size; omega⟩
    rw [← eLk]
    clear hasc hrow hb2 HKC HSC eLk HSV
    go_wp2_with fail
    go_loopw [4, 21] (fun al i wr => ∃ (j n c : Nat) (p : Option Addr), j ≤ Lk ∧ n ≤ 1000 ∧ al = .slice p n c ∧ i = .int .i64 j ∧ Hid (n = j) ∧ Hid (OwnBB wr w2.heap.size wr.heap.size p n c (bndsU P (ks.take j))) ∧ Hid (∃ ES, SV W0 P E b s ub (AOf p n c) ES wr) ∧ Hid (w2.grownBy wr (some s)) ∧ Hid (∀ v ∈ ks.take j, (bndU P v).2.length ≤ 2000)) (fun _ i _ => Lk - (intOf i).toNat)
    case atStart => exact ⟨0, 0, 0, none, Nat.zero_le _, Nat.zero_le _, rfl, rfl, rfl, OwnBB.nil _ _ _, HSV2, .refl _ _, fun v hv => by simp at hv⟩
    case round =>
      obtain ⟨j, n, c, p, hj, hn, rfl, rfl, HNJ, HOB, HSVr, HG, HSM⟩ := hrel
      obtain ⟨ES, hsv⟩ := HSVr.out
      by_cases hlt : j < Lk
      · have hjk : j < ks.length := by have := HLK.out; omega
        obtain ⟨gk, rfl, hck⟩ := HKC2.out j hjk
        have hck2 : wr.cell? ⟨gk, j, none⟩ = some (.int .i64 (ks.getD j 0)) := by
          have hne : gk ≠ s := fun e => by
            obtain ⟨ES2, h2⟩ := HSV2.out
            exact cell_map_ne hck h2.sol e
          exact cell_grown hck HG.out hne
        have hmem : ks.getD j 0 ∈ ks := by simp [List.getD, hjk]
        have HTK : Hid (ks.take (j + 1) = ks.take j ++ [ks.getD j 0]) := by
          show _ = _
          rw [List.take_add_one, List.getElem?_eq_getElem hjk]
          simp [List.getD, hjk]
        obtain ⟨hxr, u, hPu⟩ := HRNG.out _ ((HASC.out.2.1 _).1 hmem)
        obtain ⟨x, ex⟩ : ∃ x, x = ks.getD j 0 := ⟨_, rfl⟩
        rw [← ex] at hck2 hxr hPu HTK hmem
        have HS := HSOL.out x _ ES wr hxr hsv
        have HX : Hid (P x = some u ∧ x ∈ ks) := ⟨hPu, hmem⟩
        have HSV0 : Hid (SV W0 P E b s ub (AOf p n c) ES wr) := hsv
        clear hck hxr hPu ex hsv hmem
        go_wp2_with fail
        refine HS.mono ?_
        rintro e w3 ⟨g, t, y, rfl, hfull, hfa, ⟨ES3, hsv3⟩, hg3⟩
        have HBU : Hid (bndU P x = (x, tcs g)) := bnd_full HX.out.1 hfull
        have HGOK : Hid g.fo.ok := hfull.okF HPOK.out (by
          have := hfull
          refine ⟨?_, fun z hz => by simp at hz, fun h => by simp at h, fun _ => rfl, trivial, trivial⟩
          have hx2 := HRNG.out x ((HASC.out.2.1 _).1 HX.out.2)
          simp [cellB]
          exact hx2.1)
        obtain ⟨w4, e4⟩ : ∃ w4, w4 = w3.alloc (.cells #[.iface t y, .int .i64 ((min (tcs g).length 2001 : Nat) : Int)] 128) := ⟨_, rfl⟩
        have hB4 : Below w3.heap.size w3 w4 := by rw [e4]; exact (Below.refl _ _).alloc (Nat.le_refl _) _
        have HSV4 : Hid (SV W0 P E b s ub (AOf p n c) ES3 w4) := hsv3.fresh hB4
        have HG4 : Hid (w2.grownBy w4 (some s)) := (HG.out.andThen hg3 (fun j hj => .inr hj)).andThen (grown_of_below hB4) (fun j hj => .inr hj)
        have HOB4 : Hid (OwnBB w4 w2.heap.size w4.heap.size p n c (bndsU P (ks.take j))) := by
          obtain ⟨ds, hd⟩ := HOB.out
          have h1 : OwnBB w4 w2.heap.size wr.heap.size p n c (bndsU P (ks.take j)) := ⟨ds, hd.other (Nat.le_trans hg3.size hB4.size) (fun k hk h2 h3 => (hB4.block k (Nat.lt_of_lt_of_le hk hg3.size)).trans (hg3.block k hk (fun e => by have := Option.some.inj e; have := HSB.out.1; omega)))⟩
          exact h1.wide (Nat.le_trans hg3.size hB4.size) (Nat.le_refl _)
        have hf4 : FoIn w4 0 g.fo [.iface t y] := (hfa.fresh hB4).foIn
        have hzc : ((min (tcs g).length 2001 : Nat) : Int) ≤ 2001 := by omega
        by_cases hlen : (tcs g).length ≤ 2000
        · have hcmp : ((min (tcs g).length 2001 : Nat) : Int) ≤ 2000 := by omega
          have HCO := cellsOf_any g.1 g.2 (.iface t y) 0 w4 HGOK.out hf4 (by simp only [tcs, List.length_cons] at hlen; omega)
          obtain ⟨z, ez⟩ : ∃ z, z = ((min (tcs g).length 2001 : Nat) : Int) := ⟨_, rfl⟩
          have HLG : Hid ((tcs g).length ≤ 2000) := hlen
          unfold solV
          rw [← ez] at e4 hcmp hzc ⊢
          have hw4 : w2.heap.size ≤ w4.heap.size := HG4.out.size
          have HW4 : Hid (w2.heap.size ≤ w4.heap.size) := hw4
          have hnl : n + 1 ≤ 1000 := by have := HNJ.out; omega
          rw [e4] at HCO
          clear hfull hfa hsv3 hg3 hB4 hf4 HS hlen ez hck2
          go_wp2_with fail
          refine HCO.mono ?_
          rw [← e4]
          rintro e w5 ⟨q5, m5, c5, rfl, hoc, hb5⟩
          have HOC : Hid (OwnC w5 w4.heap.size q5 m5 c5 (g.1 :: g.2.cells)) := hoc
          have HB5 : Hid (Below w4.heap.size w4 w5) := hb5
          clear hoc hb5 HCO
          go_wp2_with (at_builtin; refine app_bnd w4 _ rfl _ _ rfl w2.heap.size p n c _ x rfl HOB4.out HB5.out HW4.out q5 m5 c5 _ HOC.out rfl (by omega) ?_; intro g6 n6 cap6 w6 hown6 hb6 hn6 hg6 hat6)
          have HO6 : Hid (OwnBB w6 w2.heap.size w6.heap.size (some ⟨g6, 0, none⟩) n6 cap6 (bndsU P (ks.take (j + 1)))) := by
            have e : bndsU P (ks.take (j + 1)) = bndsU P (ks.take j) ++ [(x, g.1 :: g.2.cells)] := by
              rw [HTK.out]
              unfold bndsU
              rw [List.map_append, List.map_singleton, HBU.out]
              rfl
            rw [e]; exact hown6
          have hsv5 := HSV4.out.fresh HB5.out
          have hal : Below w5.heap.size w5 (w5.alloc (.cells #[.int .i64 x, .slice q5 m5 c5] 63)) := (Below.refl _ _).alloc (Nat.le_refl _) _
          have hsvA := hsv5.fresh hal
          have hob : ∀ k, Value.ownBlock (.slice p n c) = some k → w2.heap.size ≤ k := fun k hk => by
            obtain ⟨ds, hd⟩ := HOB4.out
            exact (hd.row.lt k hk).1
          have hlo : ∀ k, k < w2.heap.size → w6.heap[k]? = (w5.alloc (.cells #[.int .i64 x, .slice q5 m5 c5] 63)).heap[k]? := fun k hk => hg6.block k (by have := HW4.out; have := HB5.out.size; simp; omega) (fun e => by have := hob k e.symm; omega)
          have hl2 : b < w2.heap.size ∧ ub < w2.heap.size := by
            obtain ⟨ES2, h2⟩ := HSV2.out
            exact ⟨h2.bnd.lt, World.block_lt_of_cell? _ _ h2.ubc⟩
          have HS6 : Hid (∃ ES, SV W0 P E b s ub (AOf (some ⟨g6, 0, none⟩) n6 cap6) ES w6) := by
            refine ⟨ES3, hsvA.move ?_ (hlo b hl2.1) (hlo s HSB.out.1) (hlo ub hl2.2) (fun p0 v0 hp0 hv0 => ?_) hg6.size (fun a ha => ?_)⟩
            · exact hsvA.low.grown hg6 hsvA.low.size (fun k e => by have := hob k e; have := HSB.out.2; omega)
            · have hlt0 := World.block_lt_of_cell? _ _ hv0
              refine ⟨fun ha => ?_, ?_⟩
              · have e6 : g6 = p0.block := by simpa [AOf, Value.ownBlock] using ha
                rcases hat6 with h' | h'
                · exact hp0 (by unfold AOf; rw [h', e6])
                · simp at hlt0
                  omega
              · exact (World.cell?_of_block (hg6.block p0.block hlt0 (fun e => hp0 e.symm))).trans hv0
            · have e6 : g6 = a := by simpa [AOf, Value.ownBlock] using ha
              obtain ⟨ds, hd⟩ := hown6
              have := hd.row.lt g6 rfl
              have := HSB.out.2
              omega
          have HG6 : Hid (w2.grownBy w6 (some s)) := by
            have h1 := (HG4.out.andThen (grown_of_below (s := s) HB5.out) (fun j hj => .inr hj)).andThen (grown_of_below (s := s) hal) (fun j hj => .inr hj)
            exact ⟨hg6.os.trans h1.os, hg6.tape.trans h1.tape, hg6.output.trans h1.output, Nat.le_trans h1.size hg6.size, fun k hk hne => (hlo k hk).trans (h1.block k hk hne)⟩
          have HM6 : Hid (∀ v ∈ ks.take (j + 1), (bndU P v).2.length ≤ 2000) := fun v hv => by
            rw [HTK.out] at hv
            rcases List.mem_append.1 hv with hv | hv
            · exact HSM.out v hv
            · rw [List.mem_singleton.1 hv, HBU.out]; exact HLG.out
          have HN6 : Hid (n6 = j + 1) := by have := hn6.out; have := HNJ.out; show n6 = j + 1; omega
          have hn6b : n6 ≤ 1000 := by have := hn6.out; omega
          clear hown6 hb6 hn6 hg6 hat6 hsv5 hal hsvA hob hlo hl2 HOC HB5
          go_wp2_with fail
          go_roundw
          case rel => exact ⟨j + 1, n6, cap6, _, by omega, hn6b, rfl, by go_num, HN6, HO6, HS6, HG6, HM6⟩
          case measure => simp [intOf]; omega
        · have hcmp : (2000 : Int) < ((min (tcs g).length 2001 : Nat) : Int) := by omega
          have HF : Hid (∃ ks, AscK E ks ∧ BndO W0 P ks (.returned (.tuple #[.slice none 0 0, .int .i64 3])) w4) := ⟨ks, HASC.out, HSV4.out.low, by
            have : bindR P ks = none := by
              unfold bindR
              rw [if_neg (fun h => by
                have := h.2 x HX.out.2
                rw [HBU.out] at this
                exact hlen this)]
            rw [this]⟩
          obtain ⟨z, ez⟩ : ∃ z, z = ((min (tcs g).length 2001 : Nat) : Int) := ⟨_, rfl⟩
          unfold solV
          rw [← ez] at e4 hcmp hzc ⊢
          clear hfull hfa hsv3 hg3 hB4 hf4 HS hlen ez hck2
          subst e4
          go_wp2_with fail
          go_ret2
          exact HF.out
      · obtain rfl : j = Lk := by omega
        have HF : Hid (∃ ks, AscK E ks ∧ BndO W0 P ks (.returned (.tuple #[.slice p n c, .int .i64 0])) wr) := by
          have ht : ks.take j = ks := by rw [HLK.out, List.take_length]
          have hob := HOB.out
          have hsm := HSM.out
          rw [ht] at hob hsm
          refine ⟨ks, HASC.out, hsv.low, ?_⟩
          have : bindR P ks = some (bndsU P ks) := by
            unfold bindR
            rw [if_pos ⟨by have := HLK.out; omega, hsm⟩]
          rw [this]
          exact ⟨p, n, c, rfl, hob.wide (Nat.le_refl _) HSB.out.2⟩
        clear hsv
        go_wp2_with fail
        go_ret2
        exact HF.out

end Go.Proofs.Ytedlcmkhbccjgaa

namespace Go.Proofs.Ytedlcmkhbccjgaa
open Go Go.RowKit
set_option linter.unusedVariables false

/-- All that are bound, ascending. -/
def AscM (M : BM) (ks : List Int) : Prop := ks.Pairwise (· < ·) ∧ ∀ x, x ∈ ks ↔ (M x).isSome = true
/-- What unifying two trees answers. -/
def UniT (x y : Tr) (bs : List Bnd) (code : Int) : Prop := match runU 4 5 3 20000 (fun _ => none) [(x, y)] with
  | .error c => bs = [] ∧ code = c ∧ 3 ≤ c ∧ c ≤ 5
  | .ok (M, _) => ∃ ks, AscM M ks ∧ match bindR M ks with
    | none => bs = [] ∧ code = 3
    | some l => bs = l ∧ code = 0
def UniIs (xs ys : List Cel) (bs : List Bnd) (code : Int) : Prop :=
  (validB xs = true ∧ validB ys = true ∧ ∃ c k c' k', xs = c :: k.cells ∧ ys = c' :: k'.cells ∧ (Fo.node c k .nil).ok ∧ (Fo.node c' k' .nil).ok ∧ UniT (c, k) (c', k') bs code) ∨ (¬ (validB xs = true ∧ validB ys = true) ∧ bs = [] ∧ code = 1)
theorem asc_unique : ∀ {l l' : List Int}, l.Pairwise (· < ·) → l'.Pairwise (· < ·) → (∀ x, x ∈ l ↔ x ∈ l') → l = l'
  | [], [], _, _, _ => rfl
  | [], b :: l', _, _, h => by have := (h b).2 (by simp); simp at this
  | a :: l, [], _, _, h => by have := (h a).1 (by simp); simp at this
  | a :: l, b :: l', h1, h2, h => by
    obtain ⟨p1, p2⟩ := List.pairwise_cons.1 h1
    obtain ⟨q1, q2⟩ := List.pairwise_cons.1 h2
    have hab : a = b := by
      rcases List.mem_cons.1 ((h a).1 (by simp)) with e | e
      · exact e
      · rcases List.mem_cons.1 ((h b).2 (by simp)) with e' | e'
        · exact e'.symm
        · have := p1 b e'
          have := q1 a e
          omega
    subst hab
    rw [asc_unique p2 q2 (fun x => ⟨fun hx => by
      rcases List.mem_cons.1 ((h x).1 (List.mem_cons_of_mem _ hx)) with e | e
      · have := p1 x hx; omega
      · exact e, fun hx => by
      rcases List.mem_cons.1 ((h x).2 (List.mem_cons_of_mem _ hx)) with e | e
      · have := q1 x hx; omega
      · exact e⟩)]
theorem UniT.det {x y : Tr} {bs bs' : List Bnd} {c c' : Int} (h : UniT x y bs c) (h' : UniT x y bs' c') : bs = bs' ∧ c = c' := by
  unfold UniT at h h'
  cases hr : runU 4 5 3 20000 (fun _ => none) [(x, y)] with
  | error d =>
    rw [hr] at h h'
    exact ⟨h.1.trans h'.1.symm, h.2.1.trans h'.2.1.symm⟩
  | ok r =>
    obtain ⟨M, m⟩ := r
    rw [hr] at h h'
    obtain ⟨ks, ha, hb⟩ := h
    obtain ⟨ks', ha', hb'⟩ := h'
    obtain rfl := asc_unique ha.1 ha'.1 (fun x => (ha.2 x).trans (ha'.2 x).symm)
    cases hB : bindR M ks with
    | none => rw [hB] at hb hb'; exact ⟨hb.1.trans hb'.1.symm, hb.2.trans hb'.2.symm⟩
    | some l => rw [hB] at hb hb'; exact ⟨hb.1.trans hb'.1.symm, hb.2.trans hb'.2.symm⟩
/-- What is bound has a number that a variable may have. -/
def Rng (M : BM) : Prop := ∀ x u, M x = some u → 0 ≤ x ∧ x ≤ 1000000
theorem ok_rng {t : Tr} (h : t.fo.ok) (h0 : t.1.1 = 0) : 0 ≤ t.1.2.1 ∧ t.1.2.1 ≤ 1000000 := by
  have h1 := h.1
  rw [h0] at h1
  simp [cellB] at h1
  omega
theorem Rng.set {M : BM} (h : Rng M) {v : Int} {t : Tr} (hv : 0 ≤ v ∧ v ≤ 1000000) : Rng (M.set v t) := fun x u hx => by
  simp only [BM.set] at hx
  by_cases e : x = v
  · rw [e]; exact hv
  · rw [if_neg e] at hx; exact h x u hx
theorem Rng.step {M M' : BM} {X Y : Tr} {qs : List TT} (hM : Rng M) (oX : X.fo.ok) (oY : Y.fo.ok) (h : stepE 4 5 M X Y = .ok (M', qs)) : Rng M' := by
  unfold stepE at h
  split at h
  · rename_i h0
    split at h
    · cases h; exact hM.set (ok_rng oX h0.1)
    · split at h
      · cases h; exact hM.set (ok_rng oY h0.2)
      · cases h; exact hM
  · split at h
    · rename_i h0
      split at h
      · cases h
      · cases h; exact hM.set (ok_rng oX h0)
    · split at h
      · rename_i h0
        split at h
        · cases h
        · cases h; exact hM.set (ok_rng oY h0)
      · split at h
        · cases h; exact hM
        · cases h
theorem Rng.run : ∀ (k : Nat) (M : BM) (st : List TT), Rng M → WfU M → (∀ p ∈ st, p.1.fo.ok ∧ p.2.fo.ok) → ∀ M' n, runU 4 5 3 k M st = .ok (M', n) → Rng M'
  | k, M, [], h, _, _, M', n, e => by rw [runU_nil] at e; cases e; exact h
  | 0, M, p :: ps, h, _, _, M', n, e => by cases e
  | k + 1, M, p :: ps, h, hw, ho, M', n, e => by
    rw [runU] at e
    have hp := ho p (by simp)
    have oX := hw.end_ok hp.1 (hw.endB p.1)
    have oY := hw.end_ok hp.2 (hw.endB p.2)
    cases hs : stepE 4 5 M (endB M p.1) (endB M p.2) with
    | error c => rw [hs] at e; cases e
    | ok r =>
      obtain ⟨M1, qs⟩ := r
      rw [hs] at e
      simp only at e
      obtain ⟨w1, w2⟩ := hw.step (hw.endB p.1).last (hw.endB p.2).last oX oY hs
      exact Rng.run k M1 (qs ++ ps) (h.step oX oY hs) w1 (fun q hq => by
        rcases List.mem_append.1 hq with hq | hq
        · exact w2 q hq
        · exact ho q (by simp [hq])) M' n e
theorem WfU.zero : WfU (fun _ => none) := ⟨⟨fun _ => 0, fun v u h => by cases h⟩, fun v u h => by cases h⟩
theorem bndU_same {P M : BM} (hc : Cut P M) (h : WfU M) (v : Int) : bndU P v = bndU M v := by
  unfold bndU
  cases hm : M v with
  | none => rw [hc.1 v hm]
  | some u =>
    obtain ⟨u', hp, hway⟩ := hc.2 v u hm
    rw [hp]
    simp only
    have hu' := (hc.wf h).ok v u' hp
    obtain ⟨g, hg⟩ := h.full u' hu'
    rw [hc.full_same h u' hu', fullC_eq hg, fullC_eq (FullF.from_stop hway hg)]
theorem bindR_same {P M : BM} (hc : Cut P M) (h : WfU M) (ks : List Int) : bindR P ks = bindR M ks := by
  have : bndU P = bndU M := funext (bndU_same hc h)
  unfold bindR bndsU
  rw [this]
theorem asc_same {W0 : World} {Bt : Nat} {P M : BM} {E : List (Int × Value)} {ks : List Int} (hc : Cut P M) (hb : BMIn W0 Bt P E) (h : AscK E ks) : AscM M ks := ⟨h.1, fun x => by
  rw [h.2.1 x]
  cases hm : M x with
  | none => rw [hb.2 x (hc.1 x hm)]; simp
  | some u =>
    obtain ⟨u', hp, _⟩ := hc.2 x u hm
    obtain ⟨v, hv, _⟩ := hb.1 x u' hp
    rw [hv]
    simp⟩
def UniO (w : World) (xs ys : List Cel) (e : Ending) (w' : World) : Prop := ∃ bs code p n c, UniIs xs ys bs code ∧ e = .returned (.tuple #[.slice p n c, .int .i64 code]) ∧ OwnBB w' w.heap.size w'.heap.size p n c bs ∧ Below w.heap.size w w'

set_option maxRecDepth 100000 in
set_option maxHeartbeats 1000000 in
theorem implUni_bad (xs ys : List Cel) (p q : Option Addr) (w : World) (hn : xs.length ≤ 1000000000) (hm : ys.length ≤ 1000000000) (hp : CIn w p xs) (hq : CIn w q ys) (hb : ¬ (validB xs = true ∧ validB ys = true)) :
    Calls Try.prog 23 #[.slice p xs.length xs.length, .slice q ys.length ys.length] w (UniO w xs ys) := by
  have HV1 := implValid_any p xs.length xs w hn hp
  have HF : Hid (∀ W, Below w.heap.size w W → UniO w xs ys (.returned (.tuple #[.slice none 0 0, .int .i64 1])) W) := fun W hW => ⟨[], 1, none, 0, 0, .inr ⟨hb, rfl, rfl⟩, rfl, OwnBB.nil _ _ _, hW⟩
  by_cases h1 : validB xs = true
  · have HV2 : Hid (∀ W, Below w.heap.size w W → Calls Try.prog 31 #[.slice q ys.length ys.length] W fun e w' => e = .returned (.bool (validB ys)) ∧ Below W.heap.size W w') := fun W hW => implValid_any q ys.length ys W hm (hq.below hW)
    rw [h1] at HV1
    have h2' : validB ys = false := by
      cases h : validB ys with
      | false => rfl
      | true => exact (hb ⟨h1, h⟩).elim
    rw [h2'] at HV2
    clear h1 h2' hp hq hb
    go_enter Try.func23, Try.ntmps23
    go_wp2_with fail
    refine HV1.mono ?_
    rintro e w1 ⟨rfl, hb1⟩
    have HB1 : Hid (Below w.heap.size w w1) := hb1
    clear hb1 HV1
    go_wp2_with fail
    refine (HV2.out w1 HB1.out).mono ?_
    rintro e w2 ⟨rfl, hb2⟩
    have HB2 : Hid (Below w.heap.size w w2) := Below.on HB1.out hb2
    clear hb2
    go_wp2_with fail
    go_ret2
    exact HF.out _ HB2.out
  · have h1' : validB xs = false := by simpa using h1
    rw [h1'] at HV1
    clear h1 h1' hp hq hb
    go_enter Try.func23, Try.ntmps23
    go_wp2_with fail
    refine HV1.mono ?_
    rintro e w1 ⟨rfl, hb1⟩
    have HB1 : Hid (Below w.heap.size w w1) := hb1
    clear hb1 HV1
    go_wp2_with fail
    go_ret2
    exact HF.out _ HB1.out

set_option maxRecDepth 100000 in
set_option maxHeartbeats 2000000 in
theorem implUni_any (xs ys : List Cel) (p q : Option Addr) (w : World) (hxb : ∀ i, i < xs.length → Byte (xs.getD i Cel.none).2.2) (hyb : ∀ i, i < ys.length → Byte (ys.getD i Cel.none).2.2) (hn : xs.length ≤ 1000000000) (hm : ys.length ≤ 1000000000) (hp : CIn w p xs) (hq : CIn w q ys) :
    Calls Try.prog 23 #[.slice p xs.length xs.length, .slice q ys.length ys.length] w (UniO w xs ys) := by
  by_cases hv : validB xs = true ∧ validB ys = true
  · obtain ⟨h1, h2⟩ := hv
    obtain ⟨c, k, ex, hok, hlx⟩ := tree_of hxb h1
    obtain ⟨c', k', ey, hok', hly⟩ := tree_of hyb h2
    have HV1 := implValid_any p xs.length xs w hn hp
    have HV2 : Hid (∀ W, Below w.heap.size w W → Calls Try.prog 31 #[.slice q ys.length ys.length] W fun e w' => e = .returned (.bool (validB ys)) ∧ Below W.heap.size W w') := fun W hW => implValid_any q ys.length ys W hm (hq.below hW)
    rw [h1] at HV1
    rw [h2] at HV2
    have HFIN : Hid (∀ bs code e pp nn cc W, UniT (c, k) (c', k') bs code → e = .returned (.tuple #[.slice pp nn cc, .int .i64 code]) → OwnBB W w.heap.size W.heap.size pp nn cc bs → Below w.heap.size w W → UniO w xs ys e W) := fun bs code e pp nn cc W h he ho hW => ⟨bs, code, pp, nn, cc, .inl ⟨h1, h2, c, k, c', k', ex, ey, hok, hok', h⟩, he, ho, hW⟩
    obtain ⟨n, en⟩ : ∃ n, n = xs.length := ⟨_, rfl⟩
    obtain ⟨m, em⟩ : ∃ m, m = ys.length := ⟨_, rfl⟩
    rw [← en] at HV1 hn hlx ⊢
    rw [← em] at HV2 hm hly ⊢
    have HK : Hid ((tcs (c, k)).length ≤ 2000 ∧ (tcs (c', k')).length ≤ 2000) := ⟨by rw [en, ex] at hlx; simp [tcs] at hlx ⊢; omega, by rw [em, ey] at hly; simp [tcs] at hly ⊢; omega⟩
    have HX : Hid ((Fo.node c k .nil).ok ∧ (Fo.node c' k' .nil).ok) := ⟨hok, hok'⟩
    have HT1 : Hid (∀ W, Below w.heap.size w W → Calls Try.prog 33 #[.slice p n n] W fun e w' => ∃ v, e = .returned v ∧ FoIn w' W.heap.size (.node c k .nil) [v] ∧ Below W.heap.size W w') := fun W hW => termOf_any c k p n n W hok (by rw [en, ex]; simp) (Nat.le_refl _) hn (by have := hp.below hW; rwa [ex] at this)
    have HT2 : Hid (∀ W, Below w.heap.size w W → Calls Try.prog 33 #[.slice q m m] W fun e w' => ∃ v, e = .returned v ∧ FoIn w' W.heap.size (.node c' k' .nil) [v] ∧ Below W.heap.size W w') := fun W hW => termOf_any c' k' q m m W hok' (by rw [em, ey]; simp) (Nat.le_refl _) hm (by have := hq.below hW; rwa [ey] at this)
    clear h1 h2 hp hq ex ey en em hok hok' hxb hyb hlx hly
    go_enter Try.func23, Try.ntmps23
    go_wp2_with fail
    refine HV1.mono ?_
    rintro e w1 ⟨rfl, hb1⟩
    have HB1 : Hid (Below w.heap.size w w1) := hb1
    clear hb1 HV1
    go_wp2_with fail
    refine (HV2.out w1 HB1.out).mono ?_
    rintro e w2 ⟨rfl, hb2⟩
    have HB2 : Hid (Below w.heap.size w w2) := Below.on HB1.out hb2
    clear hb2
    go_wp2_with fail
    refine (HT1.out w2 HB2.out).mono ?_
    rintro e w3 ⟨v3, rfl, hf3, hb3⟩
    have HB3 : Hid (Below w.heap.size w w3) := Below.on HB2.out hb3
    have HF3 : Hid (FoIn w3 w2.heap.size (.node c k .nil) [v3]) := hf3
    obtain ⟨t3, y3, rfl⟩ := hf3.iface
    clear hb3 hf3
    go_wp2_with fail
    refine (HT2.out w3 HB3.out).mono ?_
    rintro e w5 ⟨v5, rfl, hf5, hb5⟩
    have HB5 : Hid (Below w.heap.size w w5) := Below.on HB3.out hb5
    obtain ⟨t5, y5, rfl⟩ := hf5.iface
    have hri := RI.made w5 (c, k) (c', k') (.iface t3 y3) (.iface t5 y5) (FoIn.mono (FoIn.below HF3.out hb5) (Nat.zero_le _)) (FoIn.mono hf5 (Nat.zero_le _)) HX.out.1 HX.out.2 HK.out.1 HK.out.2
    have HNU := newUnifier_any w5 t3 t5 y3 y5
    obtain ⟨ub, eub⟩ : ∃ ub, ub = w5.heap.size + 1 + 1 + 1 := ⟨_, rfl⟩
    rw [← eub] at hri HNU
    have HRUN := run_any w5 0 w5.heap.size ub _ _ _ _ _ _ hri
    have HRR : Hid (∀ M m, runU 4 5 3 20000 (fun _ => none) [((c, k), (c', k'))] = .ok (M, m) → Rng M) := fun M m h => Rng.run 20000 _ _ (fun x u h => by cases h) WfU.zero (fun pp hpp => by rw [List.mem_singleton.1 hpp]; exact HX.out) M m h
    obtain ⟨RR, eRR⟩ : ∃ RR, RR = runU 4 5 3 20000 (fun _ => none) [((c, k), (c', k'))] := ⟨_, rfl⟩
    have HER : Hid (RR = runU 4 5 3 20000 (fun _ => none) [((c, k), (c', k'))]) := eRR
    rw [← eRR] at HRUN
    clear hb5 hf5 hri eRR eub
    go_wp2_with fail
    refine HNU.mono ?_
    rintro e w6 ⟨rfl, rfl⟩
    clear HNU
    go_wp2_with fail
    refine HRUN.mono ?_
    intro e w7 ho
    clear HRUN
    cases RR with
    | error d =>
      obtain ⟨hd, rfl, hb7⟩ := ho
      have HB7 : Hid (Below w.heap.size w w7) := Below.on HB5.out hb7
      have HD : Hid (3 ≤ d ∧ d ≤ 5) := by rcases hd with rfl | rfl | rfl <;> exact ⟨by decide, by decide⟩
      have hd0 : (d == 0) = false := by rcases hd with rfl | rfl | rfl <;> rfl
      clear hd hb7
      go_wp2_with fail
      go_ret2
      refine HFIN.out [] d _ _ _ _ _ ?_ rfl (OwnBB.nil _ _ _) HB7.out
      unfold UniT
      rw [← HER.out]
      exact ⟨rfl, rfl, HD.out.1, HD.out.2⟩
    | ok r =>
      obtain ⟨M, mm⟩ := r
      obtain ⟨rfl, hwf, hsm, P, E, hcut, hust, hEl⟩ := ho
      have hrng := HRR.out M mm HER.out.symm
      have HBI := bindings_any w5 0 P E w5.heap.size ub w7 hust (hcut.wf hwf) (hcut.small hwf hsm) hEl (fun x hx => by
        cases hP : M x with
        | none => rw [hust.bmi.2 x (hcut.1 x hP)] at hx; cases hx
        | some u => exact hrng x u hP)
      have HAS : Hid (∀ ks, AscK E ks → AscM M ks ∧ bindR P ks = bindR M ks) := fun ks h => ⟨asc_same hcut hust.bmi h, bindR_same hcut hwf ks⟩
      clear hwf hsm hcut hust hEl hrng
      go_wp2_with fail
      refine HBI.mono ?_
      rintro e w8 ⟨ks, hks, hb8, hbo⟩
      obtain ⟨ha, hbr⟩ := HAS.out ks hks
      rw [hbr] at hbo
      have HB8 : Hid (Below w.heap.size w w8) := Below.on HB5.out hb8
      have HU : Hid (∀ (bs : List Bnd) (code : Int), (match bindR M ks with | none => bs = [] ∧ code = 3 | some l => bs = l ∧ code = 0) → UniT (c, k) (c', k') bs code) := fun bs code h => by
        unfold UniT
        rw [← HER.out]
        exact ⟨ks, ha, h⟩
      cases hB : bindR M ks with
      | none =>
        rw [hB] at hbo HU
        subst hbo
        clear HBI hb8 ha hbr hB hks
        go_wp2_with fail
        go_ret2
        exact HFIN.out [] 3 _ _ _ _ _ (HU.out [] 3 ⟨rfl, rfl⟩) rfl (OwnBB.nil _ _ _) HB8.out
      | some l =>
        rw [hB] at hbo HU
        obtain ⟨pp, nn, cc, rfl, hown⟩ := hbo
        have HO : Hid (OwnBB w8 w.heap.size w8.heap.size pp nn cc l) := hown.wide (Nat.le_refl _) HB5.out.size
        clear HBI hb8 ha hbr hB hks hown
        go_wp2_with fail
        go_ret2
        exact HFIN.out l 0 _ _ _ _ _ (HU.out l 0 ⟨rfl, rfl⟩) rfl HO.out HB8.out
  · exact implUni_bad xs ys p q w hn hm hp hq hv

end Go.Proofs.Ytedlcmkhbccjgaa

