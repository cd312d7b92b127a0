/- Texts of KeysW, CellG, UnB2, UnB3. Own work of the verifier. -/
import Derived.Test.YtaakpdakeolgeaaGreatKeysL
import Derived.Test.YtaakpdakeolgeaaGreatUqas
import Derived.Test.YtaakpdakeolgeaaGreatUqal
import Derived.Test.YtaakpdakeolgeaaGreatUqaz
import Derived.Test.YtaakpdakeolgeaaGreatUqba
namespace Go.Proofs.YtaakpdakeolgeaaGreat
open Go Go.RowKit Go.Maps Go.Sort Go.Shelf
set_option linter.unusedVariables false
def AscK (E : List (Int × Value)) (ks : List Int) : Prop := ks.Pairwise (· < ·) ∧ (∀ x, x ∈ ks ↔ (Go.Proofs.YtaakpdakeolgeaaGreat.look E x).isSome = true) ∧ ks.length = E.length
theorem keys_facts {w : World} {b N : Nat} {D : DataW Value} {E : List (Int × Value)} (hown : w.ownsMap Tryz.prog 63 anyE b N D) (hsz : Maps.size D = E.length) (hhas : ∀ x : Int, Maps.has D (.int .i64 x) = (Go.Proofs.YtaakpdakeolgeaaGreat.look E x).isSome) :
    (intKeys D).Nodup ∧ (∀ x, x ∈ intKeys D ↔ (Go.Proofs.YtaakpdakeolgeaaGreat.look E x).isSome = true) ∧ (intKeys D).length = E.length := by
  obtain ⟨es, hD, hpw, _⟩ := hown.entries lawVar
  obtain ⟨es', hD', hko⟩ := hown.keysOf
  obtain rfl : es = es' := by rw [hD] at hD'; simpa using hD'
  subst hD
  have hk : ∀ p ∈ es, ∃ x, p.1 = .int .i64 x := fun p hp => by
    obtain ⟨v, hv⟩ := hko p hp
    obtain ⟨x, _, hx, _⟩ := Maps.keyOf_i64 Tryz.underlying63 hv
    exact ⟨x, hx⟩
  refine ⟨?_, fun x => ?_, ?_⟩
  · show (es.map fun p => Go.intOf p.1).Nodup
    refine List.pairwise_map.2 (hpw.imp_of_mem fun {p q} hp' hq' hne e => hne ?_)
    obtain ⟨a, ha⟩ := hk p hp'
    obtain ⟨b, hb⟩ := hk q hq'
    rw [ha, hb] at e ⊢
    exact congrArg _ e
  · rw [← hhas x, has_eq, List.any_eq_true]
    show x ∈ es.map (fun p => Go.intOf p.1) ↔ _
    rw [List.mem_map]
    constructor
    · rintro ⟨p, hp', rfl⟩
      obtain ⟨a, ha⟩ := hk p hp'
      exact ⟨p, hp', by rw [ha]; simp [Lit.sameKey, Go.intOf]⟩
    · rintro ⟨p, hp', hs⟩
      obtain ⟨a, ha⟩ := hk p hp'
      rw [ha] at hs
      exact ⟨p, hp', by rw [ha]; simpa [Lit.sameKey, Go.intOf] using hs⟩
  · rw [← hsz]
    simp [intKeys, Maps.size]
theorem asc_of {w : World} {b N : Nat} {D : DataW Value} {E : List (Int × Value)} (hown : w.ownsMap Tryz.prog 63 anyE b N D) (hsz : Maps.size D = E.length) (hhas : ∀ x : Int, Maps.has D (.int .i64 x) = (Go.Proofs.YtaakpdakeolgeaaGreat.look E x).isSome) {ss : List Int} (hp : ss.Perm (intKeys D)) : AscK E (ss.mergeSort leI) := by
  obtain ⟨h1, h2, h3⟩ := keys_facts hown hsz hhas
  have hpm : (ss.mergeSort leI).Perm (intKeys D) := (List.mergeSort_perm ss leI).trans hp
  have tr : ∀ a b c : Int, leI a b = true → leI b c = true → leI a c = true := fun a b c h1 h2 => by simp only [leI, decide_eq_true_eq] at *; exact Int.le_trans h1 h2
  have to : ∀ a b : Int, (leI a b || leI b a) = true := fun a b => by simp only [leI, Bool.or_eq_true, decide_eq_true_eq]; exact Int.le_total a b
  refine ⟨?_, fun x => (hpm.mem_iff).trans (h2 x), hpm.length_eq.trans h3⟩
  have hs := List.pairwise_mergeSort tr to ss
  have hn : (ss.mergeSort leI).Nodup := hpm.nodup_iff.2 h1
  refine (hs.and hn).imp fun {a b} ⟨hab, hne⟩ => ?_
  simp only [leI, decide_eq_true_eq] at hab
  omega
theorem sortsL (m : Nat) : AnyZI.SortsIn Tryz.prog Tryz.sortedL_ren Fence.wide m :=
  ⟨fun blk off cap ss W hH hblk hsz => callsIn_wide.2 (AnyM.slices_Sort_int Tryz.sortL blk off cap ss W hH hblk hsz),
   fun p cap W => callsIn_wide.2 (AnyM.slices_Sort_int_none Tryz.sortL p cap W)⟩
theorem keysC (mb : Option Nat) (W : World) : Calls Tryz.prog 61 #[.map mb] W fun e w' => e = .returned (.func (.func 81) #[] #[.pointer (some ⟨W.heap.size, 0, none⟩)]) ∧ w' = W.alloc (.cells #[.map mb] 88) :=
  (callsIn_wide (n := 5)).1 (AnyZI.keys_in Tryz.keysL Fence.wide 5 trivial rfl mb W)
set_option maxHeartbeats 1000000 in
theorem sortedC (b N : Nat) (E : List (Int × Value)) (w : World) (h : VMap w b N E) (hE : E.length ≤ 1000000) :
    Calls Tryz.prog 60 #[.func (.func 81) #[] #[.pointer (some ⟨w.heap.size, 0, none⟩)]] (w.alloc (.cells #[.map (some b)] 88)) fun e w' => ∃ v ks, e = .returned v ∧ AscK E ks ∧ w'.ownsRow w.heap.size 63 1 v ks.length (ks.map (Value.int .i64)) ∧ Below w.heap.size w w' := by
  obtain ⟨D, hown, hsz, hhas, _⟩ := h
  have hbl := hown.lt
  have hmax : Maps.size D ≤ maxLen := by rw [hsz]; unfold maxLen; omega
  have hbytes : Maps.size D * 8 ≤ 140737488355328 := by rw [hsz]; omega
  have hseq : SeqGives Fence.wide 2 Tryz.prog 81 #[.pointer (some ⟨w.heap.size, 0, none⟩)] encZ (fun ss => ss.Perm (intKeys D)) (Maps.size D) (w.alloc (.cells #[.map (some b)] 88)) :=
    AnyZI.keys_gives (ρ := Tryz.keysL_ren) { Tryz.keysL with } Fence.wide _ trivial rfl (by omega) w.heap.size b N D _ (by simp) (by simp) (by
      obtain ⟨es, clock, hb, Ft, hs, hD⟩ := hown
      exact ⟨es, clock, (Below.heap_alloc _ _ b hbl).trans hb, Ft, hs, hD⟩)
  have cS := AnyZI.sorted_in Tryz.sortedL Fence.wide 5 trivial trivial trivial trivial rfl (by omega) (sortsL _) (enters_of Tryz.func80 (by kernel_rfl) rfl) 81 #[.pointer (some ⟨w.heap.size, 0, none⟩)] trivial (enters_of Tryz.func81 (by kernel_rfl) rfl) _ _ hmax hbytes _ hseq
  change CallsIn _ _ Tryz.prog 60 _ _ _ at cS
  refine ((callsIn_wide (n := 5)).1 cS).mono ?_
  rintro e w' ⟨v, ss, rfl, hS, hrow, hnil, hb⟩
  have hl : ss.length = (ss.mergeSort leI).length := (List.length_mergeSort ss).symm
  refine ⟨v, ss.mergeSort leI, rfl, asc_of hown hsz hhas hS, ?_, ((Below.refl _ w).alloc (Nat.le_refl _) _).trans (hb.mono (by simp))⟩
  rw [← hl]
  exact ownsRow_base_a hrow (by simp)
end Go.Proofs.YtaakpdakeolgeaaGreat

namespace Go.Proofs.YtaakpdakeolgeaaGreat
open Go Go.RowKit Go.Maps
set_option linter.unusedVariables false
set_option maxRecDepth 100000 in
theorem cellsOf_any (c : Cel) (k : Fo) (v : Value) (Bt : Nat) (w : World) (hok : (Fo.node c k .nil).ok) (hfo : FoIn w Bt (.node c k .nil) [v]) (hl : k.cells.length ≤ 10000) :
    Calls Tryz.prog 33 #[v] w fun e w' => ∃ p n cp, e = .returned (.slice p n cp) ∧ OwnC w' w.heap.size p n cp (c :: k.cells) ∧ Below w.heap.size w w' := by
  have nil := OwnC.nil w w.heap.size
  have fin : ∀ {e : Ending} {w' : World}, AppOut w w.heap.size [] (c :: k.cells) e w' → ∃ p n cp, e = .returned (.slice p n cp) ∧ OwnC w' w.heap.size p n cp (c :: k.cells) ∧ Below w.heap.size w w' := fun ⟨p, n, cp, h1, h2, h3⟩ => ⟨p, n, cp, h1, by simpa using h2, h3⟩
  have FIN : Hid _ := @fin
  clear fin
  obtain ⟨v', vr, e, hnode, _⟩ := hfo
  obtain ⟨rfl, rfl⟩ := List.cons.inj e
  have hcl := hok.1
  have hby := hok.2.1
  rcases hnode with ⟨h0, rfl⟩ | ⟨h0, rfl⟩ | ⟨h0, rfl⟩ | ⟨h0, b, g, vs, rfl, hcomp⟩
  · have hk : k = .nil := hok.2.2.2.1 (by rw [h0]; decide)
    obtain ⟨c0, c1, c2⟩ := c
    simp only at h0 hcl
    subst h0 hk
    have e2 : c2 = [] := by simp [cellB] at hcl; exact hcl.2.2
    subst e2
    have HS := appVar_any c1 none 0 0 [] w.heap.size w (Nat.le_refl _) (by decide) nil
    clear hok hcl hby e nil
    go_enter Tryz.func33, Tryz.ntmps33
    go_wp2_with fail
    refine HS.mono ?_
    rintro e w1 ⟨p3, n3, c3, rfl, h1, h2⟩
    have HF := FIN.out ⟨p3, n3, c3, rfl, h1, h2⟩
    have HFF : Hid _ := HF
    clear HF h1 h2
    go_wp2_with fail
    go_ret
    exact HFF.out
  · have hk : k = .nil := hok.2.2.2.1 (by rw [h0]; decide)
    obtain ⟨c0, c1, c2⟩ := c
    simp only at h0 hcl
    subst h0 hk
    have e2 : c2 = [] := by simp [cellB] at hcl; exact hcl.2.2
    subst e2
    have HS := appNum_any c1 none 0 0 [] w.heap.size w (Nat.le_refl _) (by decide) nil
    clear hok hcl hby e nil
    go_enter Tryz.func33, Tryz.ntmps33
    go_wp2_with fail
    refine HS.mono ?_
    rintro e w1 ⟨p3, n3, c3, rfl, h1, h2⟩
    have HF := FIN.out ⟨p3, n3, c3, rfl, h1, h2⟩
    have HFF : Hid _ := HF
    clear HF h1 h2
    go_wp2_with fail
    go_ret
    exact HFF.out
  · have hk : k = .nil := hok.2.2.2.1 (by rw [h0]; decide)
    obtain ⟨c0, c1, c2⟩ := c
    simp only at h0 hcl hby
    subst h0 hk
    have e2 : c1 = 0 := by simp [cellB] at hcl; exact hcl.2
    subst e2
    have HS := appAtom_any c2 hby none 0 0 [] w.heap.size w (Nat.le_refl _) (by decide) nil
    obtain ⟨str, es⟩ : ∃ str, str = strOfNums c2 := ⟨_, rfl⟩
    simp only
    rw [← es] at HS ⊢
    clear hok hcl hby e nil es
    go_enter Tryz.func33, Tryz.ntmps33
    go_wp2_with fail
    refine HS.mono ?_
    rintro e w1 ⟨p3, n3, c3, rfl, h1, h2⟩
    have HF := FIN.out ⟨p3, n3, c3, rfl, h1, h2⟩
    have HFF : Hid _ := HF
    clear HF h1 h2
    go_wp2_with fail
    go_ret
    exact HFF.out
  · have hcn := hok.2.2.1 h0
    obtain ⟨c0, c1, c2⟩ := c
    simp only at h0 hcl hby hcn hcomp
    subst h0 hcn
    have HS := appComp_any k.cells.length c2 k b g vs none 0 0 [] Bt w.heap.size w w (Nat.le_refl _) hok.2.2.2.2.1 hby hcomp (Below.refl _ _) (Nat.le_refl _) (Nat.le_refl _) nil (by omega)
    clear hok hcl hby e nil hcomp
    go_enter Tryz.func33, Tryz.ntmps33
    go_wp2_with fail
    refine HS.mono ?_
    rintro e w1 ⟨p3, n3, c3, rfl, h1, h2⟩
    have HF := FIN.out ⟨p3, n3, c3, rfl, h1, h2⟩
    have HFF : Hid _ := HF
    clear HF h1 h2
    go_wp2_with fail
    go_ret
    exact HFF.out
end Go.Proofs.YtaakpdakeolgeaaGreat

namespace Go.Proofs.YtaakpdakeolgeaaGreat
open Go Go.RowKit
set_option linter.unusedVariables false
theorem FullF.cnt {M : BM} {F G : Fo} (h : FullF M F G) : G.count = F.count := by
  induction h with
  | nil => rfl
  | keep _ _ _ _ ih => simp [Fo.count, ih]
  | put _ _ _ _ _ ih => simp [Fo.count, ih]
theorem FullF.okF {M : BM} (hM : ∀ v u, M v = some u → u.fo.ok) {F G : Fo} (h : FullF M F G) : F.ok → G.ok := by
  induction h with
  | nil => exact id
  | @keep c k r k' r' h0 hk hr ihk ihr =>
    rintro ⟨h1, h2, h3, h4, h5, h6⟩
    refine ⟨h1, h2, fun h => by rw [hk.cnt]; exact h3 h, fun h => ?_, ihk h5, ihr h6⟩
    have := h4 h
    subst this
    cases hk
    rfl
  | @put c r r' u g h0 hm hu hr ihu ihr =>
    rintro ⟨h1, h2, h3, h4, h5, h6⟩
    obtain ⟨g1, g2, g3, g4, g5, _⟩ := ihu (hM _ _ hm)
    exact ⟨g1, g2, g3, g4, g5, ihr h6⟩
noncomputable def bndU (P : BM) (v : Int) : Bnd := (v, match P v with | some u => fullC P u | none => [])
noncomputable def bndsU (P : BM) (ks : List Int) : List Bnd := ks.map (bndU P)
theorem bnd_full {P : BM} {v : Int} {u g : Tr} (hP : P v = some u) (h : FullF P (.node (0, v, []) .nil .nil) g.fo) : bndU P v = (v, tcs g) := by
  have h1 := full_var h
  unfold bndU
  rw [h1]
  simp [putC, hP]
open Classical in
noncomputable def bindR (P : BM) (ks : List Int) : Option (List Bnd) := if ks.length ≤ 1000 ∧ ∀ v ∈ ks, (bndU P v).2.length ≤ 2000 then some (bndsU P ks) else none
def BndO (W0 : World) (P : BM) (ks : List Int) (e : Ending) (w' : World) : Prop := Below W0.heap.size W0 w' ∧ match bindR P ks with
  | none => e = .returned (.tuple #[.slice none 0 0, .int .i64 3])
  | some bs => ∃ p n c, e = .returned (.tuple #[.slice p n c, .int .i64 0]) ∧ OwnBB w' W0.heap.size w'.heap.size p n c bs
theorem row_base {w : World} {B B' s n : Nat} {e : TypeId} {v : Value} {xs : List Value} (h : w.ownsRow B e s v n xs) (hb : B' ≤ B) : w.ownsRow B' e s v n xs := ⟨h.1, h.2.imp id fun ⟨g, cap, cur, hv, hbg, rest⟩ => ⟨g, cap, cur, hv, Nat.le_trans hb hbg, rest⟩⟩
theorem OwnBB.wide {w : World} {B U U' B' : Nat} {p : Option Addr} {n c : Nat} {bs : List Bnd} (h : OwnBB w B U p n c bs) (hu : U ≤ U') (hB : B' ≤ B) : OwnBB w B' U' p n c bs := by
  obtain ⟨ds, h⟩ := h
  exact ⟨ds, h.len, h.dlen, row_base h.row hB, h.item, fun i hi => ⟨by have := (h.low i hi).1; omega, by have := (h.low i hi).2; omega⟩, h.away, h.apart, fun g hg => by have := h.top g hg; omega⟩
end Go.Proofs.YtaakpdakeolgeaaGreat

namespace Go.Proofs.YtaakpdakeolgeaaGreat
open Go Go.RowKit
set_option linter.unusedVariables false
def AOf (p : Option Addr) (n c : Nat) (a : Nat) : Prop := Value.ownBlock (.slice p n c) = some a
set_option maxRecDepth 100000 in
set_option maxHeartbeats 2000000 in
theorem bindings_any (W0 : World) (Bt : Nat) (P : BM) (E : List (Int × Value)) (b ub : Nat) (w : World) (hu : USt W0 Bt P E b ub [] w) (hwf : WfU P) (hPok : ∀ x u, P x = some u → u.fo.ok ∧ (tcs u).length ≤ 2000) (hEl : E.length ≤ 20000) (hrng : ∀ x, (look E x).isSome = true → 0 ≤ x ∧ x ≤ 1000000) :
    Calls Tryz.prog 29 #[.pointer (some ⟨ub, 0, none⟩)] w fun e w' => ∃ ks, AscK E ks ∧ BndO W0 P ks e w' := by
  obtain ⟨r, hac⟩ := hwf.acyc
  obtain ⟨D, hown, hsz, hhas, hat⟩ := id hu.bnd
  obtain ⟨ks0, hks0⟩ : ∃ ks, AscK E ks := ⟨_, asc_of hown hsz hhas (List.Perm.refl _)⟩
  have c0 := hu.ubc
  by_cases hbig : 1000 < E.length
  · have HF : Hid (∃ ks, AscK E ks ∧ BndO W0 P ks (.returned (.tuple #[.slice none 0 0, .int .i64 3])) w) := ⟨ks0, hks0, hu.low, by
      have : bindR P ks0 = none := by
        unfold bindR
        rw [if_neg (fun h => by have := h.1; have := hks0.2.2; omega)]
      rw [this]⟩
    have hL : (1000 : Int) < (E.length : Int) := by omega
    obtain ⟨L, eL⟩ : ∃ L, L = E.length := ⟨_, rfl⟩
    rw [← eL] at hL hsz
    clear hu hwf hPok hEl hrng hac hks0 hbig hhas hat eL
    go_enter Tryz.func29, Tryz.ntmps29
    go_wp2_with (at_len; refine wpList_len_own _ rfl _ 88 rfl 63 57 Tryz.underlying88 _ b E.length D rfl hown ?_; rw [hsz])
    go_ret2
    exact HF.out
  · have hL : ((E.length : Nat) : Int) ≤ 1000 := by omega
    have HKC := keysC (some b) w
    have HSC := sortedC b E.length E w hu.bnd (by omega)
    obtain ⟨s, hsb, hs0, hsc, hsm⟩ := hu.slv
    have HSV : Hid (SV W0 P E b s ub (fun _ => False) [] w) := ⟨hu.low, hu.ubc, hsc, hu.bnd, hsm, fun x sv h => by simp [look] at h, fun a h => h.elim, by
      have : uns (E.map Prod.fst) [] ≤ (E.map Prod.fst).length := List.length_filter_le _ _
      simp only [List.length_map, List.length_nil] at this ⊢
      omega, hs0, fun e => hsb e.symm⟩
    have HSOL : Hid (∀ x A ES W, 0 ≤ x ∧ x ≤ 1000000 → SV W0 P E b s ub A ES W → Calls Tryz.prog 62 #[.pointer (some ⟨ub, 0, none⟩), .int .i64 x] W (SolOut W0 P E b s ub A x W)) := fun x A ES W hx hsv => solve_any W0 Bt P E b s ub r hwf hu.bmi hPok hac (r x + 1) x A ES W (Nat.lt_succ_self _) hx hsv
    have HRNG : Hid (∀ x, (look E x).isSome = true → (0 ≤ x ∧ x ≤ 1000000) ∧ ∃ u, P x = some u) := fun x hx => ⟨hrng x hx, by
      cases hP : P x with
      | none => rw [hu.bmi.2 x hP] at hx; cases hx
      | some u => exact ⟨u, rfl⟩⟩
    have HPOK : Hid ((∀ x u, P x = some u → u.fo.ok)) := fun x u h => (hPok x u h).1
    have HW0 : Hid (W0.heap.size ≤ w.heap.size ∧ s < w.heap.size) := ⟨hu.low.size, hsm.lt⟩
    have HEL : Hid (E.length ≤ 1000) := by show E.length ≤ 1000; omega
    obtain ⟨L, eL⟩ : ∃ L, L = E.length := ⟨_, rfl⟩
    have HLE : Hid (L = E.length) := eL
    rw [← eL] at hL hsz
    clear hu hwf hPok hEl hrng hac hks0 hbig hhas hat eL hsb hs0 hsc hsm
    go_enter Tryz.func29, Tryz.ntmps29
    go_wp2_with (at_len; refine wpList_len_own _ rfl _ 88 rfl 63 57 Tryz.underlying88 _ b E.length D rfl hown ?_; rw [hsz])
    refine HKC.mono ?_
    rintro e w1 ⟨rfl, rfl⟩
    go_wp2_with fail
    refine HSC.mono ?_
    rintro e w2 ⟨v, ks, rfl, hasc, hrow, hb2⟩
    obtain ⟨qk, ck, hv⟩ : ∃ q c, v = .slice q ks.length c := by
      rcases hrow.2 with ⟨h', h2⟩ | ⟨g', cap', cur, hv, _⟩
      · rw [h']; exact ⟨none, 0, by rw [h2]⟩
      · exact ⟨_, _, hv⟩
    subst hv
    obtain ⟨Lk, eLk⟩ : ∃ Lk, Lk = ks.length := ⟨_, rfl⟩
    have HLK : Hid (Lk = ks.length) := eLk
    have hLk : Lk ≤ 1000 := by have := hasc.2.2; have := HEL.out; omega
    have HASC : Hid (AscK E ks) := hasc
    have HB2 : Hid (Below w.heap.size w w2) := hb2
    have HKC2 : Hid (∀ j, j < ks.length → ∃ gk, qk = some ⟨gk, 0, none⟩ ∧ w2.cell? ⟨gk, j, none⟩ = some (.int .i64 (ks.getD j 0))) := fun j hj => by
      obtain ⟨gk, cap, hv, _⟩ := hrow.form (by omega)
      simp only [Value.slice.injEq] at hv
      refine ⟨gk, hv.1, ?_⟩
      have h9 := hrow
      rw [hv.1] at h9
      rw [h9.cellAt j (by omega)]
      simp [List.getD, hj]
    have HSV2 : Hid (∃ ES, SV W0 P E b s ub (AOf none 0 0) ES w2) := ⟨[], (HSV.out.fresh hb2).move (HSV.out.fresh hb2).low rfl rfl rfl (fun p v _ hv => ⟨fun h => by simp [AOf, Value.ownBlock] at h, hv⟩) (Nat.le_refl _) (fun a h => by simp [AOf, Value.ownBlock] at h)⟩
    have HSB : Hid (s < w2.heap.size ∧ W0.heap.size ≤ w2.heap.size) := ⟨by have := HW0.out.2; have := hb2.size; omega, by have := HW0.out.1; have := hb2.size; omega⟩
    rw [← eLk]
    clear hasc hrow hb2 HKC HSC eLk HSV
    go_wp2_with fail
    go_loopw [4, 21] (fun al i wr => ∃ (j n c : Nat) (p : Option Addr), j ≤ Lk ∧ n ≤ 1000 ∧ al = .slice p n c ∧ i = .int .i64 j ∧ Hid (n = j) ∧ Hid (OwnBB wr w2.heap.size wr.heap.size p n c (bndsU P (ks.take j))) ∧ Hid (∃ ES, SV W0 P E b s ub (AOf p n c) ES wr) ∧ Hid (w2.grownBy wr (some s)) ∧ Hid (∀ v ∈ ks.take j, (bndU P v).2.length ≤ 2000)) (fun _ i _ => Lk - (intOf i).toNat)
    case atStart => exact ⟨0, 0, 0, none, Nat.zero_le _, Nat.zero_le _, rfl, rfl, rfl, OwnBB.nil _ _ _, HSV2, .refl _ _, fun v hv => by simp at hv⟩
    case round =>
      obtain ⟨j, n, c, p, hj, hn, rfl, rfl, HNJ, HOB, HSVr, HG, HSM⟩ := hrel
      obtain ⟨ES, hsv⟩ := HSVr.out
      by_cases hlt : j < Lk
      · have hjk : j < ks.length := by have := HLK.out; omega
        obtain ⟨gk, rfl, hck⟩ := HKC2.out j hjk
        have hck2 : wr.cell? ⟨gk, j, none⟩ = some (.int .i64 (ks.getD j 0)) := by
          have hne : gk ≠ s := fun e => by
            obtain ⟨ES2, h2⟩ := HSV2.out
            exact cell_map_ne hck h2.sol e
          exact cell_grown hck HG.out hne
        have hmem : ks.getD j 0 ∈ ks := by simp [List.getD, hjk]
        have HTK : Hid (ks.take (j + 1) = ks.take j ++ [ks.getD j 0]) := by
          show _ = _
          rw [List.take_add_one, List.getElem?_eq_getElem hjk]
          simp [List.getD, hjk]
        obtain ⟨hxr, u, hPu⟩ := HRNG.out _ ((HASC.out.2.1 _).1 hmem)
        obtain ⟨x, ex⟩ : ∃ x, x = ks.getD j 0 := ⟨_, rfl⟩
        rw [← ex] at hck2 hxr hPu HTK hmem
        have HS := HSOL.out x _ ES wr hxr hsv
        have HX : Hid (P x = some u ∧ x ∈ ks) := ⟨hPu, hmem⟩
        have HSV0 : Hid (SV W0 P E b s ub (AOf p n c) ES wr) := hsv
        clear hck hxr hPu ex hsv hmem
        go_wp2_with fail
        refine HS.mono ?_
        rintro e w3 ⟨g, t, y, rfl, hfull, hfa, ⟨ES3, hsv3⟩, hg3⟩
        have HBU : Hid (bndU P x = (x, tcs g)) := bnd_full HX.out.1 hfull
        have HGOK : Hid g.fo.ok := hfull.okF HPOK.out (by
          have := hfull
          refine ⟨?_, fun z hz => by simp at hz, fun h => by simp at h, fun _ => rfl, trivial, trivial⟩
          have hx2 := HRNG.out x ((HASC.out.2.1 _).1 HX.out.2)
          simp [cellB]
          exact hx2.1)
        obtain ⟨w4, e4⟩ : ∃ w4, w4 = w3.alloc (.cells #[.iface t y, .int .i64 ((min (tcs g).length 2001 : Nat) : Int)] 107) := ⟨_, rfl⟩
        have hB4 : Below w3.heap.size w3 w4 := by rw [e4]; exact (Below.refl _ _).alloc (Nat.le_refl _) _
        have HSV4 : Hid (SV W0 P E b s ub (AOf p n c) ES3 w4) := hsv3.fresh hB4
        have HG4 : Hid (w2.grownBy w4 (some s)) := (HG.out.andThen hg3 (fun j hj => .inr hj)).andThen (grown_of_below hB4) (fun j hj => .inr hj)
        have HOB4 : Hid (OwnBB w4 w2.heap.size w4.heap.size p n c (bndsU P (ks.take j))) := by
          obtain ⟨ds, hd⟩ := HOB.out
          have h1 : OwnBB w4 w2.heap.size wr.heap.size p n c (bndsU P (ks.take j)) := ⟨ds, hd.other (Nat.le_trans hg3.size hB4.size) (fun k hk h2 h3 => (hB4.block k (Nat.lt_of_lt_of_le hk hg3.size)).trans (hg3.block k hk (fun e => by have := Option.some.inj e; have := HSB.out.1; omega)))⟩
          exact h1.wide (Nat.le_trans hg3.size hB4.size) (Nat.le_refl _)
        have hf4 : FoIn w4 0 g.fo [.iface t y] := (hfa.fresh hB4).foIn
        have hzc : ((min (tcs g).length 2001 : Nat) : Int) ≤ 2001 := by omega
        by_cases hlen : (tcs g).length ≤ 2000
        · have hcmp : ((min (tcs g).length 2001 : Nat) : Int) ≤ 2000 := by omega
          have HCO := cellsOf_any g.1 g.2 (.iface t y) 0 w4 HGOK.out hf4 (by simp only [tcs, List.length_cons] at hlen; omega)
          obtain ⟨z, ez⟩ : ∃ z, z = ((min (tcs g).length 2001 : Nat) : Int) := ⟨_, rfl⟩
          have HLG : Hid ((tcs g).length ≤ 2000) := hlen
          unfold solV
          rw [← ez] at e4 hcmp hzc ⊢
          have hw4 : w2.heap.size ≤ w4.heap.size := HG4.out.size
          have HW4 : Hid (w2.heap.size ≤ w4.heap.size) := hw4
          have hnl : n + 1 ≤ 1000 := by have := HNJ.out; omega
          rw [e4] at HCO
          clear hfull hfa hsv3 hg3 hB4 hf4 HS hlen ez hck2
          go_wp2_with fail
          refine HCO.mono ?_
          rw [← e4]
          rintro e w5 ⟨q5, m5, c5, rfl, hoc, hb5⟩
          have HOC : Hid (OwnC w5 w4.heap.size q5 m5 c5 (g.1 :: g.2.cells)) := hoc
          have HB5 : Hid (Below w4.heap.size w4 w5) := hb5
          clear hoc hb5 HCO
          go_wp2_with (at_builtin; refine app_bnd w4 _ rfl _ _ rfl w2.heap.size p n c _ x rfl HOB4.out HB5.out HW4.out q5 m5 c5 _ HOC.out rfl (by omega) ?_; intro g6 n6 cap6 w6 hown6 hb6 hn6 hg6 hat6)
          have HO6 : Hid (OwnBB w6 w2.heap.size w6.heap.size (some ⟨g6, 0, none⟩) n6 cap6 (bndsU P (ks.take (j + 1)))) := by
            have e : bndsU P (ks.take (j + 1)) = bndsU P (ks.take j) ++ [(x, g.1 :: g.2.cells)] := by
              rw [HTK.out]
              unfold bndsU
              rw [List.map_append, List.map_singleton, HBU.out]
              rfl
            rw [e]; exact hown6
          have hsv5 := HSV4.out.fresh HB5.out
          have hal : Below w5.heap.size w5 (w5.alloc (.cells #[.int .i64 x, .slice q5 m5 c5] 33)) := (Below.refl _ _).alloc (Nat.le_refl _) _
          have hsvA := hsv5.fresh hal
          have hob : ∀ k, Value.ownBlock (.slice p n c) = some k → w2.heap.size ≤ k := fun k hk => by
            obtain ⟨ds, hd⟩ := HOB4.out
            exact (hd.row.lt k hk).1
          have hlo : ∀ k, k < w2.heap.size → w6.heap[k]? = (w5.alloc (.cells #[.int .i64 x, .slice q5 m5 c5] 33)).heap[k]? := fun k hk => hg6.block k (by have := HW4.out; have := HB5.out.size; simp; omega) (fun e => by have := hob k e.symm; omega)
          have hl2 : b < w2.heap.size ∧ ub < w2.heap.size := by
            obtain ⟨ES2, h2⟩ := HSV2.out
            exact ⟨h2.bnd.lt, World.block_lt_of_cell? _ _ h2.ubc⟩
          have HS6 : Hid (∃ ES, SV W0 P E b s ub (AOf (some ⟨g6, 0, none⟩) n6 cap6) ES w6) := by
            refine ⟨ES3, hsvA.move ?_ (hlo b hl2.1) (hlo s HSB.out.1) (hlo ub hl2.2) (fun p0 v0 hp0 hv0 => ?_) hg6.size (fun a ha => ?_)⟩
            · exact hsvA.low.grown hg6 hsvA.low.size (fun k e => by have := hob k e; have := HSB.out.2; omega)
            · have hlt0 := World.block_lt_of_cell? _ _ hv0
              refine ⟨fun ha => ?_, ?_⟩
              · have e6 : g6 = p0.block := by simpa [AOf, Value.ownBlock] using ha
                rcases hat6 with h' | h'
                · exact hp0 (by unfold AOf; rw [h', e6])
                · simp at hlt0
                  omega
              · exact (World.cell?_of_block (hg6.block p0.block hlt0 (fun e => hp0 e.symm))).trans hv0
            · have e6 : g6 = a := by simpa [AOf, Value.ownBlock] using ha
              obtain ⟨ds, hd⟩ := hown6
              have := hd.row.lt g6 rfl
              have := HSB.out.2
              omega
          have HG6 : Hid (w2.grownBy w6 (some s)) := by
            have h1 := (HG4.out.andThen (grown_of_below (s := s) HB5.out) (fun j hj => .inr hj)).andThen (grown_of_below (s := s) hal) (fun j hj => .inr hj)
            exact ⟨hg6.os.trans h1.os, hg6.tape.trans h1.tape, hg6.output.trans h1.output, Nat.le_trans h1.size hg6.size, fun k hk hne => (hlo k hk).trans (h1.block k hk hne)⟩
          have HM6 : Hid (∀ v ∈ ks.take (j + 1), (bndU P v).2.length ≤ 2000) := fun v hv => by
            rw [HTK.out] at hv
            rcases List.mem_append.1 hv with hv | hv
            · exact HSM.out v hv
            · rw [List.mem_singleton.1 hv, HBU.out]; exact HLG.out
          have HN6 : Hid (n6 = j + 1) := by have := hn6.out; have := HNJ.out; show n6 = j + 1; omega
          have hn6b : n6 ≤ 1000 := by have := hn6.out; omega
          clear hown6 hb6 hn6 hg6 hat6 hsv5 hal hsvA hob hlo hl2 HOC HB5
          go_wp2_with fail
          go_roundw
          case rel => exact ⟨j + 1, n6, cap6, _, by omega, hn6b, rfl, by go_num, HN6, HO6, HS6, HG6, HM6⟩
          case measure => simp [intOf]; omega
        · have hcmp : (2000 : Int) < ((min (tcs g).length 2001 : Nat) : Int) := by omega
          have HF : Hid (∃ ks, AscK E ks ∧ BndO W0 P ks (.returned (.tuple #[.slice none 0 0, .int .i64 3])) w4) := ⟨ks, HASC.out, HSV4.out.low, by
            have : bindR P ks = none := by
              unfold bindR
              rw [if_neg (fun h => by
                have := h.2 x HX.out.2
                rw [HBU.out] at this
                exact hlen this)]
            rw [this]⟩
          obtain ⟨z, ez⟩ : ∃ z, z = ((min (tcs g).length 2001 : Nat) : Int) := ⟨_, rfl⟩
          unfold solV
          rw [← ez] at e4 hcmp hzc ⊢
          clear hfull hfa hsv3 hg3 hB4 hf4 HS hlen ez hck2
          subst e4
          go_wp2_with fail
          go_ret2
          exact HF.out
      · obtain rfl : j = Lk := by omega
        have HF : Hid (∃ ks, AscK E ks ∧ BndO W0 P ks (.returned (.tuple #[.slice p n c, .int .i64 0])) wr) := by
          have ht : ks.take j = ks := by rw [HLK.out, List.take_length]
          have hob := HOB.out
          have hsm := HSM.out
          rw [ht] at hob hsm
          refine ⟨ks, HASC.out, hsv.low, ?_⟩
          have : bindR P ks = some (bndsU P ks) := by
            unfold bindR
            rw [if_pos ⟨by have := HLK.out; omega, hsm⟩]
          rw [this]
          exact ⟨p, n, c, rfl, hob.wide (Nat.le_refl _) HSB.out.2⟩
        clear hsv
        go_wp2_with fail
        go_ret2
        exact HF.out
end Go.Proofs.YtaakpdakeolgeaaGreat

