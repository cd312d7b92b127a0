/- Texts of BBS, MarkOA, OArgT, OpsZ. Own work of the verifier. -/
import Derived.Test.YtjhbplgppakhoaaGreatDoorUqbd
import Derived.Test.YtjhbplgppakhoaaGreatDoorUqag
import Derived.Test.YtjhbplgppakhoaaGreatDoorUqap
import Derived.Test.YtjhbplgppakhoaaGreatDoorUqak
import Derived.Test.YtjhbplgppakhoaaGreatDoorUqab
import Derived.Test.YtjhbplgppakhoaaGreatDoorUqaq
import Derived.Test.YtjhbplgppakhoaaGreatDoorUqat
import Derived.Test.YtjhbplgppakhoaaGreatDoorUqah
namespace Go.Proofs.YtjhbplgppakhoaaGreatDoor
open Go Go.RowKit
set_option linter.unusedVariables false
structure NArg (w : World) (p : Option Addr) (N : List (List Int)) : Prop where
  lies : NIn w p N
  len : N.length ≤ 9223372036854775807
  item : ∀ i, i < N.length → (N.getD i []).length ≤ 9223372036854775807 ∧ Byte (N.getD i [])
theorem NArg.below {W W' : World} {p : Option Addr} {N : List (List Int)} (h : NArg W p N) (hb : Below W.heap.size W W') : NArg W' p N := ⟨h.lies.below hb, h.len, h.item⟩
def rowN (gs : List Nat) (N : List (List Int)) (k : Nat) : List Value := (List.range N.length).map fun i => if i < k then .slice (some ⟨gs.getD i 0, 0, none⟩) (N.getD i []).length (N.getD i []).length else .slice none 0 0
structure OwnNN (w : World) (B U g : Nat) (N : List (List Int)) (gs : List Nat) : Prop where
  len : gs.length = N.length
  row : w.ownsRow B 28 1 (.slice (some ⟨g, 0, none⟩) N.length N.length) N.length (rowN gs N N.length)
  item : ∀ i, i < N.length → OwnS w B (some ⟨gs.getD i 0, 0, none⟩) (N.getD i []).length (N.getD i []).length (N.getD i [])
  up : ∀ i, i < N.length → g < gs.getD i 0 ∧ gs.getD i 0 < U
  apart : ∀ i j, i < j → j < N.length → gs.getD i 0 < gs.getD j 0
theorem ownS_block {w w' : World} {B g n c : Nat} {ys : List Int} (h : OwnS w B (some ⟨g, 0, none⟩) n c ys) (hb : w'.heap[g]? = w.heap[g]?) : OwnS w' B (some ⟨g, 0, none⟩) n c ys := by
  refine ⟨h.1, h.2.1, ?_⟩
  rcases h.2.2 with h0 | ⟨g', cap, cur, hv, hg, hh, r⟩
  · exact .inl h0
  · have e : g' = g := by injection hv with h1; injection h1 with h2; injection h2 with h3; exact h3.symm
    subst e
    exact .inr ⟨g', cap, cur, hv, hg, hb.trans hh, r⟩
theorem rowNN_block {w w' : World} {B g n c : Nat} {e : TypeId} {vs : List Value} (h : w.ownsRow B e 1 (.slice (some ⟨g, 0, none⟩) n c) n vs) (hb : w'.heap[g]? = w.heap[g]?) : w'.ownsRow B e 1 (.slice (some ⟨g, 0, none⟩) n c) n vs := by
  refine ⟨h.1, ?_⟩
  rcases h.2 with h0 | ⟨g', cap, cur, hv, hg, hh, r⟩
  · exact .inl h0
  · have e : g' = g := by injection hv with h1; injection h1 with h2; injection h2 with h3; exact h3.symm
    subst e
    exact .inr ⟨g', cap, cur, hv, hg, hb.trans hh, r⟩
theorem ownS_lt {w : World} {B g n c : Nat} {ys : List Int} (h : OwnS w B (some ⟨g, 0, none⟩) n c ys) : B ≤ g ∧ g < w.heap.size := h.2.lt g rfl
theorem OwnNN.below {w w' : World} {B U g : Nat} {N : List (List Int)} {gs : List Nat} (h : OwnNN w B U g N gs) (hb : Below w.heap.size w w') : OwnNN w' B U g N gs :=
  ⟨h.len, rowNN_block h.row (hb.block g (h.row.lt g rfl).2), fun i hi => ownS_block (h.item i hi) (hb.block _ (ownS_lt (h.item i hi)).2), h.up, h.apart⟩
end Go.Proofs.YtjhbplgppakhoaaGreatDoor

namespace Go.Proofs.YtjhbplgppakhoaaGreatDoor
open Go Go.RowKit
set_option linter.unusedVariables false
def OwnOU (w : World) (B U : Nat) (p : Option Addr) (n c : Nat) (cs : List Cel) : Prop :=
  n = cs.length ∧ ∃ rs : List RC, rs.length = cs.length ∧ w.ownsRow B 69 3 (.slice p n c) n (flatO rs) ∧ (∀ i, i < cs.length → Fits w B (rs.getD i RC.zero) (cs.getD i Cel.none)) ∧ ApartC p rs ∧
    (∀ k, Value.ownBlock (.slice p n c) = some k → k < U) ∧ (∀ i, i < cs.length → ∀ k, tb (rs.getD i RC.zero).2.2.1 (rs.getD i RC.zero).2.2.2.1 = some k → k < U)
theorem OwnOU.toO {w : World} {B U : Nat} {p : Option Addr} {n c : Nat} {cs : List Cel} (h : OwnOU w B U p n c cs) : OwnO w B p n c cs := by
  obtain ⟨hn, rs, hl, hr, hf, ha, _⟩ := h
  exact ⟨hn, rs, hl, hr, hf, ha⟩
theorem OwnO.up {w : World} {B : Nat} {p : Option Addr} {n c : Nat} {cs : List Cel} (h : OwnO w B p n c cs) : OwnOU w B w.heap.size p n c cs := by
  obtain ⟨hn, rs, hl, hr, hf, ha⟩ := h
  exact ⟨hn, rs, hl, hr, hf, ha, fun k hk => (hr.lt k hk).2, fun i hi k hk => ((hf i hi).2.2.tb hk).2.2⟩
theorem OwnOU.other {w w' : World} {B U : Nat} {p : Option Addr} {n c : Nat} {cs : List Cel} (h : OwnOU w B U p n c cs) (hs : w.heap.size ≤ w'.heap.size) (hb : ∀ k, k < w.heap.size → B ≤ k → k < U → w'.heap[k]? = w.heap[k]?) : OwnOU w' B U p n c cs := by
  obtain ⟨hn, rs, hl, hr, hf, ha, hu, ht⟩ := h
  refine ⟨hn, rs, hl, ⟨hr.1, ?_⟩, fun i hi => ⟨(hf i hi).1, (hf i hi).2.1, (hf i hi).2.2.other hs (fun g hn0 e => ?_)⟩, ha, hu, ht⟩
  · rcases hr.2 with h' | ⟨g, cap, cur, hv, hB, hg, r⟩
    · exact .inl h'
    · refine .inr ⟨g, cap, cur, hv, hB, (hb g (Array.getElem?_eq_some_iff.1 hg).1 hB (hu g ?_)).trans hg, r⟩
      simp only [Value.slice.injEq] at hv
      rw [hv.1]; rfl
  · have e' : Go.Proofs.YtjhbplgppakhoaaGreatDoor.tb (rs.getD i RC.zero).2.2.1 (rs.getD i RC.zero).2.2.2.1 = some g := by rw [e]; exact tb_of hn0
    have := (hf i hi).2.2.tb e'
    exact hb g this.2.2 this.2.1 (ht i hi g e')
theorem OwnOU.below {w w' : World} {B U : Nat} {p : Option Addr} {n c : Nat} {cs : List Cel} (h : OwnOU w B U p n c cs) (hb : Below w.heap.size w w') : OwnOU w' B U p n c cs := h.other hb.size (fun k hk _ _ => hb.block k hk)
theorem OwnOU.keep {w w' : World} {B U B' U' : Nat} {p : Option Addr} {n c : Nat} {cs : List Cel} (h : OwnOU w B U p n c cs) (hk : Keep B' U' w w') (ho : U ≤ B' ∨ U' ≤ B) : OwnOU w' B U p n c cs := h.other hk.size (fun k h1 h2 h3 => hk.block k h1 (by omega))
def markedO (k : Int) (cs : List Cel) (j : Nat) : Cel := (kAt k cs j + (cs.getD j Cel.none).2.2.length, kAt k cs j + (cs.getD j Cel.none).2.2.length + 1, marks (kAt k cs j) (cs.getD j Cel.none).2.2.length)
def mixO (k : Int) (cs : List Cel) (j : Nat) : List Cel := (List.range cs.length).map fun i => if i < j then markedO k cs i else cs.getD i Cel.none
theorem mixO_len (k : Int) (cs : List Cel) (j : Nat) : (mixO k cs j).length = cs.length := by simp [mixO]
theorem mixO_at (k : Int) (cs : List Cel) (j i : Nat) (h : i < cs.length) : (mixO k cs j).getD i Cel.none = if i < j then markedO k cs i else cs.getD i Cel.none := by
  simp [mixO, List.getD, h]
theorem mixO_zero (k : Int) (cs : List Cel) : mixO k cs 0 = cs := same_cells (mixO_len ..) (fun j hj => by rw [mixO_at _ _ _ _ (by rw [mixO_len] at hj; exact hj), if_neg (Nat.not_lt_zero _)])
theorem mixO_succ (k : Int) (cs : List Cel) (j : Nat) (h : j < cs.length) : mixO k cs (j + 1) = (mixO k cs j).set j (markedO k cs j) := same_cells (by simp [mixO]) (fun i hi => by
  rw [mixO_len] at hi
  rw [mixO_at _ _ _ _ hi, cs_set_at _ _ _ _ (by rw [mixO_len]; exact h)]
  by_cases e : i = j
  · subst e; rw [if_pos (by omega), if_pos rfl]
  · rw [if_neg e, mixO_at _ _ _ _ hi]
    by_cases e2 : i < j
    · rw [if_pos e2, if_pos (by omega)]
    · rw [if_neg e2, if_neg (by omega)])
theorem flatO_set2 : ∀ (rs : List RC) (i : Nat) (a b : Int), i < rs.length → ((flatO rs).set (i * 3 + 1) (.int .i64 a)).set (i * 3 + 2) (.int .i64 b) = flatO (rs.set i (a, b, (rs.getD i RC.zero).2.2))
  | [], i, a, b, h => by simp at h
  | x :: rs, 0, a, b, _ => by simp [flatO_cons]
  | x :: rs, i + 1, a, b, h => by
    have := flatO_set2 rs i a b (by simpa using h)
    rw [flatO_cons, show (i + 1) * 3 + 1 = (i * 3 + 1) + 1 + 1 + 1 by omega, show (i + 1) * 3 + 2 = (i * 3 + 2) + 1 + 1 + 1 by omega]
    simp only [List.set_cons_succ, this]
    rfl
theorem markO_one {w w3 : World} {B U g n c j : Nat} {ds : List Cel} {rs : List RC} (hn : n = ds.length) (hl : rs.length = ds.length) (hr : w.ownsRow B 69 3 (.slice (some ⟨g, 0, none⟩) n c) n (flatO rs)) (hf : ∀ i, i < ds.length → Fits w B (rs.getD i RC.zero) (ds.getD i Cel.none))
    (ha : ApartC (some ⟨g, 0, none⟩) rs) (hu : g < U) (ht : ∀ i, i < ds.length → ∀ k, tb (rs.getD i RC.zero).2.2.1 (rs.getD i RC.zero).2.2.2.1 = some k → k < U) (hj : j < ds.length) (a b : Int) (ms : List Int)
    (ho : OwnT w3 B (rs.getD j RC.zero).2.2.1 (rs.getD j RC.zero).2.2.2.1 (rs.getD j RC.zero).2.2.2.2 ms)
    (hg : w.grownBy w3 (tb (rs.getD j RC.zero).2.2.1 (rs.getD j RC.zero).2.2.2.1)) :
    OwnOU ((w3.setCell ⟨g, j * 3 + 1, none⟩ (.int .i64 a)).setCell ⟨g, j * 3 + 2, none⟩ (.int .i64 b)) B U (some ⟨g, 0, none⟩) n c (ds.set j (a, b, ms)) ∧ Keep B U w ((w3.setCell ⟨g, j * 3 + 1, none⟩ (.int .i64 a)).setCell ⟨g, j * 3 + 2, none⟩ (.int .i64 b)) := by
  have hgB := (hr.lt g rfl)
  have hnrow : ∀ i, i < ds.length → tb (rs.getD i RC.zero).2.2.1 (rs.getD i RC.zero).2.2.2.1 ≠ some g := fun i hi e => by
    have h1 := (hf i hi).2.2.tb e
    exact ha.1 i (by omega) (tb_some e).1 h1.1
  have hr3 := hr.kept hg (.inr (fun e => hnrow j hj e.symm))
  have h2 := ((hr3.stored (j * 3 + 1) (.int .i64 a)).1.stored (j * 3 + 2) (.int .i64 b)).1
  rw [flatO_set2 rs j a b (by omega)] at h2
  have hat : ∀ i, ((rs.set j (a, b, (rs.getD j RC.zero).2.2)).getD i RC.zero).2.2 = (rs.getD i RC.zero).2.2 := fun i => by
    rw [rs_set_at _ _ _ _ (by omega)]
    by_cases e : i = j
    · rw [if_pos e, e]
    · rw [if_neg e]
  refine ⟨⟨by simpa using hn, rs.set j (a, b, (rs.getD j RC.zero).2.2), by simpa using hl, h2, fun i hi => ?_, ⟨fun i hi => ?_, fun i i' hi hi' hne => ?_⟩, fun k hk => ?_, fun i hi k hk => ?_⟩, ?_⟩
  · have hi' : i < ds.length := by simpa using hi
    rw [cs_set_at _ _ _ _ hj, rs_set_at _ _ _ _ (by omega)]
    by_cases e : i = j
    · rw [if_pos e, if_pos e]
      exact ⟨rfl, rfl, (ho.setCell (a := ⟨g, j * 3 + 1, none⟩) (fun hp e' => ha.1 j (by omega) hp e') _).setCell (a := ⟨g, j * 3 + 2, none⟩) (fun hp e' => ha.1 j (by omega) hp e') _⟩
    · rw [if_neg e, if_neg e]
      obtain ⟨q0, q1, q2⟩ := hf i hi'
      have q3 := q2.other hg.size (fun k hp e' => by
        have hk := (q2.tb (e' ▸ tb_of hp)).2.2
        refine hg.block k (by simpa using hk) (fun e2 => ?_)
        have h5 := (hf j hj).2.2.tb e2.symm
        exact ha.2 i j (by omega) (by omega) e hp (tb_some e2.symm).1 (by rw [e', h5.1]))
      exact ⟨q0, q1, (q3.setCell (a := ⟨g, j * 3 + 1, none⟩) (fun hp e' => ha.1 i (by omega) hp e') _).setCell (a := ⟨g, j * 3 + 2, none⟩) (fun hp e' => ha.1 i (by omega) hp e') _⟩
  · rw [hat]; exact ha.1 i (by simpa using hi)
  · rw [hat, hat]; exact ha.2 i i' (by simpa using hi) (by simpa using hi') hne
  · have : k = g := (Option.some.inj hk).symm
    omega
  · rw [hat] at hk
    exact ht i (by simpa using hi) k hk
  · refine Keep.trans (Keep.of_grown hg (fun k e => ⟨((hf j hj).2.2.tb e).2.1, ht j hj k e⟩)) (Keep.trans (b := w3.setCell ⟨g, j * 3 + 1, none⟩ (.int .i64 a)) ?_ ?_)
    · exact ⟨rfl, rfl, rfl, by simp, fun k _ hp => Below.heap_setCell _ _ _ _ (show k ≠ g by omega)⟩
    · exact ⟨rfl, rfl, rfl, by simp, fun k _ hp => Below.heap_setCell _ _ _ _ (show k ≠ g by omega)⟩
def markO (k : Int) (cs : List Cel) : List Cel := mixO k cs cs.length
def endO (k : Int) (cs : List Cel) : Int := kAt k cs cs.length
theorem markOps_any (B U : Nat) (p : Option Addr) (n c : Nat) (k : Int) (cs : List Cel) (w : World) (h0 : 0 ≤ k) (h1 : k ≤ 10000000) (hn : cs.length + tl cs ≤ 100000000) (hown : OwnOU w B U p n c cs) :
    Calls Tryz.prog 17 #[.slice p n c, .int .i64 k] w fun e w' => e = .returned (.int .i64 (endO k cs)) ∧ OwnOU w' B U p n c (markO k cs) ∧ Keep B U w w' := by
  have hnl := hown.1
  have HO : Hid (OwnOU w B U p n c cs) := hown
  clear hown
  have HNL : Hid (n = cs.length) := hnl
  clear hnl
  go_enter Tryz.func17, Tryz.ntmps17
  go_wp2
  go_loopw [1, 5] (fun q i wr => ∃ (j : Nat) (kj : Int), j ≤ n ∧ 0 ≤ kj ∧ kj ≤ 1000000000 ∧ i = .int .i64 j ∧ q = .int .i64 kj ∧ Hid (kj = kAt k cs j) ∧ Hid (OwnOU wr B U p n c (mixO k cs j)) ∧ Hid (Keep B U w wr)) (fun _ i _ => n - (intOf i).toNat)
  case atStart => exact ⟨0, k, Nat.zero_le _, h0, by omega, rfl, rfl, (kAt_zero _ _).symm, by rw [mixO_zero]; exact HO, Keep.refl _ _ _⟩
  case round =>
    obtain ⟨j, kj, hj, hk0, hk1, rfl, rfl, HK, HR, HG⟩ := hrel
    by_cases hlt : j < n
    · obtain ⟨hn1, rs, hl, hr, hf, ha, hu, ht⟩ := HR.out
      obtain ⟨g, cap, hv, hbg, hgs⟩ := hr.form (by omega)
      simp only [Value.slice.injEq, true_and] at hv
      obtain ⟨rfl, rfl⟩ := hv
      have hjl : j < cs.length := by rw [← HNL.out]; exact hlt
      rw [mixO_len] at hl hf ht
      obtain ⟨a0, a1, a2⟩ := flatO_at rs j (by omega)
      have d0 := (hr.cellAt (j * 3) (by omega)).trans a2
      have d1 := (hr.cellAt (j * 3 + 1) (by omega)).trans a0
      have d2 := (hr.cellAt (j * 3 + 2) (by omega)).trans a1
      have ff := hr.frozenAt
      obtain ⟨q0, q1, q2⟩ := hf j hjl
      have hlen : (rs.getD j RC.zero).2.2.2.1 = (cs.getD j Cel.none).2.2.length := by
        rw [q2.1, mixO_at _ _ _ _ hjl, if_neg (Nat.lt_irrefl j)]
      have htl := tl_at cs j hjl
      have HMARK := markT_any B (rs.getD j RC.zero).2.2.1 (rs.getD j RC.zero).2.2.2.1 (rs.getD j RC.zero).2.2.2.2 kj _ _ (by omega) (by omega) (by omega) q2
      have HNR : Hid (tb (rs.getD j RC.zero).2.2.1 (rs.getD j RC.zero).2.2.2.1 ≠ some g) := fun e => ha.1 j (by omega) (tb_some e).1 (q2.tb e).1
      have HONE : Hid (∀ w3 ms (a b : Int), OwnT w3 B (rs.getD j RC.zero).2.2.1 (rs.getD j RC.zero).2.2.2.1 (rs.getD j RC.zero).2.2.2.2 ms → wr.grownBy w3 (tb (rs.getD j RC.zero).2.2.1 (rs.getD j RC.zero).2.2.2.1) →
          OwnOU ((w3.setCell ⟨g, j * 3 + 1, none⟩ (.int .i64 a)).setCell ⟨g, j * 3 + 2, none⟩ (.int .i64 b)) B U (some ⟨g, 0, none⟩) n c ((mixO k cs j).set j (a, b, ms)) ∧ Keep B U wr ((w3.setCell ⟨g, j * 3 + 1, none⟩ (.int .i64 a)).setCell ⟨g, j * 3 + 2, none⟩ (.int .i64 b))) := fun w3 ms a b h1 h2 => markO_one hn1 (by rw [mixO_len]; exact hl) hr (by rw [mixO_len]; exact hf) ha (hu g rfl) (by rw [mixO_len]; exact ht) (by rw [mixO_len]; exact hjl) a b ms h1 h2
      have HS1 : Hid _ := kAt_succ k cs j hjl
      have HS2 : Hid _ := mixO_succ k cs j hjl
      have HLEN : Hid _ := hlen
      have hbound : kAt k cs (j + 1) ≤ 1000000000 := by have := tl_take_le cs (j + 1); simp only [kAt]; omega
      have HBD : Hid _ := hbound
      obtain ⟨tp, etp⟩ : ∃ x, x = (rs.getD j RC.zero).2.2.1 := ⟨_, rfl⟩
      obtain ⟨tn, etn⟩ : ∃ x, x = (rs.getD j RC.zero).2.2.2.1 := ⟨_, rfl⟩
      obtain ⟨tc, etc⟩ : ∃ x, x = (rs.getD j RC.zero).2.2.2.2 := ⟨_, rfl⟩
      obtain ⟨z1, ez1⟩ : ∃ x, x = (rs.getD j RC.zero).1 := ⟨_, rfl⟩
      obtain ⟨z2, ez2⟩ : ∃ x, x = (rs.getD j RC.zero).2.1 := ⟨_, rfl⟩
      rw [← etp, ← etn, ← etc] at HMARK d0 HONE
      rw [← etp, ← etn] at HNR
      rw [← ez1] at d1
      rw [← ez2] at d2
      rw [← etn] at HLEN hlen
      have htn : tn ≤ 100000000 := by omega
      have hgl : g < wr.heap.size := hgs
      clear etp etn etc ez1 ez2 hn1 hl hr hf ha hu ht a0 a1 a2 q0 q1 q2 hlen htl HR HO hbound hgs
      go_wp2_with fail
      refine HMARK.mono ?_
      rintro e w3 ⟨rfl, ho3, hg3⟩
      have hblk : w3.heap[g]? = wr.heap[g]? := hg3.block g hgl (fun e => HNR.out e.symm)
      have d0 := (World.cell?_of_block (w := wr) (w' := w3) (a := ⟨g, j * 3, none⟩) hblk).trans d0
      have d1 := (World.cell?_of_block (w := wr) (w' := w3) (a := ⟨g, j * 3 + 1, none⟩) hblk).trans d1
      have d2 := (World.cell?_of_block (w := wr) (w' := w3) (a := ⟨g, j * 3 + 2, none⟩) hblk).trans d2
      have ff : ∀ i, w3.frozen? ⟨g, i, none⟩ = false := fun i => (World.frozen?_of_block (w := wr) (w' := w3) (a := ⟨g, i, none⟩) hblk).trans (ff i)
      have HFIN : Hid _ := HONE.out w3 _ (kj + tn) (kj + tn + 1) ho3 hg3
      have hkb1 : kj + (tn : Int) ≤ 9000000000 := by omega
      have hkb0 : 0 ≤ kj + (tn : Int) := by omega
      clear ho3 hg3 hblk HMARK
      go_wp2_with fail
      have e1 := HS1.out
      have e2 := HS2.out
      have e3 := HK.out
      have e4 := HLEN.out
      have e5 := HBD.out
      have hfin := HFIN.out
      go_roundw
      case rel => exact ⟨j + 1, kj + tn + 1 + 1, by omega, by omega, by rw [e1] at e5; omega, by go_num, rfl, by show _ = _; rw [e1]; omega, by
        show OwnOU _ _ _ _ _ _ _
        rw [e2, markedO, ← e3, ← e4]
        exact hfin.1, HG.out.trans hfin.2⟩
      case measure => simp [intOf]; omega
    · obtain rfl : j = n := by omega
      go_wp2_with fail
      go_ret
      refine ⟨ret_int ?_, ?_, HG.out⟩
      · rw [HK.out, HNL.out]; rfl
      · have := HR.out
        rw [markO, ← HNL.out]
        exact this
end Go.Proofs.YtjhbplgppakhoaaGreatDoor

namespace Go.Proofs.YtjhbplgppakhoaaGreatDoor
open Go Go.RowKit
set_option linter.unusedVariables false
structure OArg (w : World) (p : Option Addr) (cs : List Cel) : Prop where
  lies : OIn w p cs
  len : cs.length ≤ 9223372036854775807
  text : ∀ i, i < cs.length → (cs.getD i Cel.none).2.2.length ≤ 9223372036854775807
  byte : ∀ i, i < cs.length → ∀ x ∈ (cs.getD i Cel.none).2.2, 0 ≤ x ∧ x < 256
  wide : ∀ i, i < cs.length → -9223372036854775808 ≤ (cs.getD i Cel.none).1 ∧ (cs.getD i Cel.none).1 ≤ 9223372036854775807 ∧ -9223372036854775808 ≤ (cs.getD i Cel.none).2.1 ∧ (cs.getD i Cel.none).2.1 ≤ 9223372036854775807
theorem OArg.below {W W' : World} {p : Option Addr} {cs : List Cel} (h : OArg W p cs) (hb : Below W.heap.size W W') : OArg W' p cs := ⟨h.lies.below hb, h.len, h.text, h.byte, h.wide⟩
end Go.Proofs.YtjhbplgppakhoaaGreatDoor

namespace Go.Proofs.YtjhbplgppakhoaaGreatDoor
open Go Go.RowKit
set_option linter.unusedVariables false
theorem szOp_any (k n : Int) (p : Option Addr) (m cap L : Nat) (w : World) (hL : L ≤ 1048576) (hn : m ≤ 9223372036854775807) :
    Calls Tryz.prog 28 #[.agg #[.slice p m cap, .int .i64 k, .int .i64 n], .int .i64 L] w fun e w' => e = .returned (.int .i64 (szR L m)) ∧ Below w.heap.size w w' := by
  by_cases h : m ≤ L
  · have e : szR L m = (L : Int) - m := by simp [szR, h]
    have HS := fun w => szByteS_any p m cap L w hL hn
    rw [e] at HS ⊢
    have h0 : ¬ ((L : Int) - m < 0) := by omega
    go_enter Tryz.func28, Tryz.ntmps28
    go_wp2_with (go_at_call 30; refine (HS _).mono ?_; rintro e w' ⟨rfl, rfl⟩)
    go_ret
    exact ⟨rfl, (Below.refl _ _).alloc (Nat.le_refl _) _⟩
  · have e : szR L m = -1 := by simp [szR, h]
    have HS := fun w => szByteS_any p m cap L w hL hn
    rw [e] at HS ⊢
    go_enter Tryz.func28, Tryz.ntmps28
    go_wp2_with (go_at_call 30; refine (HS _).mono ?_; rintro e w' ⟨rfl, rfl⟩)
    go_ret
    exact ⟨rfl, (Below.refl _ _).alloc (Nat.le_refl _) _⟩
theorem szOpS_any (p : Option Addr) (cap : Nat) (cs : List Cel) (L : Nat) (w : World) (hL : L ≤ 1048576) (hn : cs.length ≤ 9223372036854775807) (hm : ∀ i, i < cs.length → (cs.getD i Cel.none).2.2.length ≤ 9223372036854775807) (hc : OIn w p cs) :
    Calls Tryz.prog 5 #[.slice p cs.length cap, .int .i64 L] w fun e w' => e = .returned (.int .i64 (szR L (cs.length + tl cs))) ∧ Below w.heap.size w w' := by
  by_cases h : cs.length ≤ L
  · have h0 : ¬ ((L : Int) - cs.length < 0) := by omega
    go_enter Tryz.func5, Tryz.ntmps5
    go_wp2
    have HL : Hid (cs.length ≤ L) := h
    clear h h0
    go_loopw [1, 5] (fun l i wr => ∃ k : Nat, k ≤ cs.length ∧ i = .int .i64 k ∧ Hid (cs.length + tl (cs.take k) ≤ L) ∧ l = .int .i64 ((L : Int) - (cs.length + tl (cs.take k) : Nat)) ∧ Below w.heap.size w wr) (fun _ i _ => cs.length - (intOf i).toNat)
    case atStart => exact ⟨0, Nat.zero_le _, rfl, by simpa [tl, Hid] using HL.out, by simp [tl], Below.refl _ _⟩
    case round =>
      obtain ⟨k, hk, rfl, HT, rfl, hbr⟩ := hrel
      by_cases hlt : k < cs.length
      · obtain ⟨b, o, rfl, hcs⟩ := hc (by omega)
        obtain ⟨q, qc, h0, h1, h2, _⟩ := (hcs k hlt).below hbr
        have hmk := hm k hlt
        have htk : Hid _ := tl_take cs k hlt
        have htl : Hid _ := tl_take_le cs (k + 1)
        obtain ⟨c0, e0⟩ : ∃ x, x = (cs.getD k Cel.none).1 := ⟨_, rfl⟩
        obtain ⟨c1, e1⟩ : ∃ x, x = (cs.getD k Cel.none).2.1 := ⟨_, rfl⟩
        obtain ⟨m, em⟩ : ∃ x, x = (cs.getD k Cel.none).2.2.length := ⟨_, rfl⟩
        rw [← e0] at h0
        rw [← e1] at h1
        rw [← em] at h2 hmk htk
        obtain ⟨L', eL⟩ : ∃ x, x = L - (cs.length + tl (cs.take k)) := ⟨_, rfl⟩
        have eL' : ((L : Int) - (cs.length + tl (cs.take k) : Nat)) = (L' : Int) := by have := HT.out; omega
        have hL' : L' ≤ 1048576 := by omega
        rw [eL']
        have HE : Hid (L' = L - (cs.length + tl (cs.take k))) := eL
        have HB : Hid (Below w.heap.size w wr) := hbr
        clear e0 e1 em eL eL' hcs hc hbr hm
        by_cases hfit : m ≤ L'
        · have e : szR L' m = (L' : Int) - m := by simp [szR, hfit]
          have HS := fun w => szOp_any c0 c1 q m qc L' w hL' hmk
          rw [e] at HS
          have h0' : ¬ ((L' : Int) - m < 0) := by omega
          go_wp2_with (go_at_call 28; refine (HS _).mono ?_; rintro e w' ⟨rfl, hb1⟩)
          go_roundw
          case rel => exact ⟨k + 1, by omega, by go_num, by have := HT.out; have := htk.out; have := HE.out; show _ ≤ _; omega, by have := HT.out; have := htk.out; have := HE.out; congr 1; omega, Below.on HB.out hb1⟩
          case measure => simp [intOf]; omega
        · have e : szR L' m = -1 := by simp [szR, hfit]
          have HS := fun w => szOp_any c0 c1 q m qc L' w hL' hmk
          rw [e] at HS
          go_wp2_with (go_at_call 28; refine (HS _).mono ?_; rintro e w' ⟨rfl, hb1⟩)
          go_ret
          refine ⟨ret_int ?_, Below.on HB.out hb1⟩
          have := HT.out; have := htk.out; have := HE.out; have := htl.out
          rw [szR, if_neg (by omega)]
      · obtain rfl : k = cs.length := by omega
        have HB : Hid (Below w.heap.size w wr) := hbr
        clear hbr hc hm
        rw [List.take_length] at *
        go_wp2
        go_ret
        exact ⟨ret_int (by rw [szR, if_pos HT.out]), HB.out⟩
  · have e : szR L (cs.length + tl cs) = -1 := by rw [szR, if_neg (by omega)]
    rw [e]
    have h0 : (L : Int) - cs.length < 0 := by omega
    clear hc hm
    go_enter Tryz.func5, Tryz.ntmps5
    go_wp2
    go_ret
    exact ⟨rfl, Below.refl _ _⟩
end Go.Proofs.YtjhbplgppakhoaaGreatDoor

