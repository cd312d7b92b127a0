/- Texts of MarkG, MarkC, LawVS. Own work of the verifier. -/
import Derived.Test.YtedkkghekboahaaUqaj
import Derived.Test.YtedkkghekboahaaUqae
import Derived.Test.YtedkkghekboahaaUqai
import Derived.Test.YtedkkghekboahaaUqac
namespace Go.Proofs.Ytedkkghekboahaa
open Go Go.RowKit
set_option linter.unusedVariables false

/-- Only blocks from B on and below U may have turned. -/
structure Keep (B U : Nat) (w w' : World) : Prop where
  os : w'.os = w.os
  tape : w'.tape = w.tape
  output : w'.output = w.output
  size : w.heap.size ≤ w'.heap.size
  block : ∀ k, k < w.heap.size → (k < B ∨ U ≤ k) → w'.heap[k]? = w.heap[k]?
theorem Keep.refl (B U : Nat) (w : World) : Keep B U w w := ⟨rfl, rfl, rfl, Nat.le_refl _, fun _ _ _ => rfl⟩
theorem Keep.trans {B U : Nat} {a b c : World} (h : Keep B U a b) (k : Keep B U b c) : Keep B U a c :=
  ⟨k.os.trans h.os, k.tape.trans h.tape, k.output.trans h.output, Nat.le_trans h.size k.size, fun i hi hp => (k.block i (Nat.lt_of_lt_of_le hi h.size) hp).trans (h.block i hi hp)⟩
theorem Keep.below {B U : Nat} {w w' : World} (h : Keep B U w w') {A : Nat} (hA : A ≤ B) (hs : A ≤ w.heap.size) : Below A w w' := ⟨h.os, h.tape, h.output, h.size, fun k hk => h.block k (by omega) (.inl (by omega))⟩
theorem Keep.of_grown {B U : Nat} {w w' : World} {row : Option Nat} (h : w.grownBy w' row) (hr : ∀ k, row = some k → B ≤ k ∧ k < U) : Keep B U w w' :=
  ⟨h.os, h.tape, h.output, h.size, fun k hk hp => h.block k hk (fun e => by have := hr k e.symm; omega)⟩

theorem tb_of {g n : Nat} (h : 0 < n) : tb (some ⟨g, 0, none⟩) n = some g := by unfold tb; rw [if_neg (by omega)]; rfl
theorem tb_some {p : Option Addr} {n k : Nat} (h : tb p n = some k) : 0 < n ∧ ∃ a, p = some a ∧ a.block = k := by
  unfold tb at h
  split at h
  · cases h
  · cases p with
    | none => cases h
    | some a => exact ⟨by omega, a, rfl, Option.some.inj h⟩
theorem OwnT.tb {w : World} {B : Nat} {p : Option Addr} {n c : Nat} {ys : List Int} (h : OwnT w B p n c ys) {k : Nat} (e : tb p n = some k) : p = some ⟨k, 0, none⟩ ∧ B ≤ k ∧ k < w.heap.size := by
  obtain ⟨hn, a, rfl, rfl⟩ := tb_some e
  obtain ⟨g, e', h1, h2, _⟩ := h.2 hn
  obtain rfl := Option.some.inj e'
  exact ⟨rfl, h1, h2⟩
/-- The number at which the marks of cell j begin. -/
def kAt (k : Int) (cs : List Cel) (j : Nat) : Int := k + 2 * j + tl (cs.take j)
theorem kAt_zero (k : Int) (cs : List Cel) : kAt k cs 0 = k := by simp [kAt, tl]
theorem kAt_succ (k : Int) (cs : List Cel) (j : Nat) (h : j < cs.length) : kAt k cs (j + 1) = kAt k cs j + 1 + 1 + (cs.getD j Cel.none).2.2.length := by
  have := tl_take cs j h
  simp only [kAt, this]; omega
theorem cs_set_at (cs : List Cel) (i j : Nat) (r : Cel) (h : i < cs.length) : (cs.set i r).getD j Cel.none = if j = i then r else cs.getD j Cel.none := by
  simp only [List.getD, List.getElem?_set]
  by_cases e : j = i
  · subst e; simp [h]
  · have : ¬ i = j := fun x => e x.symm
    simp [this, e]

end Go.Proofs.Ytedkkghekboahaa

namespace Go.Proofs.Ytedkkghekboahaa
open Go Go.RowKit
set_option linter.unusedVariables false

/-- A slice of cells that a call owns, all of it in blocks from B on and below U. -/
def OwnCU (w : World) (B U : Nat) (p : Option Addr) (n c : Nat) (cs : List Cel) : Prop :=
  n = cs.length ∧ ∃ rs : List RC, rs.length = cs.length ∧ w.ownsRow B 31 3 (.slice p n c) n (flat rs) ∧ (∀ i, i < cs.length → Fits w B (rs.getD i RC.zero) (cs.getD i Cel.none)) ∧ ApartC p rs ∧
    (∀ k, Value.ownBlock (.slice p n c) = some k → k < U) ∧ (∀ i, i < cs.length → ∀ k, tb (rs.getD i RC.zero).2.2.1 (rs.getD i RC.zero).2.2.2.1 = some k → k < U)
theorem OwnCU.toC {w : World} {B U : Nat} {p : Option Addr} {n c : Nat} {cs : List Cel} (h : OwnCU w B U p n c cs) : OwnC w B p n c cs := by
  obtain ⟨hn, rs, hl, hr, hf, ha, _⟩ := h
  exact ⟨hn, rs, hl, hr, hf, ha⟩
theorem OwnC.up {w : World} {B : Nat} {p : Option Addr} {n c : Nat} {cs : List Cel} (h : OwnC w B p n c cs) : OwnCU w B w.heap.size p n c cs := by
  obtain ⟨hn, rs, hl, hr, hf, ha⟩ := h
  exact ⟨hn, rs, hl, hr, hf, ha, fun k hk => (hr.lt k hk).2, fun i hi k hk => ((hf i hi).2.2.tb hk).2.2⟩
theorem OwnCU.other {w w' : World} {B U : Nat} {p : Option Addr} {n c : Nat} {cs : List Cel} (h : OwnCU w B U p n c cs) (hs : w.heap.size ≤ w'.heap.size) (hb : ∀ k, k < w.heap.size → B ≤ k → k < U → w'.heap[k]? = w.heap[k]?) : OwnCU w' B U p n c cs := by
  obtain ⟨hn, rs, hl, hr, hf, ha, hu, ht⟩ := h
  refine ⟨hn, rs, hl, ⟨hr.1, ?_⟩, fun i hi => ⟨(hf i hi).1, (hf i hi).2.1, (hf i hi).2.2.other hs (fun g hn0 e => ?_)⟩, ha, hu, ht⟩
  · rcases hr.2 with h' | ⟨g, cap, cur, hv, hB, hg, r⟩
    · exact .inl h'
    · refine .inr ⟨g, cap, cur, hv, hB, (hb g (Array.getElem?_eq_some_iff.1 hg).1 hB (hu g ?_)).trans hg, r⟩
      simp only [Value.slice.injEq] at hv
      rw [hv.1]; rfl
  · have e' : Go.Proofs.Ytedkkghekboahaa.tb (rs.getD i RC.zero).2.2.1 (rs.getD i RC.zero).2.2.2.1 = some g := by rw [e]; exact tb_of hn0
    have := (hf i hi).2.2.tb e'
    exact hb g this.2.2 this.2.1 (ht i hi g e')
theorem OwnCU.below {w w' : World} {B U : Nat} {p : Option Addr} {n c : Nat} {cs : List Cel} (h : OwnCU w B U p n c cs) (hb : Below w.heap.size w w') : OwnCU w' B U p n c cs := h.other hb.size (fun k hk _ _ => hb.block k hk)
theorem OwnCU.keep {w w' : World} {B U B' U' : Nat} {p : Option Addr} {n c : Nat} {cs : List Cel} (h : OwnCU w B U p n c cs) (hk : Keep B' U' w w') (ho : U ≤ B' ∨ U' ≤ B) : OwnCU w' B U p n c cs := h.other hk.size (fun k h1 h2 h3 => hk.block k h1 (by omega))

def markedC (k : Int) (cs : List Cel) (j : Nat) : Cel := (kAt k cs j, kAt k cs j + 1, marks (kAt k cs j + 1 + 1) (cs.getD j Cel.none).2.2.length)
/-- The cells of which the first j are marked. -/
def mixC (k : Int) (cs : List Cel) (j : Nat) : List Cel := (List.range cs.length).map fun i => if i < j then markedC k cs i else cs.getD i Cel.none
theorem mixC_len (k : Int) (cs : List Cel) (j : Nat) : (mixC k cs j).length = cs.length := by simp [mixC]
theorem mixC_at (k : Int) (cs : List Cel) (j i : Nat) (h : i < cs.length) : (mixC k cs j).getD i Cel.none = if i < j then markedC k cs i else cs.getD i Cel.none := by
  simp [mixC, List.getD, h]
theorem mixC_zero (k : Int) (cs : List Cel) : mixC k cs 0 = cs := same_cells (mixC_len ..) (fun j hj => by rw [mixC_at _ _ _ _ (by rw [mixC_len] at hj; exact hj), if_neg (Nat.not_lt_zero _)])
theorem mixC_succ (k : Int) (cs : List Cel) (j : Nat) (h : j < cs.length) : mixC k cs (j + 1) = (mixC k cs j).set j (markedC k cs j) := same_cells (by simp [mixC]) (fun i hi => by
  rw [mixC_len] at hi
  rw [mixC_at _ _ _ _ hi, cs_set_at _ _ _ _ (by rw [mixC_len]; exact h)]
  by_cases e : i = j
  · subst e; rw [if_pos (by omega), if_pos rfl]
  · rw [if_neg e, mixC_at _ _ _ _ hi]
    by_cases e2 : i < j
    · rw [if_pos e2, if_pos (by omega)]
    · rw [if_neg e2, if_neg (by omega)])

theorem flat_set2 : ∀ (rs : List RC) (i : Nat) (a b : Int), i < rs.length → ((flat rs).set (i * 3) (.int .i64 a)).set (i * 3 + 1) (.int .i64 b) = flat (rs.set i (a, b, (rs.getD i RC.zero).2.2))
  | [], i, a, b, h => by simp at h
  | x :: rs, 0, a, b, _ => by simp [flat_cons]
  | x :: rs, i + 1, a, b, h => by
    have := flat_set2 rs i a b (by simpa using h)
    rw [flat_cons, show (i + 1) * 3 = (i * 3) + 1 + 1 + 1 by omega, show (i * 3) + 1 + 1 + 1 + 1 = (i * 3 + 1) + 1 + 1 + 1 by omega]
    simp only [List.set_cons_succ, this]
    rfl
/-- One cell marked. -/
theorem mark_one {w w3 : World} {B U g n c j : Nat} {ds : List Cel} {rs : List RC} (hn : n = ds.length) (hl : rs.length = ds.length) (hr : w.ownsRow B 31 3 (.slice (some ⟨g, 0, none⟩) n c) n (flat rs)) (hf : ∀ i, i < ds.length → Fits w B (rs.getD i RC.zero) (ds.getD i Cel.none))
    (ha : ApartC (some ⟨g, 0, none⟩) rs) (hu : g < U) (ht : ∀ i, i < ds.length → ∀ k, tb (rs.getD i RC.zero).2.2.1 (rs.getD i RC.zero).2.2.2.1 = some k → k < U) (hj : j < ds.length) (a b : Int) (ms : List Int)
    (ho : OwnT w3 B (rs.getD j RC.zero).2.2.1 (rs.getD j RC.zero).2.2.2.1 (rs.getD j RC.zero).2.2.2.2 ms)
    (hg : ((w.setCell ⟨g, j * 3, none⟩ (.int .i64 a)).setCell ⟨g, j * 3 + 1, none⟩ (.int .i64 b)).grownBy w3 (tb (rs.getD j RC.zero).2.2.1 (rs.getD j RC.zero).2.2.2.1)) :
    OwnCU w3 B U (some ⟨g, 0, none⟩) n c (ds.set j (a, b, ms)) ∧ Keep B U w w3 := by
  have hgB := (hr.lt g rfl)
  have h2 := ((hr.stored (j * 3) (.int .i64 a)).1.stored (j * 3 + 1) (.int .i64 b)).1
  rw [flat_set2 rs j a b (by omega)] at h2
  have hnrow : ∀ i, i < ds.length → tb (rs.getD i RC.zero).2.2.1 (rs.getD i RC.zero).2.2.2.1 ≠ some g := fun i hi e => by
    have h1 := (hf i hi).2.2.tb e
    exact ha.1 i (by omega) (tb_some e).1 h1.1
  have hat : ∀ i, ((rs.set j (a, b, (rs.getD j RC.zero).2.2)).getD i RC.zero).2.2 = (rs.getD i RC.zero).2.2 := fun i => by
    rw [rs_set_at _ _ _ _ (by omega)]
    by_cases e : i = j
    · rw [if_pos e, e]
    · rw [if_neg e]
  refine ⟨⟨by simpa using hn, rs.set j (a, b, (rs.getD j RC.zero).2.2), by simpa using hl, h2.kept hg (.inr (fun e => hnrow j hj e.symm)), fun i hi => ?_, ⟨fun i hi => ?_, fun i i' hi hi' hne => ?_⟩, fun k hk => ?_, fun i hi k hk => ?_⟩, ?_⟩
  · have hi' : i < ds.length := by simpa using hi
    rw [cs_set_at _ _ _ _ hj, rs_set_at _ _ _ _ (by omega)]
    by_cases e : i = j
    · rw [if_pos e, if_pos e]
      exact ⟨rfl, rfl, ho⟩
    · rw [if_neg e, if_neg e]
      obtain ⟨q0, q1, q2⟩ := hf i hi'
      refine ⟨q0, q1, ((q2.setCell (a := ⟨g, j * 3, none⟩) (fun hp e' => ha.1 i (by omega) hp e') _).setCell (a := ⟨g, j * 3 + 1, none⟩) (fun hp e' => ha.1 i (by omega) hp e') _).other hg.size (fun k hp e' => ?_)⟩
      have hk := (q2.tb (e' ▸ tb_of hp)).2.2
      refine hg.block k (by simpa using hk) (fun e2 => ?_)
      have h5 := (hf j hj).2.2.tb e2.symm
      exact ha.2 i j (by omega) (by omega) e hp (tb_some e2.symm).1 (by rw [e', h5.1])
  · rw [hat]; exact ha.1 i (by simpa using hi)
  · rw [hat, hat]; exact ha.2 i i' (by simpa using hi) (by simpa using hi') hne
  · have : k = g := (Option.some.inj hk).symm
    omega
  · rw [hat] at hk
    exact ht i (by simpa using hi) k hk
  · refine Keep.trans (Keep.trans (b := w.setCell ⟨g, j * 3, none⟩ (.int .i64 a)) ?_ ?_) (Keep.of_grown hg (fun k e => ⟨((hf j hj).2.2.tb e).2.1, ht j hj k e⟩))
    · exact ⟨rfl, rfl, rfl, by simp, fun k _ hp => Below.heap_setCell _ _ _ _ (show k ≠ g by omega)⟩
    · exact ⟨rfl, rfl, rfl, by simp, fun k _ hp => Below.heap_setCell _ _ _ _ (show k ≠ g by omega)⟩

/-- The cells, all marked. -/
def markC (k : Int) (cs : List Cel) : List Cel := mixC k cs cs.length
def endC (k : Int) (cs : List Cel) : Int := kAt k cs cs.length

theorem markCells_any (B U : Nat) (p : Option Addr) (n c : Nat) (k : Int) (cs : List Cel) (w : World) (h0 : 0 ≤ k) (h1 : k ≤ 10000000) (hn : cs.length + tl cs ≤ 100000000) (hown : OwnCU w B U p n c cs) :
    Calls Try.prog 23 #[.slice p n c, .int .i64 k] w fun e w' => e = .returned (.int .i64 (endC k cs)) ∧ OwnCU w' B U p n c (markC k cs) ∧ Keep B U w w' := by
  have hnl := hown.1
  have HO : Hid (OwnCU w B U p n c cs) := hown
  clear hown
  have HNL : Hid (n = cs.length) := hnl
  clear hnl
  go_enter Try.func23, Try.ntmps23
  go_wp2
  go_loopw [1, 5] (fun q i wr => ∃ (j : Nat) (kj : Int), j ≤ n ∧ 0 ≤ kj ∧ kj ≤ 1000000000 ∧ i = .int .i64 j ∧ q = .int .i64 kj ∧ Hid (kj = kAt k cs j) ∧ Hid (OwnCU wr B U p n c (mixC k cs j)) ∧ Hid (Keep B U w wr)) (fun _ i _ => n - (intOf i).toNat)
  case atStart => exact ⟨0, k, Nat.zero_le _, h0, by omega, rfl, rfl, (kAt_zero _ _).symm, by rw [mixC_zero]; exact HO, Keep.refl _ _ _⟩
  case round =>
    obtain ⟨j, kj, hj, hk0, hk1, rfl, rfl, HK, HR, HG⟩ := hrel
    by_cases hlt : j < n
    · obtain ⟨hn1, rs, hl, hr, hf, ha, hu, ht⟩ := HR.out
      obtain ⟨g, cap, hv, hbg, hgs⟩ := hr.form (by omega)
      simp only [Value.slice.injEq, true_and] at hv
      obtain ⟨rfl, rfl⟩ := hv
      have hjl : j < cs.length := by rw [← HNL.out]; exact hlt
      rw [mixC_len] at hl hf ht
      obtain ⟨a0, a1, a2⟩ := flat_at rs j (by omega)
      have d0 := (hr.cellAt (j * 3) (by omega)).trans a0
      have d1 := (hr.cellAt (j * 3 + 1) (by omega)).trans a1
      have d2 := (hr.cellAt (j * 3 + 2) (by omega)).trans a2
      have ff := hr.frozenAt
      obtain ⟨q0, q1, q2⟩ := hf j hjl
      have hlen : (rs.getD j RC.zero).2.2.2.1 = (cs.getD j Cel.none).2.2.length := by
        rw [q2.1, mixC_at _ _ _ _ hjl, if_neg (Nat.lt_irrefl j)]
      have htl := tl_at cs j hjl
      have hkb : kj + 1 + 1 ≤ 1000000000000 := by omega
      have HMARK := markT_any B (rs.getD j RC.zero).2.2.1 (rs.getD j RC.zero).2.2.2.1 (rs.getD j RC.zero).2.2.2.2 (kj + 1 + 1) _ _ (by omega) hkb (by omega) ((q2.setCell (a := ⟨g, j * 3, none⟩) (fun hp e' => ha.1 j (by omega) hp e') (.int .i64 kj)).setCell (a := ⟨g, j * 3 + 1, none⟩) (fun hp e' => ha.1 j (by omega) hp e') (.int .i64 (kj + 1)))
      have HONE : Hid (∀ w3 ms, OwnT w3 B (rs.getD j RC.zero).2.2.1 (rs.getD j RC.zero).2.2.2.1 (rs.getD j RC.zero).2.2.2.2 ms → ((wr.setCell ⟨g, j * 3, none⟩ (.int .i64 kj)).setCell ⟨g, j * 3 + 1, none⟩ (.int .i64 (kj + 1))).grownBy w3 (tb (rs.getD j RC.zero).2.2.1 (rs.getD j RC.zero).2.2.2.1) →
          OwnCU w3 B U (some ⟨g, 0, none⟩) n c ((mixC k cs j).set j (kj, kj + 1, ms)) ∧ Keep B U wr w3) := fun w3 ms h1 h2 => mark_one hn1 (by rw [mixC_len]; exact hl) hr (by rw [mixC_len]; exact hf) ha (hu g rfl) (by rw [mixC_len]; exact ht) (by rw [mixC_len]; exact hjl) kj (kj + 1) ms h1 h2
      have HS1 : Hid _ := kAt_succ k cs j hjl
      have HS2 : Hid _ := mixC_succ k cs j hjl
      have HLEN : Hid _ := hlen
      have hbound : kAt k cs (j + 1) ≤ 1000000000 := by have := tl_take_le cs (j + 1); simp only [kAt]; omega
      have HBD : Hid _ := hbound
      obtain ⟨tp, etp⟩ : ∃ x, x = (rs.getD j RC.zero).2.2.1 := ⟨_, rfl⟩
      obtain ⟨tn, etn⟩ : ∃ x, x = (rs.getD j RC.zero).2.2.2.1 := ⟨_, rfl⟩
      obtain ⟨tc, etc⟩ : ∃ x, x = (rs.getD j RC.zero).2.2.2.2 := ⟨_, rfl⟩
      rw [← etp, ← etn, ← etc] at HMARK d2 HONE
      rw [← etn] at HLEN hlen
      have htn : tn ≤ 100000000 := by omega
      clear etp etn etc hn1 hl hr hf ha hu ht a0 a1 a2 q0 q1 q2 hlen htl HR HO hbound
      go_wp2_with fail
      refine HMARK.mono ?_
      rintro e w3 ⟨rfl, ho3, hg3⟩
      have HFIN : Hid _ := HONE.out w3 _ ho3 hg3
      clear ho3 hg3
      go_wp2_with fail
      have e1 := HS1.out
      have e2 := HS2.out
      have e3 := HK.out
      have e4 := HLEN.out
      have e5 := HBD.out
      have hfin := HFIN.out
      go_roundw
      case rel => exact ⟨j + 1, kj + 1 + 1 + tn, by omega, by omega, by rw [e1] at e5; omega, by go_num, rfl, by show _ = _; rw [e1]; omega, by
        show OwnCU _ _ _ _ _ _ _
        rw [e2, markedC, ← e3, ← e4]
        exact hfin.1, HG.out.trans hfin.2⟩
      case measure => simp [intOf]; omega
    · obtain rfl : j = n := by omega
      go_wp2_with fail
      go_ret
      refine ⟨ret_int ?_, ?_, HG.out⟩
      · rw [HK.out, HNL.out]; rfl
      · have := HR.out
        rw [markC, ← HNL.out]
        exact this


end Go.Proofs.Ytedkkghekboahaa

namespace Go.Proofs.Ytedkkghekboahaa
open Go Go.RowKit
set_option linter.unusedVariables false

/-- What is asked of numbers that came in. -/
structure IArg (w : World) (p : Option Addr) (ys : List Int) : Prop where
  lies : IIn w p ys
  len : ys.length ≤ 9223372036854775807
theorem IArg.below {W W' : World} {p : Option Addr} {ys : List Int} (h : IArg W p ys) (hb : Below W.heap.size W W') : IArg W' p ys := ⟨h.lies.below hb, h.len⟩

theorem szStore_any (p q : Option Addr) (c1 c2 : Nat) (xs : List Cel) (tr : List Int) (L : Nat) (w : World) (hL : L ≤ 1048576) (hx : CArg w p xs) (hy : IArg w q tr) :
    Calls Try.prog 9 #[.agg #[.slice p xs.length c1, .slice q tr.length c2], .int .i64 L] w fun e w' => e = .returned (.int .i64 (szR L (xs.length + tl xs + tr.length))) ∧ Below w.heap.size w w' := by
  have HB0 : Hid (Below w.heap.size w (w.alloc (.cells #[.slice p xs.length c1, .slice q tr.length c2] 25))) := (Below.refl _ _).alloc (Nat.le_refl _) _
  have HS := szCellS_any p c1 xs L _ hL hx.len hx.text (hx.lies.below HB0.out)
  have hyl := hy.len
  have k0 := heap_alloc_new w (.cells #[.slice p xs.length c1, .slice q tr.length c2] 25)
  have HK0 : Hid _ := k0
  clear hx hy k0
  by_cases h : xs.length + tl xs ≤ L
  · obtain ⟨r, er⟩ : ∃ r : Nat, szR L (xs.length + tl xs) = r := ⟨L - (xs.length + tl xs), by rw [szR, if_pos h]; omega⟩
    have hr : Hid (r = L - (xs.length + tl xs)) := by show _ = _; rw [szR, if_pos h] at er; omega
    have hrL : r ≤ 1048576 := by have := hr.out; omega
    have H2 := fun W => szIntS_any q tr.length c2 r W hrL hyl
    rw [er] at HS
    by_cases h2 : tr.length ≤ r
    · have e2 : szR r tr.length = (r : Int) - tr.length := by simp [szR, h2]
      rw [e2] at H2
      have h0 : ¬ ((r : Int) - tr.length < 0) := by omega
      have HE : Hid (szR L (xs.length + tl xs + tr.length) = (r : Int) - tr.length) := by show _ = _; have := hr.out; rw [szR, if_pos (by omega)]; omega
      clear er e2 h
      go_enter Try.func9, Try.ntmps9
      go_wp2_with fail
      refine HS.mono ?_
      rintro e w1 ⟨rfl, hb⟩
      have b0 := (hb.block w.heap.size (by simp)).trans HK0.out
      have s1 : w1.cell? ⟨w.heap.size, 1, none⟩ = some (.slice q tr.length c2) := by simp [World.cell?, b0]
      have HB1 : Hid (Below w.heap.size w w1) := Below.on HB0.out hb
      clear hb HS b0
      go_wp2_with (go_at_call 36; refine (H2 _).mono ?_; rintro e w2 ⟨rfl, rfl⟩)
      go_ret
      exact ⟨ret_int HE.out.symm, HB1.out⟩
    · have e2 : szR r tr.length = -1 := by simp [szR, h2]
      rw [e2] at H2
      have HE : Hid (szR L (xs.length + tl xs + tr.length) = -1) := by show _ = _; have := hr.out; rw [szR, if_neg (by omega)]
      clear er e2 h
      go_enter Try.func9, Try.ntmps9
      go_wp2_with fail
      refine HS.mono ?_
      rintro e w1 ⟨rfl, hb⟩
      have b0 := (hb.block w.heap.size (by simp)).trans HK0.out
      have s1 : w1.cell? ⟨w.heap.size, 1, none⟩ = some (.slice q tr.length c2) := by simp [World.cell?, b0]
      have HB1 : Hid (Below w.heap.size w w1) := Below.on HB0.out hb
      clear hb HS b0
      go_wp2_with (go_at_call 36; refine (H2 _).mono ?_; rintro e w2 ⟨rfl, rfl⟩)
      go_ret
      exact ⟨ret_int HE.out.symm, HB1.out⟩
  · have er : szR L (xs.length + tl xs) = -1 := by rw [szR, if_neg h]
    rw [er] at HS
    have HE : Hid (szR L (xs.length + tl xs + tr.length) = -1) := by show _ = _; rw [szR, if_neg (by omega)]
    clear er
    go_enter Try.func9, Try.ntmps9
    go_wp2_with (go_at_call 32; refine HS.mono ?_; rintro e w1 ⟨rfl, hb⟩)
    go_ret
    exact ⟨ret_int HE.out.symm, Below.on HB0.out hb⟩

theorem OwnC.set {w : World} {B : Nat} {p : Option Addr} {n c : Nat} {cs : List Cel} (h : OwnC w B p n c cs) {a : Addr} (ha : a.block < B) (u : Value) : OwnC (w.setCell a u) B p n c cs := by
  obtain ⟨hn, rs, hl, hr, hf, hx⟩ := h
  refine ⟨hn, rs, hl, ownsRow_setCell_other hr ?_ u, fun i hi => ⟨(hf i hi).1, (hf i hi).2.1, (hf i hi).2.2.setCell (fun hp e => ?_) u⟩, hx⟩
  · intro e
    have := (hr.lt a.block e).1
    omega
  · obtain ⟨g, eg, hB, _⟩ := (hf i hi).2.2.2 hp
    rw [e] at eg
    have := congrArg Addr.block (Option.some.inj eg)
    simp at this; omega
theorem OwnI.set {w : World} {B : Nat} {t : TypeId} {p : Option Addr} {n c : Nat} {zs : List Int} (h : OwnI w B t p n c zs) {a : Addr} (ha : a.block < B) (u : Value) : OwnI (w.setCell a u) B t p n c zs := by
  refine ⟨h.1, ownsRow_setCell_other h.2 ?_ u⟩
  intro e
  have := (h.2.lt a.block e).1
  omega

theorem OwnCU.set {w : World} {B U : Nat} {p : Option Addr} {n c : Nat} {cs : List Cel} (h : OwnCU w B U p n c cs) {a : Addr} (ha : a.block < B) (u : Value) : OwnCU (w.setCell a u) B U p n c cs :=
  h.other (by simp) (fun k _ hk _ => Below.heap_setCell _ _ _ _ (by omega))
theorem OwnCU.mono {w : World} {B B' U : Nat} {p : Option Addr} {n c : Nat} {cs : List Cel} (h : OwnCU w B U p n c cs) (hB : B' ≤ B) : OwnCU w B' U p n c cs := by
  obtain ⟨hn, rs, hl, hr, hf, ha, hu, ht⟩ := h
  exact ⟨hn, rs, hl, ownsRow_down hr hB, fun i hi => ⟨(hf i hi).1, (hf i hi).2.1, (hf i hi).2.2.mono hB⟩, ha, hu, ht⟩

set_option maxRecDepth 100000 in
theorem toStoreU_any (p q : Option Addr) (c1 c2 : Nat) (xs : List Cel) (tr : List Int) (w : World) (hn : xs.length + tl xs ≤ 1048576) (hm : tr.length ≤ 1048576) (hx : CIn w p xs) (hy : IIn w q tr) :
    Calls Try.prog 12 #[.agg #[.slice p xs.length c1, .slice q tr.length c2]] w fun e w' => ∃ g1 g2, e = .returned (.agg #[.slice (some ⟨g1, 0, none⟩) xs.length xs.length, .slice (some ⟨g2, 0, none⟩) tr.length tr.length]) ∧ (∃ M, OwnCU w' w.heap.size M (some ⟨g1, 0, none⟩) xs.length xs.length xs ∧ OwnI w' M 3 (some ⟨g2, 0, none⟩) tr.length tr.length tr ∧ w.heap.size ≤ M ∧ M ≤ w'.heap.size) ∧ Below w.heap.size w w' := by
  have hb0 : Below w.heap.size w (((w.alloc (.cells #[.slice p xs.length c1, .slice q tr.length c2] 25)).alloc (.cells #[.slice none 0 0, .slice none 0 0] 36)).alloc (.cells #[.slice none 0 0, .slice none 0 0] 36)) :=
    (((Below.refl _ _).alloc (Nat.le_refl _) _).alloc (by simp) _).alloc (by simp; omega) _
  have HY : Hid (IIn w q tr) := hy
  have H1 := toCellS_any p c1 xs _ hn (hx.below hb0)
  have k0 : (((w.alloc (.cells #[.slice p xs.length c1, .slice q tr.length c2] 25)).alloc (.cells #[.slice none 0 0, .slice none 0 0] 36)).alloc (.cells #[.slice none 0 0, .slice none 0 0] 36)).heap[w.heap.size]? = some (.cells #[.slice p xs.length c1, .slice q tr.length c2] 25) := by
    rw [Below.heap_alloc _ _ _ (by simp; omega), Below.heap_alloc _ _ _ (by simp)]; exact heap_alloc_new _ _
  have k12 := heap_three w (.cells #[.slice p xs.length c1, .slice q tr.length c2] 25) (.cells #[.slice none 0 0, .slice none 0 0] 36) (.cells #[.slice none 0 0, .slice none 0 0] 36)
  have HK : Hid _ := And.intro k0 k12
  have HB0 : Hid _ := hb0
  simp only [World.size_alloc] at H1
  clear hx hy hb0 k0 k12
  go_enter Try.func12, Try.ntmps12
  go_wp2_with fail
  refine H1.mono ?_
  rintro e w1 ⟨rfl, ho1, hb1⟩
  obtain ⟨k0, k1, k2⟩ := HK.out
  have j0 := (hb1.block w.heap.size (by omega)).trans k0
  have j1 := (hb1.block (w.heap.size + 1) (by omega)).trans k1
  have j2 := (hb1.block (w.heap.size + 1 + 1) (by omega)).trans k2
  have s1 : w1.cell? ⟨w.heap.size, 1, none⟩ = some (.slice q tr.length c2) := by simp [World.cell?, j0]
  have t0 : w1.cell? ⟨w.heap.size + 1 + 1, 0, none⟩ = some (.slice none 0 0) := by simp [World.cell?, j2]
  have t1 : w1.cell? ⟨w.heap.size + 1 + 1, 1, none⟩ = some (.slice none 0 0) := by simp [World.cell?, j2]
  have u0 : w1.cell? ⟨w.heap.size + 1, 0, none⟩ = some (.slice none 0 0) := by simp [World.cell?, j1]
  have u1 : w1.cell? ⟨w.heap.size + 1, 1, none⟩ = some (.slice none 0 0) := by simp [World.cell?, j1]
  have f2 : ∀ i, w1.frozen? ⟨w.heap.size + 1 + 1, i, none⟩ = false := fun i => frozen_of_row _ _ _ _ _ j2
  have f1 : ∀ i, w1.frozen? ⟨w.heap.size + 1, i, none⟩ = false := fun i => frozen_of_row _ _ _ _ _ j1
  have HB1 : Hid (Below w.heap.size w w1) := HB0.out.trans (hb1.mono (by omega))
  have hsz : w.heap.size + 1 + 1 + 1 ≤ w1.heap.size := by have := hb1.size; simpa using this
  have HO1 : Hid (OwnCU w1 (w.heap.size + 1 + 1 + 1) w1.heap.size (some ⟨w.heap.size + 1 + 1 + 1, 0, none⟩) xs.length xs.length xs) := ho1.up
  clear H1 HK k0 k1 k2 j0 j1 j2 hb1 ho1
  obtain ⟨sv, esv⟩ : ∃ v, v = Value.slice (some ⟨w.heap.size + 1 + 1 + 1, 0, none⟩) xs.length xs.length := ⟨_, rfl⟩
  have x1 : (w1.setCell ⟨w.heap.size + 1 + 1, 0, none⟩ sv).cell? ⟨w.heap.size, 1, none⟩ = some (.slice q tr.length c2) := (World.cell?_setCell_other _ _ _ _ (by simp)).trans s1
  have y0 : (w1.setCell ⟨w.heap.size + 1 + 1, 0, none⟩ sv).cell? ⟨w.heap.size + 1 + 1, 0, none⟩ = some sv := World.cell?_setCell_same _ _ _ (by rw [t0])
  have y1 : (w1.setCell ⟨w.heap.size + 1 + 1, 0, none⟩ sv).cell? ⟨w.heap.size + 1 + 1, 1, none⟩ = some (.slice none 0 0) := (World.cell?_setCell_other _ _ _ _ (by simp)).trans t1
  have z0 : (w1.setCell ⟨w.heap.size + 1 + 1, 0, none⟩ sv).cell? ⟨w.heap.size + 1, 0, none⟩ = some (.slice none 0 0) := (World.cell?_setCell_other _ _ _ _ (by simp)).trans u0
  have z1 : (w1.setCell ⟨w.heap.size + 1 + 1, 0, none⟩ sv).cell? ⟨w.heap.size + 1, 1, none⟩ = some (.slice none 0 0) := (World.cell?_setCell_other _ _ _ _ (by simp)).trans u1
  have g2 : ∀ i, (w1.setCell ⟨w.heap.size + 1 + 1, 0, none⟩ sv).frozen? ⟨w.heap.size + 1 + 1, i, none⟩ = false := fun i => by rw [World.frozen?_setCell]; exact f2 i
  have g1 : ∀ i, (w1.setCell ⟨w.heap.size + 1 + 1, 0, none⟩ sv).frozen? ⟨w.heap.size + 1, i, none⟩ = false := fun i => by rw [World.frozen?_setCell]; exact f1 i
  have HO2 : Hid (OwnCU (w1.setCell ⟨w.heap.size + 1 + 1, 0, none⟩ sv) (w.heap.size + 1 + 1 + 1) w1.heap.size (some ⟨w.heap.size + 1 + 1 + 1, 0, none⟩) xs.length xs.length xs) := HO1.out.set (by simp) sv
  have hzW : w1.heap.size = (w1.setCell ⟨w.heap.size + 1 + 1, 0, none⟩ sv).heap.size := by simp
  have HB2 : Hid (Below w.heap.size w (w1.setCell ⟨w.heap.size + 1 + 1, 0, none⟩ sv)) := HB1.out.setCell (p := ⟨w.heap.size + 1 + 1, 0, none⟩) (by simp; omega) sv
  have f20 := f2 0
  have hz2 : w.heap.size + 1 + 1 + 1 ≤ (w1.setCell ⟨w.heap.size + 1 + 1, 0, none⟩ sv).heap.size := by simpa using hsz
  have H2 := toIntS_any q c2 tr (w1.setCell ⟨w.heap.size + 1 + 1, 0, none⟩ sv) hm (HY.out.below HB2.out)
  have HG : Hid _ := And.intro (And.intro y0 y1) (And.intro (And.intro z0 z1) (And.intro g2 g1))
  subst esv
  generalize eW2 : w1.setCell ⟨w.heap.size + 1 + 1, 0, none⟩ (Value.slice (some ⟨w.heap.size + 1 + 1 + 1, 0, none⟩) xs.length xs.length) = W2 at H2 x1 HG HO2 HB2 hz2 hzW
  clear s1 t1 u0 u1 f1 f2 y0 y1 z0 z1 g1 g2 HO1 HB1
  have x1' := x1
  rw [← eW2] at x1'
  have HE2 : Hid _ := eW2
  clear eW2 x1
  go_wp2_with fail
  rw [HE2.out]
  refine H2.mono ?_
  rintro e w3 ⟨rfl, ho3, hb3⟩
  obtain ⟨⟨y0, y1⟩, ⟨z0, z1⟩, g2, g1⟩ := HG.out
  have HO3 : Hid (OwnI w3 W2.heap.size 3 (some ⟨W2.heap.size, 0, none⟩) tr.length tr.length tr) := ⟨rfl, ho3⟩
  have HC3 : Hid (OwnCU w3 (w.heap.size + 1 + 1 + 1) W2.heap.size (some ⟨w.heap.size + 1 + 1 + 1, 0, none⟩) xs.length xs.length xs) := by show OwnCU _ _ _ _ _ _ _; rw [← hzW]; exact HO2.out.below hb3
  have hz3 : W2.heap.size ≤ w3.heap.size := hb3.size
  have HB3 : Hid (Below w.heap.size w w3) := Below.on HB2.out hb3
  have l2 : w.heap.size + 1 + 1 < W2.heap.size := by omega
  have l1 : w.heap.size + 1 < W2.heap.size := by omega
  have a0 := (hb3.cell (p := ⟨w.heap.size + 1 + 1, 0, none⟩) l2).trans y0
  have a1 := (hb3.cell (p := ⟨w.heap.size + 1 + 1, 1, none⟩) l2).trans y1
  have c0 := (hb3.cell (p := ⟨w.heap.size + 1, 0, none⟩) l1).trans z0
  have c1' := (hb3.cell (p := ⟨w.heap.size + 1, 1, none⟩) l1).trans z1
  have h2 : ∀ i, w3.frozen? ⟨w.heap.size + 1 + 1, i, none⟩ = false := fun i => (hb3.frozen (p := ⟨w.heap.size + 1 + 1, i, none⟩) l2).trans (g2 i)
  have h1 : ∀ i, w3.frozen? ⟨w.heap.size + 1, i, none⟩ = false := fun i => (hb3.frozen (p := ⟨w.heap.size + 1, i, none⟩) l1).trans (g1 i)
  clear l1 l2 y0 y1 z0 z1 g1 g2 HG H2 ho3 hb3 HO2 HB2 HE2 x1' f20
  clear hzW
  generalize W2.heap.size = G at HO3 HC3 hz2 hz3 ⊢
  have HD : Hid (∀ sv iv : Value, (((w3.setCell ⟨w.heap.size + 1 + 1, 1, none⟩ iv).setCell ⟨w.heap.size + 1, 0, none⟩ sv).setCell ⟨w.heap.size + 1, 1, none⟩ iv).cell? ⟨w.heap.size + 1, 0, none⟩ = some sv ∧ (((w3.setCell ⟨w.heap.size + 1 + 1, 1, none⟩ iv).setCell ⟨w.heap.size + 1, 0, none⟩ sv).setCell ⟨w.heap.size + 1, 1, none⟩ iv).cell? ⟨w.heap.size + 1, 1, none⟩ = some iv) := fun sv iv =>
    ⟨(World.cell?_setCell_other _ _ _ _ (by simp)).trans (World.cell?_setCell_same _ _ _ (by rw [World.cell?_setCell_other _ _ _ _ (by simp), c0])), World.cell?_setCell_same _ _ _ (by rw [World.cell?_setCell_other _ _ _ _ (by simp), World.cell?_setCell_other _ _ _ _ (by simp), c1'])⟩
  go_wp2
  obtain ⟨d0, d1⟩ := HD.out (.slice (some ⟨w.heap.size + 1 + 1 + 1, 0, none⟩) xs.length xs.length) (.slice (some ⟨G, 0, none⟩) tr.length tr.length)
  refine bodyPost_ret (v := .agg #[.slice (some ⟨w.heap.size + 1 + 1 + 1, 0, none⟩) xs.length xs.length, .slice (some ⟨G, 0, none⟩) tr.length tr.length]) (by simp [results, Try.results12, go_sem, d0, d1]) rfl ⟨_, _, rfl, ⟨G, ?_, ?_, ?_, ?_⟩, ?_⟩
  · exact (((HC3.out.set (by simp) _).set (by simp) _).set (by simp) _).mono (by omega)
  · exact ((HO3.out.set (by simp; omega) _).set (by simp; omega) _).set (by simp; omega) _
  · omega
  · simp; omega
  · exact ((HB3.out.setCell (p := ⟨_, _, none⟩) (by simp; omega) _).setCell (p := ⟨_, _, none⟩) (by simp) _).setCell (p := ⟨_, _, none⟩) (by simp) _
theorem toStore_any (p q : Option Addr) (c1 c2 : Nat) (xs : List Cel) (tr : List Int) (w : World) (hn : xs.length + tl xs ≤ 1048576) (hm : tr.length ≤ 1048576) (hx : CIn w p xs) (hy : IIn w q tr) :
    Calls Try.prog 12 #[.agg #[.slice p xs.length c1, .slice q tr.length c2]] w fun e w' => ∃ g1 g2, e = .returned (.agg #[.slice (some ⟨g1, 0, none⟩) xs.length xs.length, .slice (some ⟨g2, 0, none⟩) tr.length tr.length]) ∧ OwnC w' w.heap.size (some ⟨g1, 0, none⟩) xs.length xs.length xs ∧ OwnI w' w.heap.size 3 (some ⟨g2, 0, none⟩) tr.length tr.length tr ∧ Below w.heap.size w w' := by
  refine (toStoreU_any p q c1 c2 xs tr w hn hm hx hy).mono ?_
  rintro e w' ⟨g1, g2, he, ⟨M, hc, hi, h1, _⟩, hb⟩
  exact ⟨g1, g2, he, hc.toC, hi.mono h1, hb⟩

set_option maxRecDepth 100000 in
theorem eqStore_any (p q p' q' : Option Addr) (c1 c2 c3 c4 : Nat) (xs : List Cel) (tr : List Int) (w : World) (hn : xs.length + tl xs ≤ 1000000000) (hm : tr.length ≤ 1000000000) (hx : CIn w p xs) (hy : IIn w q tr) (hx' : CIn w p' xs) (hy' : IIn w q' tr) :
    Calls Try.prog 16 #[.agg #[.slice p xs.length c1, .slice q tr.length c2], .agg #[.slice p' xs.length c3, .slice q' tr.length c4]] w fun e w' => e = .returned (.bool true) ∧ Below w.heap.size w w' := by
  have hb0 : Below w.heap.size w ((w.alloc (.cells #[.slice p xs.length c1, .slice q tr.length c2] 36)).alloc (.cells #[.slice p' xs.length c3, .slice q' tr.length c4] 36)) := ((Below.refl _ _).alloc (Nat.le_refl _) _).alloc (by simp) _
  have H1 := eqCellS_any p p' c1 c3 xs xs _ hn hn (hx.below hb0) (hx'.below hb0)
  have ht : decide (xs = xs) = true := by simp
  rw [ht] at H1
  have k0 : ((w.alloc (.cells #[.slice p xs.length c1, .slice q tr.length c2] 36)).alloc (.cells #[.slice p' xs.length c3, .slice q' tr.length c4] 36)).heap[w.heap.size]? = some (.cells #[.slice p xs.length c1, .slice q tr.length c2] 36) := by
    rw [Below.heap_alloc _ _ _ (by simp)]; exact heap_alloc_new _ _
  have k1 : ((w.alloc (.cells #[.slice p xs.length c1, .slice q tr.length c2] 36)).alloc (.cells #[.slice p' xs.length c3, .slice q' tr.length c4] 36)).heap[w.heap.size + 1]? = some (.cells #[.slice p' xs.length c3, .slice q' tr.length c4] 36) := by
    have := heap_alloc_new (w.alloc (.cells #[.slice p xs.length c1, .slice q tr.length c2] 36)) (.cells #[.slice p' xs.length c3, .slice q' tr.length c4] 36)
    simpa using this
  have HK : Hid _ := And.intro k0 k1
  have HB0 : Hid _ := hb0
  have HY : Hid (IIn w q tr ∧ IIn w q' tr) := ⟨hy, hy'⟩
  clear hx hy hx' hy' ht k0 k1 hb0
  go_enter Try.func16, Try.ntmps16
  go_wp2_with fail
  refine H1.mono ?_
  rintro e w1 ⟨rfl, hb1⟩
  have j0 := (hb1.block w.heap.size (by simp; omega)).trans HK.out.1
  have j1 := (hb1.block (w.heap.size + 1) (by simp)).trans HK.out.2
  have s0 : w1.cell? ⟨w.heap.size, 1, none⟩ = some (.slice q tr.length c2) := by simp [World.cell?, j0]
  have s1 : w1.cell? ⟨w.heap.size + 1, 1, none⟩ = some (.slice q' tr.length c4) := by simp [World.cell?, j1]
  have HB1 : Hid (Below w.heap.size w w1) := Below.on HB0.out hb1
  have H2 := eqIntL_any q q' tr.length tr.length c2 c4 tr w1 rfl rfl hm (HY.out.1.below HB1.out) (HY.out.2.below HB1.out)
  clear H1 HK hb1 j0 j1
  go_wp2_with fail
  refine H2.mono ?_
  rintro e w2 ⟨rfl, d, rfl⟩
  clear H2 s0 s1
  go_wp2
  go_ret
  exact ⟨rfl, below_drewN HB1.out d⟩

end Go.Proofs.Ytedkkghekboahaa

