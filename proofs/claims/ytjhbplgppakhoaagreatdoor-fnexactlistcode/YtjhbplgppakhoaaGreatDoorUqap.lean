/- Texts of MarkG, MarkC, SSG, ItS. Own work of the verifier. -/
import Derived.Test.YtjhbplgppakhoaaGreatDoorUqao
import Derived.Test.YtjhbplgppakhoaaGreatDoorUqak
import Derived.Test.YtjhbplgppakhoaaGreatDoorUqal
import Derived.Test.YtjhbplgppakhoaaGreatDoorUqae
namespace Go.Proofs.YtjhbplgppakhoaaGreatDoor
open Go Go.RowKit
set_option linter.unusedVariables false
structure Keep (B U : Nat) (w w' : World) : Prop where
  os : w'.os = w.os
  tape : w'.tape = w.tape
  output : w'.output = w.output
  size : w.heap.size ≤ w'.heap.size
  block : ∀ k, k < w.heap.size → (k < B ∨ U ≤ k) → w'.heap[k]? = w.heap[k]?
theorem Keep.refl (B U : Nat) (w : World) : Keep B U w w := ⟨rfl, rfl, rfl, Nat.le_refl _, fun _ _ _ => rfl⟩
theorem Keep.trans {B U : Nat} {a b c : World} (h : Keep B U a b) (k : Keep B U b c) : Keep B U a c :=
  ⟨k.os.trans h.os, k.tape.trans h.tape, k.output.trans h.output, Nat.le_trans h.size k.size, fun i hi hp => (k.block i (Nat.lt_of_lt_of_le hi h.size) hp).trans (h.block i hi hp)⟩
theorem Keep.below {B U : Nat} {w w' : World} (h : Keep B U w w') {A : Nat} (hA : A ≤ B) (hs : A ≤ w.heap.size) : Below A w w' := ⟨h.os, h.tape, h.output, h.size, fun k hk => h.block k (by omega) (.inl (by omega))⟩
theorem Keep.of_grown {B U : Nat} {w w' : World} {row : Option Nat} (h : w.grownBy w' row) (hr : ∀ k, row = some k → B ≤ k ∧ k < U) : Keep B U w w' :=
  ⟨h.os, h.tape, h.output, h.size, fun k hk hp => h.block k hk (fun e => by have := hr k e.symm; omega)⟩
theorem tb_of {g n : Nat} (h : 0 < n) : tb (some ⟨g, 0, none⟩) n = some g := by unfold tb; rw [if_neg (by omega)]; rfl
theorem tb_some {p : Option Addr} {n k : Nat} (h : tb p n = some k) : 0 < n ∧ ∃ a, p = some a ∧ a.block = k := by
  unfold tb at h
  split at h
  · cases h
  · cases p with
    | none => cases h
    | some a => exact ⟨by omega, a, rfl, Option.some.inj h⟩
theorem OwnT.tb {w : World} {B : Nat} {p : Option Addr} {n c : Nat} {ys : List Int} (h : OwnT w B p n c ys) {k : Nat} (e : tb p n = some k) : p = some ⟨k, 0, none⟩ ∧ B ≤ k ∧ k < w.heap.size := by
  obtain ⟨hn, a, rfl, rfl⟩ := tb_some e
  obtain ⟨g, e', h1, h2, _⟩ := h.2 hn
  obtain rfl := Option.some.inj e'
  exact ⟨rfl, h1, h2⟩
def kAt (k : Int) (cs : List Cel) (j : Nat) : Int := k + 2 * j + tl (cs.take j)
theorem kAt_zero (k : Int) (cs : List Cel) : kAt k cs 0 = k := by simp [kAt, tl]
theorem kAt_succ (k : Int) (cs : List Cel) (j : Nat) (h : j < cs.length) : kAt k cs (j + 1) = kAt k cs j + 1 + 1 + (cs.getD j Cel.none).2.2.length := by
  have := tl_take cs j h
  simp only [kAt, this]; omega
theorem cs_set_at (cs : List Cel) (i j : Nat) (r : Cel) (h : i < cs.length) : (cs.set i r).getD j Cel.none = if j = i then r else cs.getD j Cel.none := by
  simp only [List.getD, List.getElem?_set]
  by_cases e : j = i
  · subst e; simp [h]
  · have : ¬ i = j := fun x => e x.symm
    simp [this, e]
end Go.Proofs.YtjhbplgppakhoaaGreatDoor

namespace Go.Proofs.YtjhbplgppakhoaaGreatDoor
open Go Go.RowKit
set_option linter.unusedVariables false
def OwnCU (w : World) (B U : Nat) (p : Option Addr) (n c : Nat) (cs : List Cel) : Prop :=
  n = cs.length ∧ ∃ rs : List RC, rs.length = cs.length ∧ w.ownsRow B 71 3 (.slice p n c) n (flat rs) ∧ (∀ i, i < cs.length → Fits w B (rs.getD i RC.zero) (cs.getD i Cel.none)) ∧ ApartC p rs ∧
    (∀ k, Value.ownBlock (.slice p n c) = some k → k < U) ∧ (∀ i, i < cs.length → ∀ k, tb (rs.getD i RC.zero).2.2.1 (rs.getD i RC.zero).2.2.2.1 = some k → k < U)
theorem OwnCU.toC {w : World} {B U : Nat} {p : Option Addr} {n c : Nat} {cs : List Cel} (h : OwnCU w B U p n c cs) : OwnC w B p n c cs := by
  obtain ⟨hn, rs, hl, hr, hf, ha, _⟩ := h
  exact ⟨hn, rs, hl, hr, hf, ha⟩
theorem OwnC.up {w : World} {B : Nat} {p : Option Addr} {n c : Nat} {cs : List Cel} (h : OwnC w B p n c cs) : OwnCU w B w.heap.size p n c cs := by
  obtain ⟨hn, rs, hl, hr, hf, ha⟩ := h
  exact ⟨hn, rs, hl, hr, hf, ha, fun k hk => (hr.lt k hk).2, fun i hi k hk => ((hf i hi).2.2.tb hk).2.2⟩
theorem OwnCU.other {w w' : World} {B U : Nat} {p : Option Addr} {n c : Nat} {cs : List Cel} (h : OwnCU w B U p n c cs) (hs : w.heap.size ≤ w'.heap.size) (hb : ∀ k, k < w.heap.size → B ≤ k → k < U → w'.heap[k]? = w.heap[k]?) : OwnCU w' B U p n c cs := by
  obtain ⟨hn, rs, hl, hr, hf, ha, hu, ht⟩ := h
  refine ⟨hn, rs, hl, ⟨hr.1, ?_⟩, fun i hi => ⟨(hf i hi).1, (hf i hi).2.1, (hf i hi).2.2.other hs (fun g hn0 e => ?_)⟩, ha, hu, ht⟩
  · rcases hr.2 with h' | ⟨g, cap, cur, hv, hB, hg, r⟩
    · exact .inl h'
    · refine .inr ⟨g, cap, cur, hv, hB, (hb g (Array.getElem?_eq_some_iff.1 hg).1 hB (hu g ?_)).trans hg, r⟩
      simp only [Value.slice.injEq] at hv
      rw [hv.1]; rfl
  · have e' : Go.Proofs.YtjhbplgppakhoaaGreatDoor.tb (rs.getD i RC.zero).2.2.1 (rs.getD i RC.zero).2.2.2.1 = some g := by rw [e]; exact tb_of hn0
    have := (hf i hi).2.2.tb e'
    exact hb g this.2.2 this.2.1 (ht i hi g e')
theorem OwnCU.below {w w' : World} {B U : Nat} {p : Option Addr} {n c : Nat} {cs : List Cel} (h : OwnCU w B U p n c cs) (hb : Below w.heap.size w w') : OwnCU w' B U p n c cs := h.other hb.size (fun k hk _ _ => hb.block k hk)
theorem OwnCU.keep {w w' : World} {B U B' U' : Nat} {p : Option Addr} {n c : Nat} {cs : List Cel} (h : OwnCU w B U p n c cs) (hk : Keep B' U' w w') (ho : U ≤ B' ∨ U' ≤ B) : OwnCU w' B U p n c cs := h.other hk.size (fun k h1 h2 h3 => hk.block k h1 (by omega))
def markedC (k : Int) (cs : List Cel) (j : Nat) : Cel := (kAt k cs j, kAt k cs j + 1, marks (kAt k cs j + 1 + 1) (cs.getD j Cel.none).2.2.length)
def mixC (k : Int) (cs : List Cel) (j : Nat) : List Cel := (List.range cs.length).map fun i => if i < j then markedC k cs i else cs.getD i Cel.none
theorem mixC_len (k : Int) (cs : List Cel) (j : Nat) : (mixC k cs j).length = cs.length := by simp [mixC]
theorem mixC_at (k : Int) (cs : List Cel) (j i : Nat) (h : i < cs.length) : (mixC k cs j).getD i Cel.none = if i < j then markedC k cs i else cs.getD i Cel.none := by
  simp [mixC, List.getD, h]
theorem mixC_zero (k : Int) (cs : List Cel) : mixC k cs 0 = cs := same_cells (mixC_len ..) (fun j hj => by rw [mixC_at _ _ _ _ (by rw [mixC_len] at hj; exact hj), if_neg (Nat.not_lt_zero _)])
theorem mixC_succ (k : Int) (cs : List Cel) (j : Nat) (h : j < cs.length) : mixC k cs (j + 1) = (mixC k cs j).set j (markedC k cs j) := same_cells (by simp [mixC]) (fun i hi => by
  rw [mixC_len] at hi
  rw [mixC_at _ _ _ _ hi, cs_set_at _ _ _ _ (by rw [mixC_len]; exact h)]
  by_cases e : i = j
  · subst e; rw [if_pos (by omega), if_pos rfl]
  · rw [if_neg e, mixC_at _ _ _ _ hi]
    by_cases e2 : i < j
    · rw [if_pos e2, if_pos (by omega)]
    · rw [if_neg e2, if_neg (by omega)])
theorem flat_set2 : ∀ (rs : List RC) (i : Nat) (a b : Int), i < rs.length → ((flat rs).set (i * 3) (.int .i64 a)).set (i * 3 + 1) (.int .i64 b) = flat (rs.set i (a, b, (rs.getD i RC.zero).2.2))
  | [], i, a, b, h => by simp at h
  | x :: rs, 0, a, b, _ => by simp [flat_cons]
  | x :: rs, i + 1, a, b, h => by
    have := flat_set2 rs i a b (by simpa using h)
    rw [flat_cons, show (i + 1) * 3 = (i * 3) + 1 + 1 + 1 by omega, show (i * 3) + 1 + 1 + 1 + 1 = (i * 3 + 1) + 1 + 1 + 1 by omega]
    simp only [List.set_cons_succ, this]
    rfl
theorem mark_one {w w3 : World} {B U g n c j : Nat} {ds : List Cel} {rs : List RC} (hn : n = ds.length) (hl : rs.length = ds.length) (hr : w.ownsRow B 71 3 (.slice (some ⟨g, 0, none⟩) n c) n (flat rs)) (hf : ∀ i, i < ds.length → Fits w B (rs.getD i RC.zero) (ds.getD i Cel.none))
    (ha : ApartC (some ⟨g, 0, none⟩) rs) (hu : g < U) (ht : ∀ i, i < ds.length → ∀ k, tb (rs.getD i RC.zero).2.2.1 (rs.getD i RC.zero).2.2.2.1 = some k → k < U) (hj : j < ds.length) (a b : Int) (ms : List Int)
    (ho : OwnT w3 B (rs.getD j RC.zero).2.2.1 (rs.getD j RC.zero).2.2.2.1 (rs.getD j RC.zero).2.2.2.2 ms)
    (hg : ((w.setCell ⟨g, j * 3, none⟩ (.int .i64 a)).setCell ⟨g, j * 3 + 1, none⟩ (.int .i64 b)).grownBy w3 (tb (rs.getD j RC.zero).2.2.1 (rs.getD j RC.zero).2.2.2.1)) :
    OwnCU w3 B U (some ⟨g, 0, none⟩) n c (ds.set j (a, b, ms)) ∧ Keep B U w w3 := by
  have hgB := (hr.lt g rfl)
  have h2 := ((hr.stored (j * 3) (.int .i64 a)).1.stored (j * 3 + 1) (.int .i64 b)).1
  rw [flat_set2 rs j a b (by omega)] at h2
  have hnrow : ∀ i, i < ds.length → tb (rs.getD i RC.zero).2.2.1 (rs.getD i RC.zero).2.2.2.1 ≠ some g := fun i hi e => by
    have h1 := (hf i hi).2.2.tb e
    exact ha.1 i (by omega) (tb_some e).1 h1.1
  have hat : ∀ i, ((rs.set j (a, b, (rs.getD j RC.zero).2.2)).getD i RC.zero).2.2 = (rs.getD i RC.zero).2.2 := fun i => by
    rw [rs_set_at _ _ _ _ (by omega)]
    by_cases e : i = j
    · rw [if_pos e, e]
    · rw [if_neg e]
  refine ⟨⟨by simpa using hn, rs.set j (a, b, (rs.getD j RC.zero).2.2), by simpa using hl, h2.kept hg (.inr (fun e => hnrow j hj e.symm)), fun i hi => ?_, ⟨fun i hi => ?_, fun i i' hi hi' hne => ?_⟩, fun k hk => ?_, fun i hi k hk => ?_⟩, ?_⟩
  · have hi' : i < ds.length := by simpa using hi
    rw [cs_set_at _ _ _ _ hj, rs_set_at _ _ _ _ (by omega)]
    by_cases e : i = j
    · rw [if_pos e, if_pos e]
      exact ⟨rfl, rfl, ho⟩
    · rw [if_neg e, if_neg e]
      obtain ⟨q0, q1, q2⟩ := hf i hi'
      refine ⟨q0, q1, ((q2.setCell (a := ⟨g, j * 3, none⟩) (fun hp e' => ha.1 i (by omega) hp e') _).setCell (a := ⟨g, j * 3 + 1, none⟩) (fun hp e' => ha.1 i (by omega) hp e') _).other hg.size (fun k hp e' => ?_)⟩
      have hk := (q2.tb (e' ▸ tb_of hp)).2.2
      refine hg.block k (by simpa using hk) (fun e2 => ?_)
      have h5 := (hf j hj).2.2.tb e2.symm
      exact ha.2 i j (by omega) (by omega) e hp (tb_some e2.symm).1 (by rw [e', h5.1])
  · rw [hat]; exact ha.1 i (by simpa using hi)
  · rw [hat, hat]; exact ha.2 i i' (by simpa using hi) (by simpa using hi') hne
  · have : k = g := (Option.some.inj hk).symm
    omega
  · rw [hat] at hk
    exact ht i (by simpa using hi) k hk
  · refine Keep.trans (Keep.trans (b := w.setCell ⟨g, j * 3, none⟩ (.int .i64 a)) ?_ ?_) (Keep.of_grown hg (fun k e => ⟨((hf j hj).2.2.tb e).2.1, ht j hj k e⟩))
    · exact ⟨rfl, rfl, rfl, by simp, fun k _ hp => Below.heap_setCell _ _ _ _ (show k ≠ g by omega)⟩
    · exact ⟨rfl, rfl, rfl, by simp, fun k _ hp => Below.heap_setCell _ _ _ _ (show k ≠ g by omega)⟩
def markC (k : Int) (cs : List Cel) : List Cel := mixC k cs cs.length
def endC (k : Int) (cs : List Cel) : Int := kAt k cs cs.length
theorem markCells_any (B U : Nat) (p : Option Addr) (n c : Nat) (k : Int) (cs : List Cel) (w : World) (h0 : 0 ≤ k) (h1 : k ≤ 10000000) (hn : cs.length + tl cs ≤ 100000000) (hown : OwnCU w B U p n c cs) :
    Calls Tryz.prog 18 #[.slice p n c, .int .i64 k] w fun e w' => e = .returned (.int .i64 (endC k cs)) ∧ OwnCU w' B U p n c (markC k cs) ∧ Keep B U w w' := by
  have hnl := hown.1
  have HO : Hid (OwnCU w B U p n c cs) := hown
  clear hown
  have HNL : Hid (n = cs.length) := hnl
  clear hnl
  go_enter Tryz.func18, Tryz.ntmps18
  go_wp2
  go_loopw [1, 5] (fun q i wr => ∃ (j : Nat) (kj : Int), j ≤ n ∧ 0 ≤ kj ∧ kj ≤ 1000000000 ∧ i = .int .i64 j ∧ q = .int .i64 kj ∧ Hid (kj = kAt k cs j) ∧ Hid (OwnCU wr B U p n c (mixC k cs j)) ∧ Hid (Keep B U w wr)) (fun _ i _ => n - (intOf i).toNat)
  case atStart => exact ⟨0, k, Nat.zero_le _, h0, by omega, rfl, rfl, (kAt_zero _ _).symm, by rw [mixC_zero]; exact HO, Keep.refl _ _ _⟩
  case round =>
    obtain ⟨j, kj, hj, hk0, hk1, rfl, rfl, HK, HR, HG⟩ := hrel
    by_cases hlt : j < n
    · obtain ⟨hn1, rs, hl, hr, hf, ha, hu, ht⟩ := HR.out
      obtain ⟨g, cap, hv, hbg, hgs⟩ := hr.form (by omega)
      simp only [Value.slice.injEq, true_and] at hv
      obtain ⟨rfl, rfl⟩ := hv
      have hjl : j < cs.length := by rw [← HNL.out]; exact hlt
      rw [mixC_len] at hl hf ht
      obtain ⟨a0, a1, a2⟩ := flat_at rs j (by omega)
      have d0 := (hr.cellAt (j * 3) (by omega)).trans a0
      have d1 := (hr.cellAt (j * 3 + 1) (by omega)).trans a1
      have d2 := (hr.cellAt (j * 3 + 2) (by omega)).trans a2
      have ff := hr.frozenAt
      obtain ⟨q0, q1, q2⟩ := hf j hjl
      have hlen : (rs.getD j RC.zero).2.2.2.1 = (cs.getD j Cel.none).2.2.length := by
        rw [q2.1, mixC_at _ _ _ _ hjl, if_neg (Nat.lt_irrefl j)]
      have htl := tl_at cs j hjl
      have hkb : kj + 1 + 1 ≤ 1000000000000 := by omega
      have HMARK := markT_any B (rs.getD j RC.zero).2.2.1 (rs.getD j RC.zero).2.2.2.1 (rs.getD j RC.zero).2.2.2.2 (kj + 1 + 1) _ _ (by omega) hkb (by omega) ((q2.setCell (a := ⟨g, j * 3, none⟩) (fun hp e' => ha.1 j (by omega) hp e') (.int .i64 kj)).setCell (a := ⟨g, j * 3 + 1, none⟩) (fun hp e' => ha.1 j (by omega) hp e') (.int .i64 (kj + 1)))
      have HONE : Hid (∀ w3 ms, OwnT w3 B (rs.getD j RC.zero).2.2.1 (rs.getD j RC.zero).2.2.2.1 (rs.getD j RC.zero).2.2.2.2 ms → ((wr.setCell ⟨g, j * 3, none⟩ (.int .i64 kj)).setCell ⟨g, j * 3 + 1, none⟩ (.int .i64 (kj + 1))).grownBy w3 (tb (rs.getD j RC.zero).2.2.1 (rs.getD j RC.zero).2.2.2.1) →
          OwnCU w3 B U (some ⟨g, 0, none⟩) n c ((mixC k cs j).set j (kj, kj + 1, ms)) ∧ Keep B U wr w3) := fun w3 ms h1 h2 => mark_one hn1 (by rw [mixC_len]; exact hl) hr (by rw [mixC_len]; exact hf) ha (hu g rfl) (by rw [mixC_len]; exact ht) (by rw [mixC_len]; exact hjl) kj (kj + 1) ms h1 h2
      have HS1 : Hid _ := kAt_succ k cs j hjl
      have HS2 : Hid _ := mixC_succ k cs j hjl
      have HLEN : Hid _ := hlen
      have hbound : kAt k cs (j + 1) ≤ 1000000000 := by have := tl_take_le cs (j + 1); simp only [kAt]; omega
      have HBD : Hid _ := hbound
      obtain ⟨tp, etp⟩ : ∃ x, x = (rs.getD j RC.zero).2.2.1 := ⟨_, rfl⟩
      obtain ⟨tn, etn⟩ : ∃ x, x = (rs.getD j RC.zero).2.2.2.1 := ⟨_, rfl⟩
      obtain ⟨tc, etc⟩ : ∃ x, x = (rs.getD j RC.zero).2.2.2.2 := ⟨_, rfl⟩
      rw [← etp, ← etn, ← etc] at HMARK d2 HONE
      rw [← etn] at HLEN hlen
      have htn : tn ≤ 100000000 := by omega
      clear etp etn etc hn1 hl hr hf ha hu ht a0 a1 a2 q0 q1 q2 hlen htl HR HO hbound
      go_wp2_with fail
      refine HMARK.mono ?_
      rintro e w3 ⟨rfl, ho3, hg3⟩
      have HFIN : Hid _ := HONE.out w3 _ ho3 hg3
      clear ho3 hg3
      go_wp2_with fail
      have e1 := HS1.out
      have e2 := HS2.out
      have e3 := HK.out
      have e4 := HLEN.out
      have e5 := HBD.out
      have hfin := HFIN.out
      go_roundw
      case rel => exact ⟨j + 1, kj + 1 + 1 + tn, by omega, by omega, by rw [e1] at e5; omega, by go_num, rfl, by show _ = _; rw [e1]; omega, by
        show OwnCU _ _ _ _ _ _ _
        rw [e2, markedC, ← e3, ← e4]
        exact hfin.1, HG.out.trans hfin.2⟩
      case measure => simp [intOf]; omega
    · obtain rfl : j = n := by omega
      go_wp2_with fail
      go_ret
      refine ⟨ret_int ?_, ?_, HG.out⟩
      · rw [HK.out, HNL.out]; rfl
      · have := HR.out
        rw [markC, ← HNL.out]
        exact this
end Go.Proofs.YtjhbplgppakhoaaGreatDoor

namespace Go.Proofs.YtjhbplgppakhoaaGreatDoor
open Go Go.RowKit
set_option linter.unusedVariables false
theorem infoCells : (Tryz.prog.info? 32).map (fun i => (i.zero, i.size, i.bytes)) = some (some (.slice none 0 0), 1, 24) := by kernel_rfl
abbrev It := Option Addr × Nat × Nat × Nat
def It.zero : It := (none, 0, 0, 0)
theorem endC_eq (k : Int) (cs : List Cel) : endC k cs = k + 2 * cs.length + tl cs := by simp [endC, kAt]
end Go.Proofs.YtjhbplgppakhoaaGreatDoor

namespace Go.Proofs.YtjhbplgppakhoaaGreatDoor
open Go Go.RowKit
set_option linter.unusedVariables false
set_option maxRecDepth 100000 in
theorem isDot_any (c : Cel) (rest : List Cel) (p : Option Addr) (n cap : Nat) (w : World) (hb : Byte c.2.2) (hn : n = rest.length + 1) (hin : CIn w p (c :: rest)) :
    Calls Tryz.prog 63 #[.slice p n cap, .string ⟨#[46]⟩, .int .i64 2] w fun e w' => e = .returned (.bool (decide (c = dot))) ∧ w' = w := by
  obtain ⟨b, o, rfl, hcs⟩ := hin (by simp)
  obtain ⟨p0, q0, d0, d1, d2, d3⟩ := hcs 0 (by simp)
  simp only [List.getD_cons_zero, Nat.zero_mul, Nat.add_zero] at d0 d1 d2 d3
  have hcv := conv_str d3 c.2.2.length q0 rfl 9 Tryz.underlying9
  have hstr := str_eq hb [46]
  have hlt : (0 : Int) < n := by omega
  obtain ⟨str, es⟩ : ∃ str, str = strOfNums c.2.2 := ⟨_, rfl⟩
  rw [← es] at hcv hstr
  obtain ⟨m, em⟩ : ∃ m, m = c.2.2.length := ⟨_, rfl⟩
  rw [← em] at hcv d2
  have HEQ : Hid (c = dot ↔ c.1 = 3 ∧ c.2.1 = 2 ∧ c.2.2 = [46]) := by
    obtain ⟨a, b, d⟩ := c
    simp [dot, Hid]
  clear hcs es em hn d3
  by_cases hs : c.2.2 = [46]
  · have hs' : str.toList = [46] := hstr.2 (by rw [hs]; rfl)
    have HS : Hid (c.2.2 = [46]) := hs
    clear hs hstr
    obtain ⟨c0, e0⟩ : ∃ x, x = c.1 := ⟨_, rfl⟩
    obtain ⟨c1, e1⟩ : ∃ x, x = c.2.1 := ⟨_, rfl⟩
    rw [← e0] at d0
    rw [← e1] at d1
    have HE : Hid (c0 = c.1 ∧ c1 = c.2.1) := ⟨e0, e1⟩
    clear e0 e1
    by_cases h3 : c0 = 3
    · subst h3
      go_enter Tryz.func63, Tryz.ntmps63
      go_wp2_with fail
      go_ret
      exact ⟨ret_bool (by
        rw [Bool.eq_iff_iff]
        simp only [decide_eq_true_iff, beq_iff_eq, HEQ.out]
        have := HE.out
        constructor
        · intro h; exact ⟨this.1.symm, by rw [← this.2]; exact h, HS.out⟩
        · intro h; rw [this.2]; exact h.2.1), rfl⟩
    · have h3' : (c0 == 3) = false := by simpa using h3
      have HD : Hid (decide (c = dot) = false) := by
        show _ = _
        rw [decide_eq_false_iff_not, HEQ.out]
        exact fun h => h3 (by rw [HE.out.1]; exact h.1)
      rw [HD.out]
      clear h3
      go_enter Tryz.func63, Tryz.ntmps63
      go_wp2_with fail
      go_ret
      exact ⟨rfl, rfl⟩
  · have hs' : (str.toList == [46]) = false := by rw [beq_eq_false_iff_ne]; exact fun h => hs (by have := hstr.1 h; simpa using this)
    have HD : Hid (decide (c = dot) = false) := by
      show _ = _
      rw [decide_eq_false_iff_not, HEQ.out]
      exact fun h => hs h.2.2
    rw [HD.out]
    clear hs hstr
    go_enter Tryz.func63, Tryz.ntmps63
    go_wp2_with fail
    go_ret
    exact ⟨rfl, rfl⟩
set_option maxRecDepth 100000 in
theorem isNil_any (c : Cel) (rest : List Cel) (p : Option Addr) (n cap : Nat) (w : World) (hb : Byte c.2.2) (hcl : cellB c.1 c.2.1 c.2.2.length = true) (hn : n = rest.length + 1) (hin : CIn w p (c :: rest)) :
    Calls Tryz.prog 63 #[.slice p n cap, .string ⟨#[91, 93]⟩, .int .i64 0] w fun e w' => e = .returned (.bool (decide (c = nilC))) ∧ w' = w := by
  obtain ⟨b, o, rfl, hcs⟩ := hin (by simp)
  obtain ⟨p0, q0, d0, d1, d2, d3⟩ := hcs 0 (by simp)
  simp only [List.getD_cons_zero, Nat.zero_mul, Nat.add_zero] at d0 d1 d2 d3
  have hcv := conv_str d3 c.2.2.length q0 rfl 9 Tryz.underlying9
  have hstr := str_eq hb [91, 93]
  have hlt : (0 : Int) < n := by omega
  obtain ⟨str, es⟩ : ∃ str, str = strOfNums c.2.2 := ⟨_, rfl⟩
  rw [← es] at hcv hstr
  obtain ⟨m, em⟩ : ∃ m, m = c.2.2.length := ⟨_, rfl⟩
  rw [← em] at hcv d2
  have HEQ : Hid (c = nilC ↔ c.1 = 2 ∧ c.2.2 = [91, 93]) := by
    obtain ⟨a, b, d⟩ := c
    simp only at hcl
    constructor
    · intro h; cases h; exact ⟨rfl, rfl⟩
    · rintro ⟨h1, h2⟩
      simp only at h1 h2
      rw [h1] at hcl
      have : b = 0 := by simp [cellB] at hcl; exact hcl.2
      rw [h1, h2, this]; rfl
  clear hcs es em hn d3 hcl
  by_cases hs : c.2.2 = [91, 93]
  · have hs' : str.toList = [91, 93] := hstr.2 (by rw [hs]; rfl)
    have HS : Hid (c.2.2 = [91, 93]) := hs
    clear hs hstr
    obtain ⟨c0, e0⟩ : ∃ x, x = c.1 := ⟨_, rfl⟩
    rw [← e0] at d0
    have HE : Hid (c0 = c.1) := e0
    clear e0
    go_enter Tryz.func63, Tryz.ntmps63
    go_wp2_with fail
    go_ret
    exact ⟨ret_bool (by
      rw [Bool.eq_iff_iff]
      simp only [decide_eq_true_iff, beq_iff_eq, HEQ.out]
      constructor
      · intro h; exact ⟨by rw [← HE.out]; exact h, HS.out⟩
      · intro h; rw [HE.out]; exact h.1), rfl⟩
  · have hs' : (str.toList == [91, 93]) = false := by rw [beq_eq_false_iff_ne]; exact fun h => hs (by have := hstr.1 h; simpa using this)
    have HD : Hid (decide (c = nilC) = false) := by
      show _ = _
      rw [decide_eq_false_iff_not, HEQ.out]
      exact fun h => hs h.2
    rw [HD.out]
    clear hs hstr
    go_enter Tryz.func63, Tryz.ntmps63
    go_wp2_with fail
    go_ret
    exact ⟨rfl, rfl⟩
theorem next_any (cs : List Cel) (p : Option Addr) (n cap : Nat) (i : Nat) (c : Cel) (k : Fo) (rest : List Cel) (w : World) (hn : n = cs.length) (hl : n ≤ 2000) (hok : (Fo.node c k .nil).ok) (hd : cs.drop i = (c :: k.cells) ++ rest) (hin : CIn w p cs) :
    Calls Tryz.prog 87 #[.slice p n cap, .int .i64 i] w fun e w' => e = .returned (.int .i64 ((i + 1 + k.cells.length : Nat) : Int)) ∧ w' = w := by
  have HI : Hid (CIn w p cs) := hin
  have HN : Hid (n = cs.length) := hn
  obtain ⟨tot, et⟩ : ∃ tot, tot = i + 1 + k.cells.length := ⟨_, rfl⟩
  have htot : tot ≤ n := by
    have := congrArg List.length hd
    simp at this
    omega
  have HST : Hid (cs.drop i = (Fo.node c k .nil).cells ++ rest ∧ i + (Fo.node c k .nil).cells.length = tot ∧ (Fo.node c k .nil).ok) := ⟨by rw [hd]; simp [Fo.cells], by simp [Fo.cells]; omega, hok⟩
  rw [← et]
  have hit : i ≤ tot := by omega
  clear hin hn hd hok et
  go_enter Tryz.func87, Tryz.ntmps87
  go_wp2_with fail
  go_loop [1, 5] (fun a s => ∃ (R : Fo) (j m : Nat), j ≤ tot ∧ m ≤ 2000 ∧ a = .int .i64 j ∧ s = .int .i64 m ∧ Hid (cs.drop j = R.cells ++ rest ∧ j + R.cells.length = tot ∧ R.ok ∧ m = R.count)) (fun a _ => tot - (intOf a).toNat)
  case atStart => exact ⟨.node c k .nil, i, 1, hit, by decide, rfl, rfl, HST.out.1, HST.out.2.1, HST.out.2.2, rfl⟩
  case round =>
    obtain ⟨R, j, m, hj, hm, rfl, rfl, HR⟩ := hrel
    cases R with
    | nil =>
      have hm0 : m = 0 := HR.out.2.2.2
      have HJ : Hid (j = tot) := by show _ = _; have := HR.out.2.1; simpa [Fo.cells] using this
      subst hm0
      go_wp2_with fail
      go_ret
      exact ⟨ret_int (by rw [HJ.out]), rfl⟩
    | node c' k' r' =>
      have hmm : m = r'.count + 1 := HR.out.2.2.2
      obtain ⟨hd, hjt, hok', _⟩ := HR.out
      have hjl : j < cs.length := by
        have := congrArg List.length hd
        simp [Fo.cells] at this
        omega
      have hcj : cs.getD j Cel.none = c' := by
        have h1 := drop_at cs j hjl
        rw [hd] at h1
        simp only [Fo.cells, List.cons_append] at h1
        exact (List.cons.inj h1).1.symm
      have hdn : cs.drop (j + 1) = (k'.cat r').cells ++ rest := by
        have h1 := drop_at cs j hjl
        rw [hd] at h1
        simp only [Fo.cells, List.cons_append] at h1
        rw [← (List.cons.inj h1).2, Fo.cells_cat]
      obtain ⟨b, o, rfl, hcs⟩ := HI.out (by omega)
      obtain ⟨p0, q0, d0, d1, _, _⟩ := hcs j hjl
      rw [hcj] at d0 d1
      have hmp : (0 : Int) < m := by omega
      have hjn : (j : Int) < n := by rw [HN.out]; omega
      have HNEXT : Hid (cs.drop (j + 1) = (k'.cat r').cells ++ rest ∧ j + 1 + (k'.cat r').cells.length = tot ∧ (k'.cat r').ok ∧ (k'.cat r').count = k'.count + r'.count) := ⟨hdn, by rw [Fo.cells_cat]; simp [Fo.cells] at hjt; simp; omega, (Fo.ok_cat _ _).2 ⟨hok'.2.2.2.2.1, hok'.2.2.2.2.2⟩, Fo.count_cat _ _⟩
      have hcnt : k'.count + r'.count ≤ 2000 := by
        have := Fo.count_le (k'.cat r')
        have h2 := HNEXT.out.2.1
        rw [Fo.count_cat] at this
        omega
      have hjt2 : j + 1 ≤ tot := by have := HNEXT.out.2.1; omega
      have HMM : Hid (m = r'.count + 1) := hmm
      obtain ⟨c0, e0⟩ : ∃ x, x = c'.1 := ⟨_, rfl⟩
      rw [← e0] at d0
      by_cases h3 : c0 = 3
      · subst h3
        have hcn := hok'.2.2.1 e0.symm
        rw [hcn] at d1
        have HK : Hid (k'.count ≤ 2000) := by show _ ≤ _; omega
        have hk2 : k'.count ≤ 2000 := by omega
        obtain ⟨kc, ekc⟩ : ∃ kc, kc = k'.count := ⟨_, rfl⟩
        rw [← ekc] at d1 hk2
        have HKC : Hid (kc = k'.count) := ekc
        clear hcs hcj hdn hd hjt hok' hcn e0 ekc hmm HI HR
        go_wp2_with fail
        go_round
        case rel => exact ⟨k'.cat r', j + 1, kc + r'.count, hjt2, by have := HKC.out; omega, by go_num, by have := HMM.out; congr 1; omega, HNEXT.out.1, HNEXT.out.2.1, HNEXT.out.2.2.1, by rw [HNEXT.out.2.2.2, HKC.out]⟩
        case measure => simp [intOf]; omega
      · have h3' : (c0 == 3) = false := by simpa using h3
        have hk' : k' = .nil := hok'.2.2.2.1 (by rw [← e0]; exact h3)
        subst hk'
        clear hcs hcj hdn hd hjt hok' e0 hmm HI HR h3
        go_wp2_with fail
        go_round
        case rel => exact ⟨Fo.nil.cat r', j + 1, r'.count, hjt2, by simp [Fo.count] at hcnt; omega, by go_num, by have := HMM.out; congr 1; omega, HNEXT.out.1, HNEXT.out.2.1, HNEXT.out.2.2.1, rfl⟩
        case measure => simp [intOf]; omega
theorem CIn.partI {w : World} {b o : Nat} {cs a m r : List Cel} (h : CIn w (some ⟨b, o, none⟩) cs) (e : cs = a ++ (m ++ r)) : CIn w (some ⟨b, o + a.length * 3, none⟩) m := fun hm => by
  obtain ⟨b', o', e', hc⟩ := h (by rw [e]; simp; omega)
  cases e'
  refine ⟨b, o + a.length * 3, rfl, fun i hi => ?_⟩
  have := hc (a.length + i) (by rw [e]; simp; omega)
  rw [show o + (a.length + i) * 3 = o + a.length * 3 + i * 3 by omega] at this
  have e2 : cs.getD (a.length + i) Cel.none = m.getD i Cel.none := by
    rw [e, List.getD, List.getElem?_append_right (by omega), show a.length + i - a.length = i by omega, List.getElem?_append_left hi, List.getD]
  rwa [e2] at this
def ItV (w : World) (its : List (Cel × Fo)) (us : List Value) : Prop := us.length = its.length ∧ ∀ i (h : i < its.length), ∃ q c, us[i]? = some (.slice q (itC its[i]).length c) ∧ CIn w q (itC its[i])
theorem ItV.snoc {w : World} {its : List (Cel × Fo)} {us : List Value} (h : ItV w its us) (x : Cel × Fo) (q : Option Addr) (c : Nat) (hq : CIn w q (itC x)) : ItV w (its ++ [x]) (us ++ [.slice q (itC x).length c]) := by
  refine ⟨by simp [h.1], fun i hi => ?_⟩
  by_cases e : i < its.length
  · obtain ⟨q', c', h1, h2⟩ := h.2 i e
    refine ⟨q', c', ?_, ?_⟩
    · rw [List.getElem?_append_left (by rw [h.1]; exact e), h1, List.getElem_append_left e]
    · rw [List.getElem_append_left e]; exact h2
  · have e' : i = its.length := by simp at hi; omega
    subst e'
    refine ⟨q, c, ?_, ?_⟩
    · rw [List.getElem?_append_right (by rw [h.1]; exact Nat.le_refl _), h.1]; simp
    · simpa using hq
theorem one_slice (q : Option Addr) (m c : Nat) : ∀ u ∈ [Value.slice q m c], u.oneCell' = true := fun u hu => by simp at hu; rw [hu]; rfl
end Go.Proofs.YtjhbplgppakhoaaGreatDoor

