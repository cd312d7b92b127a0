/- Texts of MarkC, MarkH, SSG, StP, StH, StI, StL, StD, StW, StM, StN, StX, StY, StO, LawVS, MkS, JoinN, LcA, CcA, CcB. Own work of the verifier. -/
import Derived.Test.YtickbkcpcgmlmaaGreatDoorUqae
import Derived.Test.YtickbkcpcgmlmaaGreatDoorUqab
import Derived.ProofKit
import Derived.Deep.Upon
namespace Go.Proofs.YtickbkcpcgmlmaaGreatDoor
set_option linter.unusedVariables false
section
open Go Go.RowKit
def OwnCU (w : World) (B U : Nat) (p : Option Addr) (n c : Nat) (cs : List Cel) : Prop :=
 n = cs.length ∧ ∃ rs : List RC, rs.length = cs.length ∧ w.ownsRow B 52 3 (.slice p n c) n (flat rs) ∧ (∀ i, i < cs.length → Fits w B (rs.getD i RC.zero) (cs.getD i Cel.none)) ∧ ApartC p rs ∧
   (∀ k, Value.ownBlock (.slice p n c) = some k → k < U) ∧ (∀ i, i < cs.length → ∀ k, tb (rs.getD i RC.zero).2.2.1 (rs.getD i RC.zero).2.2.2.1 = some k → k < U)
theorem OwnCU.toC {w : World} {B U : Nat} {p : Option Addr} {n c : Nat} {cs : List Cel} (h : OwnCU w B U p n c cs) : OwnC w B p n c cs := by
 obtain ⟨hn, rs, hl, hr, hf, ha, _⟩ := h; exact ⟨hn, rs, hl, hr, hf, ha⟩
theorem OwnC.up {w : World} {B : Nat} {p : Option Addr} {n c : Nat} {cs : List Cel} (h : OwnC w B p n c cs) : OwnCU w B w.heap.size p n c cs := by
 obtain ⟨hn, rs, hl, hr, hf, ha⟩ := h; exact ⟨hn, rs, hl, hr, hf, ha, fun k hk => (hr.lt k hk).2, fun i hi k hk => ((hf i hi).2.2.tb hk).2.2⟩
theorem OwnCU.other {w w' : World} {B U : Nat} {p : Option Addr} {n c : Nat} {cs : List Cel} (h : OwnCU w B U p n c cs) (hs : w.heap.size ≤ w'.heap.size) (hb : ∀ k, k < w.heap.size → B ≤ k → k < U → w'.heap[k]? = w.heap[k]?) : OwnCU w' B U p n c cs := by
 obtain ⟨hn, rs, hl, hr, hf, ha, hu, ht⟩ := h; refine ⟨hn, rs, hl, ⟨hr.1, ?_⟩, fun i hi => ⟨(hf i hi).1, (hf i hi).2.1, (hf i hi).2.2.other hs (fun g hn0 e => ?_)⟩, ha, hu, ht⟩
 ·rcases hr.2 with h' | ⟨g, cap, cur, hv, hB, hg, r⟩
  ·exact .inl h'
  ·refine .inr ⟨g, cap, cur, hv, hB, (hb g (Array.getElem?_eq_some_iff.1 hg).1 hB (hu g ?_)).trans hg, r⟩
   simp only [Value.slice.injEq] at hv; rw [hv.1]; rfl
 ·have e' : Go.Proofs.YtickbkcpcgmlmaaGreatDoor.tb (rs.getD i RC.zero).2.2.1 (rs.getD i RC.zero).2.2.2.1 = some g := by rw [e]; exact tb_of hn0
  have := (hf i hi).2.2.tb e'; exact hb g this.2.2 this.2.1 (ht i hi g e')
theorem OwnCU.below {w w' : World} {B U : Nat} {p : Option Addr} {n c : Nat} {cs : List Cel} (h : OwnCU w B U p n c cs) (hb : Below w.heap.size w w') : OwnCU w' B U p n c cs := h.other hb.size (fun k hk _ _ => hb.block k hk)
theorem OwnCU.keep {w w' : World} {B U B' U' : Nat} {p : Option Addr} {n c : Nat} {cs : List Cel} (h : OwnCU w B U p n c cs) (hk : Keep B' U' w w') (ho : U ≤ B' ∨ U' ≤ B) : OwnCU w' B U p n c cs := h.other hk.size (fun k h1 h2 h3 => hk.block k h1 (by omega))
def markedC (k : Int) (cs : List Cel) (j : Nat) : Cel := (kAt k cs j, kAt k cs j + 1, marks (kAt k cs j + 1 + 1) (cs.getD j Cel.none).2.2.length)
def mixC (k : Int) (cs : List Cel) (j : Nat) : List Cel := (List.range cs.length).map fun i => if i < j then markedC k cs i else cs.getD i Cel.none
theorem mixC_len (k : Int) (cs : List Cel) (j : Nat) : (mixC k cs j).length = cs.length := by simp [mixC]
theorem mixC_at (k : Int) (cs : List Cel) (j i : Nat) (h : i < cs.length) : (mixC k cs j).getD i Cel.none = if i < j then markedC k cs i else cs.getD i Cel.none := by
 simp [mixC, List.getD, h]
theorem mixC_zero (k : Int) (cs : List Cel) : mixC k cs 0 = cs := same_cells (mixC_len ..) (fun j hj => by rw [mixC_at _ _ _ _ (by rw [mixC_len] at hj; exact hj), if_neg (Nat.not_lt_zero _)])
theorem mixC_succ (k : Int) (cs : List Cel) (j : Nat) (h : j < cs.length) : mixC k cs (j + 1) = (mixC k cs j).set j (markedC k cs j) := same_cells (by simp [mixC]) (fun i hi => by
 rw [mixC_len] at hi; rw [mixC_at _ _ _ _ hi, cs_set_at _ _ _ _ (by rw [mixC_len]; exact h)]
 by_cases e : i = j
 ·subst e; rw [if_pos (by omega), if_pos rfl]
 ·rw [if_neg e, mixC_at _ _ _ _ hi]
  by_cases e2 : i < j
  ·rw [if_pos e2, if_pos (by omega)]
  ·rw [if_neg e2, if_neg (by omega)])
theorem flat_set2 : ∀ (rs : List RC) (i : Nat) (a b : Int), i < rs.length → ((flat rs).set (i * 3) (.int .i64 a)).set (i * 3 + 1) (.int .i64 b) = flat (rs.set i (a, b, (rs.getD i RC.zero).2.2))
 | [], i, a, b, h => by simp at h
 | x :: rs, 0, a, b, _ => by simp [flat_cons]
 | x :: rs, i + 1, a, b, h => by
   have := flat_set2 rs i a b (by simpa using h); rw [flat_cons, show (i + 1) * 3 = (i * 3) + 1 + 1 + 1 by omega, show (i * 3) + 1 + 1 + 1 + 1 = (i * 3 + 1) + 1 + 1 + 1 by omega]; simp only [List.set_cons_succ, this]
   rfl
theorem mark_one {w w3 : World} {B U g n c j : Nat} {ds : List Cel} {rs : List RC} (hn : n = ds.length) (hl : rs.length = ds.length) (hr : w.ownsRow B 52 3 (.slice (some ⟨g, 0, none⟩) n c) n (flat rs)) (hf : ∀ i, i < ds.length → Fits w B (rs.getD i RC.zero) (ds.getD i Cel.none))
  (ha : ApartC (some ⟨g, 0, none⟩) rs) (hu : g < U) (ht : ∀ i, i < ds.length → ∀ k, tb (rs.getD i RC.zero).2.2.1 (rs.getD i RC.zero).2.2.2.1 = some k → k < U) (hj : j < ds.length) (a b : Int) (ms : List Int)
  (ho : OwnT w3 B (rs.getD j RC.zero).2.2.1 (rs.getD j RC.zero).2.2.2.1 (rs.getD j RC.zero).2.2.2.2 ms)
  (hg : ((w.setCell ⟨g, j * 3, none⟩ (.int .i64 a)).setCell ⟨g, j * 3 + 1, none⟩ (.int .i64 b)).grownBy w3 (tb (rs.getD j RC.zero).2.2.1 (rs.getD j RC.zero).2.2.2.1)) :
  OwnCU w3 B U (some ⟨g, 0, none⟩) n c (ds.set j (a, b, ms)) ∧ Keep B U w w3 := by
 have hgB := (hr.lt g rfl)
 have h2 := ((hr.stored (j * 3) (.int .i64 a)).1.stored (j * 3 + 1) (.int .i64 b)).1; rw [flat_set2 rs j a b (by omega)] at h2
 have hnrow : ∀ i, i < ds.length → tb (rs.getD i RC.zero).2.2.1 (rs.getD i RC.zero).2.2.2.1 ≠ some g := fun i hi e => by
  have h1 := (hf i hi).2.2.tb e; exact ha.1 i (by omega) (tb_some e).1 h1.1
 have hat : ∀ i, ((rs.set j (a, b, (rs.getD j RC.zero).2.2)).getD i RC.zero).2.2 = (rs.getD i RC.zero).2.2 := fun i => by
  rw [rs_set_at _ _ _ _ (by omega)]
  by_cases e : i = j
  ·rw [if_pos e, e]
  ·rw [if_neg e]
 refine ⟨⟨by simpa using hn, rs.set j (a, b, (rs.getD j RC.zero).2.2), by simpa using hl, h2.kept hg (.inr (fun e => hnrow j hj e.symm)), fun i hi => ?_, ⟨fun i hi => ?_, fun i i' hi hi' hne => ?_⟩, fun k hk => ?_, fun i hi k hk => ?_⟩, ?_⟩
 ·have hi' : i < ds.length := by simpa using hi
  rw [cs_set_at _ _ _ _ hj, rs_set_at _ _ _ _ (by omega)]
  by_cases e : i = j
  ·rw [if_pos e, if_pos e]
   exact ⟨rfl, rfl, ho⟩
  ·rw [if_neg e, if_neg e]
   obtain ⟨q0, q1, q2⟩ := hf i hi'; refine ⟨q0, q1, ((q2.setCell (a := ⟨g, j * 3, none⟩) (fun hp e' => ha.1 i (by omega) hp e') _).setCell (a := ⟨g, j * 3 + 1, none⟩) (fun hp e' => ha.1 i (by omega) hp e') _).other hg.size (fun k hp e' => ?_)⟩; have hk := (q2.tb (e' ▸ tb_of hp)).2.2; refine hg.block k (by simpa using hk) (fun e2 => ?_); have h5 := (hf j hj).2.2.tb e2.symm; exact ha.2 i j (by omega) (by omega) e hp (tb_some e2.symm).1 (by rw [e', h5.1])
 ·rw [hat]; exact ha.1 i (by simpa using hi)
 ·rw [hat, hat]; exact ha.2 i i' (by simpa using hi) (by simpa using hi') hne
 ·have : k = g := (Option.some.inj hk).symm
  omega
 ·rw [hat] at hk
  exact ht i (by simpa using hi) k hk
 ·refine Keep.trans (Keep.trans (b := w.setCell ⟨g, j * 3, none⟩ (.int .i64 a)) ?_ ?_) (Keep.of_grown hg (fun k e => ⟨((hf j hj).2.2.tb e).2.1, ht j hj k e⟩))
  ·exact ⟨rfl, rfl, rfl, by simp, fun k _ hp => Below.heap_setCell _ _ _ _ (show k ≠ g by omega)⟩
  ·exact ⟨rfl, rfl, rfl, by simp, fun k _ hp => Below.heap_setCell _ _ _ _ (show k ≠ g by omega)⟩
def markC (k : Int) (cs : List Cel) : List Cel := mixC k cs cs.length
def endC (k : Int) (cs : List Cel) : Int := kAt k cs cs.length
theorem markCells_any (B U : Nat) (p : Option Addr) (n c : Nat) (k : Int) (cs : List Cel) (w : World) (h0 : 0 ≤ k) (h1 : k ≤ 10000000) (hn : cs.length + tl cs ≤ 100000000) (hown : OwnCU w B U p n c cs) :
  Calls Tryz.prog 10 #[.slice p n c, .int .i64 k] w fun e w' => e = .returned (.int .i64 (endC k cs)) ∧ OwnCU w' B U p n c (markC k cs) ∧ Keep B U w w' := by
 have hnl := hown.1; have HO : Hid (OwnCU w B U p n c cs) := hown; clear hown; have HNL : Hid (n = cs.length) := hnl; clear hnl
 go_enter Tryz.func10, Tryz.ntmps10
 go_wp2
 go_loopw [1, 5] (fun q i wr => ∃ (j : Nat) (kj : Int), j ≤ n ∧ 0 ≤ kj ∧ kj ≤ 1000000000 ∧ i = .int .i64 j ∧ q = .int .i64 kj ∧ Hid (kj = kAt k cs j) ∧ Hid (OwnCU wr B U p n c (mixC k cs j)) ∧ Hid (Keep B U w wr)) (fun _ i _ => n - (intOf i).toNat)
 case atStart => exact ⟨0, k, Nat.zero_le _, h0, by omega, rfl, rfl, (kAt_zero _ _).symm, by rw [mixC_zero]; exact HO, Keep.refl _ _ _⟩
 case round =>
  obtain ⟨j, kj, hj, hk0, hk1, rfl, rfl, HK, HR, HG⟩ := hrel
  by_cases hlt : j < n
  ·obtain ⟨hn1, rs, hl, hr, hf, ha, hu, ht⟩ := HR.out
   obtain ⟨g, cap, hv, hbg, hgs⟩ := hr.form (by omega); simp only [Value.slice.injEq, true_and] at hv; obtain ⟨rfl, rfl⟩ := hv
   have hjl : j < cs.length := by rw [← HNL.out]; exact hlt
   rw [mixC_len] at hl hf ht; obtain ⟨a0, a1, a2⟩ := flat_at rs j (by omega); have d0 := (hr.cellAt (j * 3) (by omega)).trans a0; have d1 := (hr.cellAt (j * 3 + 1) (by omega)).trans a1; have d2 := (hr.cellAt (j * 3 + 2) (by omega)).trans a2; have ff := hr.frozenAt; obtain ⟨q0, q1, q2⟩ := hf j hjl
   have hlen : (rs.getD j RC.zero).2.2.2.1 = (cs.getD j Cel.none).2.2.length := by
    rw [q2.1, mixC_at _ _ _ _ hjl, if_neg (Nat.lt_irrefl j)]
   have htl := tl_at cs j hjl
   have hkb : kj + 1 + 1 ≤ 1000000000000 := by omega
   have HMARK := markT_any B (rs.getD j RC.zero).2.2.1 (rs.getD j RC.zero).2.2.2.1 (rs.getD j RC.zero).2.2.2.2 (kj + 1 + 1) _ _ (by omega) hkb (by omega) ((q2.setCell (a := ⟨g, j * 3, none⟩) (fun hp e' => ha.1 j (by omega) hp e') (.int .i64 kj)).setCell (a := ⟨g, j * 3 + 1, none⟩) (fun hp e' => ha.1 j (by omega) hp e') (.int .i64 (kj + 1)))
   have HONE : Hid (∀ w3 ms, OwnT w3 B (rs.getD j RC.zero).2.2.1 (rs.getD j RC.zero).2.2.2.1 (rs.getD j RC.zero).2.2.2.2 ms → ((wr.setCell ⟨g, j * 3, none⟩ (.int .i64 kj)).setCell ⟨g, j * 3 + 1, none⟩ (.int .i64 (kj + 1))).grownBy w3 (tb (rs.getD j RC.zero).2.2.1 (rs.getD j RC.zero).2.2.2.1) →
     OwnCU w3 B U (some ⟨g, 0, none⟩) n c ((mixC k cs j).set j (kj, kj + 1, ms)) ∧ Keep B U wr w3) := fun w3 ms h1 h2 => mark_one hn1 (by rw [mixC_len]; exact hl) hr (by rw [mixC_len]; exact hf) ha (hu g rfl) (by rw [mixC_len]; exact ht) (by rw [mixC_len]; exact hjl) kj (kj + 1) ms h1 h2
   have HS1 : Hid _ := kAt_succ k cs j hjl; have HS2 : Hid _ := mixC_succ k cs j hjl; have HLEN : Hid _ := hlen
   have hbound : kAt k cs (j + 1) ≤ 1000000000 := by have := tl_take_le cs (j + 1); simp only [kAt]; omega
   have HBD : Hid _ := hbound
   obtain ⟨tp, etp⟩ : ∃ x, x = (rs.getD j RC.zero).2.2.1 := ⟨_, rfl⟩
   obtain ⟨tn, etn⟩ : ∃ x, x = (rs.getD j RC.zero).2.2.2.1 := ⟨_, rfl⟩
   obtain ⟨tc, etc⟩ : ∃ x, x = (rs.getD j RC.zero).2.2.2.2 := ⟨_, rfl⟩
   rw [← etp, ← etn, ← etc] at HMARK d2 HONE; rw [← etn] at HLEN hlen
   have htn : tn ≤ 100000000 := by omega
   clear etp etn etc hn1 hl hr hf ha hu ht a0 a1 a2 q0 q1 q2 hlen htl HR HO hbound; go_wp2_with fail; refine HMARK.mono ?_; rintro e w3 ⟨rfl, ho3, hg3⟩; have HFIN : Hid _ := HONE.out w3 _ ho3 hg3; clear ho3 hg3; go_wp2_with fail; have e1 := HS1.out; have e2 := HS2.out; have e3 := HK.out; have e4 := HLEN.out; have e5 := HBD.out; have hfin := HFIN.out; go_roundw
   case rel => exact ⟨j + 1, kj + 1 + 1 + tn, by omega, by omega, by rw [e1] at e5; omega, by go_num, rfl, by show _ = _; rw [e1]; omega, by
    show OwnCU _ _ _ _ _ _ _
    rw [e2, markedC, ← e3, ← e4]
    exact hfin.1, HG.out.trans hfin.2⟩
   case measure => simp [intOf]; omega
  ·obtain rfl : j = n := by omega
   go_wp2_with fail; go_ret; refine ⟨ret_int ?_, ?_, HG.out⟩
   ·rw [HK.out, HNL.out]; rfl
   ·have := HR.out
    rw [markC, ← HNL.out]; exact this
theorem infoCells : (Tryz.prog.info? 27).map (fun i => (i.zero, i.size, i.bytes)) = some (some (.slice none 0 0), 1, 24) := by kernel_rfl
def numA (xs : List Cel) (i : Nat) : Int := (xs.getD i Cel.none).2.1
def eW (xs : List Cel) (k n : Int) : Int := if k = 0 then n + 1 else if k = 4 then n + 1 + numA xs n.toNat else 0
end
section
open Go Go.RowKit Go.Maps
end
section
open Go Go.RowKit
end
section
open Go Go.RowKit Go.Maps
end
section
open Go Go.RowKit
theorem OwnC.set {w : World} {B : Nat} {p : Option Addr} {n c : Nat} {cs : List Cel} (h : OwnC w B p n c cs) {a : Addr} (ha : a.block < B) (u : Value) : OwnC (w.setCell a u) B p n c cs := by
 obtain ⟨hn, rs, hl, hr, hf, hx⟩ := h; refine ⟨hn, rs, hl, ownsRow_setCell_other hr ?_ u, fun i hi => ⟨(hf i hi).1, (hf i hi).2.1, (hf i hi).2.2.setCell (fun hp e => ?_) u⟩, hx⟩
 ·intro e
  have := (hr.lt a.block e).1
  omega
 ·obtain ⟨g, eg, hB, _⟩ := (hf i hi).2.2.2 hp
  rw [e] at eg; have := congrArg Addr.block (Option.some.inj eg)
  simp at this; omega
theorem OwnI.set {w : World} {B : Nat} {t : TypeId} {p : Option Addr} {n c : Nat} {zs : List Int} (h : OwnI w B t p n c zs) {a : Addr} (ha : a.block < B) (u : Value) : OwnI (w.setCell a u) B t p n c zs := by
 refine ⟨h.1, ownsRow_setCell_other h.2 ?_ u⟩
 intro e
 have := (h.2.lt a.block e).1
 omega
theorem OwnCU.set {w : World} {B U : Nat} {p : Option Addr} {n c : Nat} {cs : List Cel} (h : OwnCU w B U p n c cs) {a : Addr} (ha : a.block < B) (u : Value) : OwnCU (w.setCell a u) B U p n c cs :=
 h.other (by simp) (fun k _ hk _ => Below.heap_setCell _ _ _ _ (by omega))
theorem OwnCU.mono {w : World} {B B' U : Nat} {p : Option Addr} {n c : Nat} {cs : List Cel} (h : OwnCU w B U p n c cs) (hB : B' ≤ B) : OwnCU w B' U p n c cs := by
 obtain ⟨hn, rs, hl, hr, hf, ha, hu, ht⟩ := h; exact ⟨hn, rs, hl, ownsRow_down hr hB, fun i hi => ⟨(hf i hi).1, (hf i hi).2.1, (hf i hi).2.2.mono hB⟩, ha, hu, ht⟩
theorem Keep.alloc {B U : Nat} {w w' : World} (h : Keep B U w w') (o : Obj) : Keep B U w (w'.alloc o) := h.trans ⟨rfl, rfl, rfl, by simp, fun k hk _ => Below.heap_alloc _ _ _ hk⟩
theorem Keep.new (B U : Nat) (w : World) (o : Obj) : Keep B U w (w.alloc o) := (Keep.refl B U w).alloc o
theorem Box3.lt {w : World} {b : Nat} {v0 v1 v2 : Value} (h : Box3 w b v0 v1 v2) : b < w.heap.size := World.block_lt_of_cell? _ _ h.1
theorem Box3.on {w w' : World} {b : Nat} {v0 v1 v2 : Value} (h : Box3 w b v0 v1 v2) (hb : Below w.heap.size w w') : Box3 w' b v0 v1 v2 := h.below hb h.lt
theorem Box3.keep {w w' : World} {b B U : Nat} {v0 v1 v2 : Value} (h : Box3 w b v0 v1 v2) (hk : Keep B U w w') (hp : b < B ∨ U ≤ b) : Box3 w' b v0 v1 v2 := by
 have e := hk.block b h.lt hp; exact ⟨(World.cell?_of_block (a := ⟨b, 0, none⟩) e).trans h.1, (World.cell?_of_block (a := ⟨b, 1, none⟩) e).trans h.2.1, (World.cell?_of_block (a := ⟨b, 2, none⟩) e).trans h.2.2.1, fun j => (World.frozen?_of_block (a := ⟨b, j, none⟩) e).trans (h.2.2.2 j)⟩
theorem Box3.put {w : World} {b : Nat} {u0 u1 u2 : Value} (h : Box3 w b u0 u1 u2) (v0 v1 v2 : Value) : Box3 (((w.setCell ⟨b, 0, none⟩ v0).setCell ⟨b, 1, none⟩ v1).setCell ⟨b, 2, none⟩ v2) b v0 v1 v2 := by
 obtain ⟨e0, e1, e2⟩ := box3_set h.1 h.2.1 h.2.2.1 v0 v1 v2; exact ⟨e0, e1, e2, fun i => by rw [World.frozen?_setCell, World.frozen?_setCell, World.frozen?_setCell]; exact h.2.2.2 i⟩
def OwnIU (w : World) (B U : Nat) (p : Option Addr) (n c : Nat) (zs : List Int) : Prop := OwnI w B 3 p n c zs ∧ ∀ g, Value.ownBlock (.slice p n c) = some g → g < U
theorem OwnI.up {w : World} {B : Nat} {p : Option Addr} {n c : Nat} {zs : List Int} (h : OwnI w B 3 p n c zs) : OwnIU w B w.heap.size p n c zs := ⟨h, fun g e => (h.2.lt g e).2⟩
theorem OwnIU.on {w w' : World} {B U : Nat} {p : Option Addr} {n c : Nat} {zs : List Int} (h : OwnIU w B U p n c zs) (hb : Below w.heap.size w w') : OwnIU w' B U p n c zs := ⟨h.1.below hb, h.2⟩
theorem OwnIU.keep {w w' : World} {B U B' U' : Nat} {p : Option Addr} {n c : Nat} {zs : List Int} (h : OwnIU w B U p n c zs) (hk : Keep B' U' w w') (ho : U ≤ B' ∨ U' ≤ B) : OwnIU w' B U p n c zs := by
 refine ⟨⟨h.1.1, h.1.2.1, ?_⟩, h.2⟩
 rcases h.1.2.2 with h' | ⟨g, cap, cur, hv, hB, hg, r⟩
 ·exact .inl h'
 ·have hu : g < U := h.2 g (by simp only [Value.slice.injEq] at hv; rw [hv.1]; rfl)
  exact .inr ⟨g, cap, cur, hv, hB, (hk.block g (Array.getElem?_eq_some_iff.1 hg).1 (by omega)).trans hg, r⟩
def OwnTU (w : World) (B U : Nat) (p : Option Addr) (n c : Nat) (t : List Int) : Prop := OwnT w B p n c t ∧ ∀ g, tb p n = some g → g < U
theorem OwnT.up {w : World} {B : Nat} {p : Option Addr} {n c : Nat} {t : List Int} (h : OwnT w B p n c t) : OwnTU w B w.heap.size p n c t := ⟨h, fun g e => (h.tb e).2.2⟩
theorem OwnTU.on {w w' : World} {B U : Nat} {p : Option Addr} {n c : Nat} {t : List Int} (h : OwnTU w B U p n c t) (hb : Below w.heap.size w w') : OwnTU w' B U p n c t := ⟨h.1.below hb, h.2⟩
theorem OwnTU.keep {w w' : World} {B U B' U' : Nat} {p : Option Addr} {n c : Nat} {t : List Int} (h : OwnTU w B U p n c t) (hk : Keep B' U' w w') (ho : U ≤ B' ∨ U' ≤ B) : OwnTU w' B U p n c t := by
 refine ⟨h.1.other hk.size (fun g hn e => ?_), h.2⟩
 have e' : Go.Proofs.YtickbkcpcgmlmaaGreatDoor.tb p n = some g := by rw [e]; exact tb_of hn
 have := h.1.tb e'; have hu := h.2 g e'; exact hk.block g this.2.2 (by omega)
def BoxL (w : World) (b : Nat) (vs : List Value) : Prop := b < w.heap.size ∧ (∀ i, i < vs.length → w.cell? ⟨b, i, none⟩ = vs[i]?) ∧ ∀ j, w.frozen? ⟨b, j, none⟩ = false
theorem BoxL.of_block {w : World} {b : Nat} {vs : Array Value} {t : TypeId} (h : w.heap[b]? = some (.cells vs t)) : BoxL w b vs.toList :=
 ⟨(Array.getElem?_eq_some_iff.1 h).1, fun i hi => by simp [World.cell?, h], fun j => frozen_of_row w b j _ t h⟩
theorem BoxL.below {w w' : World} {b : Nat} {vs : List Value} (h : BoxL w b vs) (hb : Below w.heap.size w w') : BoxL w' b vs :=
 ⟨Nat.lt_of_lt_of_le h.1 hb.size, fun i hi => (hb.cell (p := ⟨b, i, none⟩) h.1).trans (h.2.1 i hi), fun j => (hb.frozen (p := ⟨b, j, none⟩) h.1).trans (h.2.2 j)⟩
theorem BoxL.other {w : World} {b : Nat} {vs : List Value} (h : BoxL w b vs) {a : Addr} (ha : b ≠ a.block) (u : Value) : BoxL (w.setCell a u) b vs :=
 ⟨by simpa using h.1, fun i hi => (World.cell?_setCell_other _ _ _ _ (fun e => ha (by rw [e]))).trans (h.2.1 i hi), fun j => by simp [h.2.2 j]⟩
theorem BoxL.set {w : World} {b : Nat} {vs : List Value} (h : BoxL w b vs) (i : Nat) (u : Value) (hi : i < vs.length) : BoxL (w.setCell ⟨b, i, none⟩ u) b (vs.set i u) := by
 refine ⟨by simpa using h.1, fun j hj => ?_, fun j => by simp [h.2.2 j]⟩
 have hj' : j < vs.length := by simpa using hj
 by_cases e : j = i
 ·subst e
  rw [World.cell?_setCell_same' _ _ _ (by rw [h.2.1 j hj', List.getElem?_eq_getElem hj']; rfl), List.getElem?_set_self hj']
 ·rw [World.cell?_setCell_other _ _ _ _ (by first | (simp; done) | (simp; omega)), h.2.1 j hj', List.getElem?_set_ne (by omega)]
theorem heap_threeL (w : World) (a b c : Obj) : (((w.alloc a).alloc b).alloc c).heap[w.heap.size]? = some a ∧ (((w.alloc a).alloc b).alloc c).heap[w.heap.size + 1]? = some b ∧ (((w.alloc a).alloc b).alloc c).heap[w.heap.size + 1 + 1]? = some c := by
 refine ⟨?_, (heap_three w a b c).1, (heap_three w a b c).2⟩; rw [Below.heap_alloc _ _ _ (by simp; omega), Below.heap_alloc _ _ _ (by simp)]; exact heap_alloc_new w _
structure Iv where
 op : Int
 r : Int
 a : Int
 c : Cel
 K : List Cel
 L : List Int
def Iv.zero : Iv := ⟨0, 0, 0, Cel.none, [], []⟩
def szI (x : Iv) : Nat := x.c.2.2.length + (x.K.length + tl x.K) + x.L.length
def szIs : List Iv → Nat
 | [] => 0
 | q :: r => szI q + szIs r
theorem szIs_at : ∀ (ps : List Iv) (i : Nat), i < ps.length → szI (ps.getD i Iv.zero) ≤ szIs ps
 | [], i, h => by simp at h
 | c :: r, 0, _ => by simp [szIs]
 | c :: r, i + 1, h => by have := szIs_at r i (by simpa using h); simp only [szIs, List.getD_cons_succ]; omega
theorem szIs_take : ∀ (ps : List Iv) (k : Nat), k < ps.length → szIs (ps.take (k + 1)) = szIs (ps.take k) + szI (ps.getD k Iv.zero)
 | [], k, h => by simp at h
 | c :: r, 0, _ => by simp [szIs]
 | c :: r, k + 1, h => by
   have := szIs_take r k (by simpa using h); simp only [List.take_succ_cons, szIs, this]
   simp; omega
theorem szIs_take_le : ∀ (ps : List Iv) (k : Nat), szIs (ps.take k) ≤ szIs ps
 | [], k => by simp [szIs]
 | c :: r, 0 => by simp [szIs]
 | c :: r, k + 1 => by have := szIs_take_le r k; simp only [List.take_succ_cons, szIs]; omega
def ivV (x : Iv) (q : Option Addr) (qc : Nat) (s : Option Addr) (sc : Nat) (u : Option Addr) (uc : Nat) : List Value := [.int .i64 x.op, .int .i64 x.r, .int .i64 x.a, .int .i64 x.c.1, .int .i64 x.c.2.1, .slice q x.c.2.2.length qc, .slice s x.K.length sc, .slice u x.L.length uc]
def IvIn (w : World) (p : Option Addr) (xs : List Iv) : Prop :=
 0 < xs.length → ∃ b o, p = some ⟨b, o, none⟩ ∧ ∀ i, i < xs.length → ∃ q qc s sc u uc, (∀ j, j < 8 → w.cell? ⟨b, o + i * 8 + j, none⟩ = (ivV (xs.getD i Iv.zero) q qc s sc u uc)[j]?) ∧ BIn w q (xs.getD i Iv.zero).c.2.2 ∧ CIn w s (xs.getD i Iv.zero).K ∧ IIn w u (xs.getD i Iv.zero).L
theorem IvIn.below {W W' : World} {p : Option Addr} {xs : List Iv} (h : IvIn W p xs) (hb : Below W.heap.size W W') : IvIn W' p xs := fun hn => by
 obtain ⟨b, o, rfl, hc⟩ := h hn; refine ⟨b, o, rfl, fun i hi => ?_⟩; obtain ⟨q, qc, s, sc, u, uc, h0, h1, h2, h3⟩ := hc i hi; have hlt : b < W.heap.size := World.block_lt_of_cell? (u := .int .i64 (xs.getD i Iv.zero).op) W ⟨b, o + i * 8 + 0, none⟩ (h0 0 (by omega)); exact ⟨q, qc, s, sc, u, uc, fun j hj => (hb.cell (p := ⟨b, _, none⟩) hlt).trans (h0 j hj), h1.below hb, h2.below hb, h3.below hb⟩
abbrev R8 := (Int × Int × Int × Int × Int) × Option Addr × Nat × Nat
def R8.zero : R8 := ((0, 0, 0, 0, 0), Option.none, 0, 0)
def hdI (x : Iv) : Int × Int × Int × Int × Int := (x.op, x.r, x.a, x.c.1, x.c.2.1)
theorem infoIns8 : (Tryz.prog.info? 72).map (fun i => (i.zero, i.size, i.bytes)) = some (some (.agg #[.int .i64 0, .int .i64 0, .int .i64 0, .int .i64 0, .int .i64 0, .slice none 0 0, .slice none 0 0, .slice none 0 0]), 8, 112) := by kernel_rfl
theorem r8_append_at (rs : List R8) (r : R8) (i : Nat) (h : i ≤ rs.length) : (rs ++ [r]).getD i R8.zero = if i = rs.length then r else rs.getD i R8.zero := by
 simp only [List.getD, List.getElem?_append]
 by_cases e : i = rs.length
 ·subst e; simp
 ·rw [if_pos (by omega), if_neg e]
theorem iv_append_at (ts : List Iv) (t : Iv) (i : Nat) (h : i ≤ ts.length) : (ts ++ [t]).getD i Iv.zero = if i = ts.length then t else ts.getD i Iv.zero := by
 simp only [List.getD, List.getElem?_append]
 by_cases e : i = ts.length
 ·subst e; simp
 ·rw [if_pos (by omega), if_neg e]
def riV (r : R8) : List Value := [.int .i64 r.1.1, .int .i64 r.1.2.1, .int .i64 r.1.2.2.1, .int .i64 r.1.2.2.2.1, .int .i64 r.1.2.2.2.2, .slice r.2.1 r.2.2.1 r.2.2.2, .slice none 0 0, .slice none 0 0]
def flatI (rs : List R8) : List Value := rs.flatMap riV
theorem flatI_cons (r : R8) (rs : List R8) : flatI (r :: rs) = .int .i64 r.1.1 :: .int .i64 r.1.2.1 :: .int .i64 r.1.2.2.1 :: .int .i64 r.1.2.2.2.1 :: .int .i64 r.1.2.2.2.2 :: .slice r.2.1 r.2.2.1 r.2.2.2 :: .slice none 0 0 :: .slice none 0 0 :: flatI rs := rfl
theorem flatI_append (a b : List R8) : flatI (a ++ b) = flatI a ++ flatI b := List.flatMap_append
theorem flatI_one (r : R8) : flatI [r] = riV r := by simp [flatI]
theorem flatI_at : ∀ (rs : List R8) (i : Nat), i < rs.length → ∀ j, j < 8 → (flatI rs)[i * 8 + j]? = (riV (rs.getD i R8.zero))[j]?
 | [], i, h, j, hj => by simp at h
 | r :: rs, 0, _, j, hj => by
   rw [show 0 * 8 + j = j by omega]
   match j, hj with
   | 0, _ => rfl
   | 1, _ => rfl
   | 2, _ => rfl
   | 3, _ => rfl
   | 4, _ => rfl
   | 5, _ => rfl
   | 6, _ => rfl
   | 7, _ => rfl
 | r :: rs, i + 1, h, j, hj => by
   have := flatI_at rs i (by simpa using h) j hj; rw [flatI_cons, show (i + 1) * 8 + j = (i * 8 + j) + 1 + 1 + 1 + 1 + 1 + 1 + 1 + 1 by omega]
   simpa using this
def FitsI (w : World) (B : Nat) (r : R8) (t : Iv) : Prop := r.1 = hdI t ∧ (t.K = [] ∧ t.L = []) ∧ OwnT w B r.2.1 r.2.2.1 r.2.2.2 t.c.2.2
def ApartI (Z : List Nat) (p : Option Addr) (rs : List R8) : Prop :=
 (∀ i, i < rs.length → 0 < (rs.getD i R8.zero).2.2.1 → (rs.getD i R8.zero).2.1 ≠ p) ∧
 (∀ i j, i < rs.length → j < rs.length → i ≠ j → 0 < (rs.getD i R8.zero).2.2.1 → 0 < (rs.getD j R8.zero).2.2.1 → (rs.getD i R8.zero).2.1 ≠ (rs.getD j R8.zero).2.1) ∧
 (∀ z ∈ Z, p ≠ some ⟨z, 0, none⟩ ∧ ∀ i, i < rs.length → 0 < (rs.getD i R8.zero).2.2.1 → (rs.getD i R8.zero).2.1 ≠ some ⟨z, 0, none⟩)
def OwnIv (Z : List Nat) (w : World) (B : Nat) (p : Option Addr) (n c : Nat) (ts : List Iv) : Prop :=
 n = ts.length ∧ ∃ rs : List R8, rs.length = ts.length ∧ w.ownsRow B 72 8 (.slice p n c) n (flatI rs) ∧ (∀ i, i < ts.length → FitsI w B (rs.getD i R8.zero) (ts.getD i Iv.zero)) ∧ ApartI Z p rs
theorem OwnIv.nil (Z : List Nat) (w : World) (B : Nat) : OwnIv Z w B none 0 0 [] := ⟨rfl, [], rfl, World.ownsRow_nil _ _ _ _, fun i h => by simp at h, fun i h => by simp at h, fun i j h => by simp at h, fun z hz => ⟨by simp, fun i h => by simp at h⟩⟩
theorem OwnIv.lies {Z : List Nat} {w : World} {B : Nat} {p : Option Addr} {n c : Nat} {ts : List Iv} (h : OwnIv Z w B p n c ts) : IvIn w p ts := fun hn => by
 obtain ⟨rfl, rs, hl, hr, hf, _⟩ := h; obtain ⟨g, cap, hv, hb, hg⟩ := hr.form hn; simp only [Value.slice.injEq, true_and] at hv; obtain ⟨rfl, rfl⟩ := hv; refine ⟨g, 0, rfl, fun i hi => ?_⟩; obtain ⟨f0, ⟨fK, fL⟩, f2⟩ := hf i hi; have hat := flatI_at rs i (by omega); rw [Nat.zero_add]; refine ⟨(rs.getD i R8.zero).2.1, (rs.getD i R8.zero).2.2.2, none, 0, none, 0, fun j hj => ?_, f2.bin, fun h => by rw [fK] at h; simp at h, fun h => by rw [fL] at h; simp at h⟩; rw [hr.cellAt _ (by omega), hat j hj]
 unfold riV ivV
 rw [f0, f2.len, fK, fL]
 rfl
theorem OwnIv.below {Z : List Nat} {w w' : World} {B : Nat} {p : Option Addr} {n c : Nat} {ts : List Iv} (h : OwnIv Z w B p n c ts) (hb : Below w.heap.size w w') : OwnIv Z w' B p n c ts := by
 obtain ⟨rfl, rs, hl, hr, hf, ha⟩ := h; exact ⟨rfl, rs, hl, row_below hr hb, fun i hi => ⟨(hf i hi).1, (hf i hi).2.1, (hf i hi).2.2.below hb⟩, ha⟩
theorem OwnIv.mono {Z : List Nat} {w : World} {B B' : Nat} {p : Option Addr} {n c : Nat} {ts : List Iv} (h : OwnIv Z w B p n c ts) (hB : B' ≤ B) : OwnIv Z w B' p n c ts := by
 obtain ⟨hn, rs, hl, hr, hf, ha⟩ := h; exact ⟨hn, rs, hl, ownsRow_down hr hB, fun i hi => ⟨(hf i hi).1, (hf i hi).2.1, (hf i hi).2.2.mono hB⟩, ha⟩
theorem ownIv_grew {Z : List Nat} {W0 w w' : World} {B g n cap cp : Nat} {p : Option Addr} {ts : List Iv} {rs : List R8} (hn : n = ts.length) (hl : rs.length = ts.length) (hr0 : W0.ownsRow B 72 8 (.slice p n cp) n (flatI rs))
  (hf : ∀ i, i < ts.length → FitsI W0 B (rs.getD i R8.zero) (ts.getD i Iv.zero)) (ha : ApartI Z p rs) (hZ : ∀ z ∈ Z, z < W0.heap.size) (hb0 : Below W0.heap.size W0 w) (hB : B ≤ W0.heap.size)
  {x : Iv} {tp : Option Addr} {tn tc : Nat} (hK : x.K = [] ∧ x.L = []) (ht : OwnT w W0.heap.size tp tn tc x.c.2.2)
  (hr : w'.ownsRow B 72 8 (.slice (some ⟨g, 0, none⟩) (n + 1) cap) (n + 1) (flatI rs ++ riV (hdI x, tp, tn, tc))) (hg : w.grownBy w' (Value.ownBlock (.slice p n cp))) (hat : Value.ownBlock (.slice p n cp) = some g ∨ g = w.heap.size) :
  OwnIv Z w' B (some ⟨g, 0, none⟩) (n + 1) cap (ts ++ [x]) := by
 have hown : ∀ k, Value.ownBlock (.slice p n cp) = some k → p = some ⟨k, 0, none⟩ ∧ k < W0.heap.size := fun k hk => by
  rcases hr0.2 with ⟨hv, _⟩ | ⟨g', cap', cur, hv, hb, hg', _⟩
  ·simp only [Value.slice.injEq] at hv; rw [hv.1] at hk; simp [Value.ownBlock] at hk
  ·simp only [Value.slice.injEq] at hv
   rw [hv.1] at hk ⊢
   simp [Value.ownBlock] at hk
   subst hk; exact ⟨rfl, (Array.getElem?_eq_some_iff.1 hg').1⟩
 have hold : ∀ i, i < ts.length → OwnT w B (rs.getD i R8.zero).2.1 (rs.getD i R8.zero).2.2.1 (rs.getD i R8.zero).2.2.2 (ts.getD i Iv.zero).c.2.2 := fun i hi => (hf i hi).2.2.below hb0
 have hlow : ∀ i, i < ts.length → 0 < (rs.getD i R8.zero).2.2.1 → ∃ k, (rs.getD i R8.zero).2.1 = some ⟨k, 0, none⟩ ∧ k < W0.heap.size := fun i hi hp => by
  obtain ⟨k, e, _, hlt, _⟩ := (hf i hi).2.2.2 hp; exact ⟨k, e, hlt⟩
 have hhigh : 0 < tn → ∃ k, tp = some ⟨k, 0, none⟩ ∧ W0.heap.size ≤ k ∧ k < w.heap.size := fun hp => by
  obtain ⟨k, e, h1, h2, _⟩ := ht.2 hp; exact ⟨k, e, h1, h2⟩
 have hnewg : g < W0.heap.size ∨ g = w.heap.size := by
  rcases hat with h | h
  ·exact .inl (hown g h).2
  ·exact .inr h
 refine ⟨by simp; omega, rs ++ [(hdI x, tp, tn, tc)], by simp; omega, by rw [flatI_append, flatI_one]; exact hr, fun i hi => ?_, fun i hi hp => ?_, fun i j hi hj hij hpi hpj => ?_, fun z hz => ⟨?_, fun i hi hp => ?_⟩⟩
 ·have hi' : i ≤ ts.length := by simp at hi; omega
  rw [r8_append_at _ _ _ (by omega), iv_append_at _ _ _ hi']
  by_cases e : i = ts.length
  ·rw [if_pos (by omega), if_pos e]
   refine ⟨rfl, hK, (ht.mono hB).other hg.size (fun k hn0 e' => ?_)⟩; obtain ⟨k', e'', h1, h2⟩ := hhigh hn0
   have hkk : k = k' := by
    have := e'.symm.trans e''; exact congrArg Addr.block (Option.some.inj this)
   refine hg.block k (by omega) (fun hk => ?_); have := (hown k hk.symm).2
   omega
  ·rw [if_neg (by omega), if_neg e]
   refine ⟨(hf i (by omega)).1, (hf i (by omega)).2.1, (hold i (by omega)).other hg.size (fun k hn0 e' => ?_)⟩; obtain ⟨k', e'', h1⟩ := hlow i (by omega) hn0; have hkk : k = k' := congrArg Addr.block (Option.some.inj (e'.symm.trans e'')); refine hg.block k (by have := hb0.size; omega) (fun hk => ?_); exact ha.1 i (by omega) hn0 (by rw [e', (hown k hk.symm).1])
 ·have hi' : i ≤ rs.length := by simp at hi; omega
  rw [r8_append_at _ _ _ hi'] at hp ⊢
  by_cases e : i = rs.length
  ·rw [if_pos e] at hp ⊢
   obtain ⟨k', e'', h1, h2⟩ := hhigh hp; rw [show ((hdI x, tp, tn, tc) : R8).2.1 = tp from rfl, e'']; exact ne_block (by omega) hp
  ·rw [if_neg e] at hp ⊢
   obtain ⟨k', e'', h1⟩ := hlow i (by omega) hp
   rcases hat with h | h
   ·rw [← (hown g h).1]
    exact ha.1 i (by omega) hp
   ·rw [e'']
    exact ne_block (by have := hb0.size; omega) hp
 ·have hi' : i ≤ rs.length := by simp at hi; omega
  have hj' : j ≤ rs.length := by simp at hj; omega
  rw [r8_append_at _ _ _ hi'] at hpi ⊢; rw [r8_append_at _ _ _ hj'] at hpj ⊢
  by_cases e : i = rs.length
  ·rw [if_pos e] at hpi ⊢
   rw [if_neg (by omega)] at hpj ⊢; obtain ⟨k', e'', h1, h2⟩ := hhigh hpi; obtain ⟨k2, e2, h3⟩ := hlow j (by omega) hpj; rw [show ((hdI x, tp, tn, tc) : R8).2.1 = tp from rfl, e'', e2]; exact ne_block (by omega) hpi
  ·rw [if_neg e] at hpi ⊢
   by_cases e' : j = rs.length
   ·rw [if_pos e'] at hpj ⊢
    obtain ⟨k', e'', h1, h2⟩ := hhigh hpj; obtain ⟨k2, e2, h3⟩ := hlow i (by omega) hpi; rw [show ((hdI x, tp, tn, tc) : R8).2.1 = tp from rfl, e'', e2]; exact ne_block (by omega) hpi
   ·rw [if_neg e'] at hpj ⊢
    exact ha.2.1 i j (by omega) (by omega) hij hpi hpj
 ·rcases hat with h | h
  ·rw [← (hown g h).1]; exact (ha.2.2 z hz).1
  ·exact ne_block (n := 1) (by have := hZ z hz; have := hb0.size; omega) (by omega)
 ·have hi' : i ≤ rs.length := by simp at hi; omega
  rw [r8_append_at _ _ _ hi'] at hp ⊢
  by_cases e : i = rs.length
  ·rw [if_pos e] at hp ⊢
   obtain ⟨k', e'', h1, h2⟩ := hhigh hp; rw [show ((hdI x, tp, tn, tc) : R8).2.1 = tp from rfl, e'']; exact ne_block (n := 1) (by have := hZ z hz; omega) (by omega)
  ·rw [if_neg e] at hp ⊢
   exact (ha.2.2 z hz).2 i (by omega) hp
theorem riV_one (r : R8) : ∀ u ∈ riV r, u.oneCell' = true := fun u hu => by
 simp [riV] at hu
 rcases hu with rfl | rfl | rfl | rfl | rfl | rfl | rfl | rfl <;> rfl
theorem app_ins {Z : List Nat} (W0 w : World) {ops : Array Oper} {rest : List Oper} {o : Oper} {a : Act} {Q : Exit → Act → World → Prop} (hgd : o.guard = none) (s x : Operand)
  (ho : o.op = .call { callee := .builtin .append, args := #[s, x], argTypes := #[24, 24] }) (B : Nat) (p : Option Addr) (n c : Nat) (ts : List Iv)
  (hs : a.eval s = .slice p n c) (hown : OwnIv Z W0 B p n c ts) (hZ : ∀ z ∈ Z, z < W0.heap.size) (hb0 : Below W0.heap.size W0 w) (hB : B ≤ W0.heap.size) (ad : Addr) (c' : Nat) (hx : a.eval x = .slice (some ad) 1 c') (i : Iv) (tp : Option Addr) (tn tc : Nat) (hK : i.K = [] ∧ i.L = [])
  (ht : OwnT w W0.heap.size tp tn tc i.c.2.2) (hnews : ∀ j u, (riV (hdI i, tp, tn, tc))[j]? = some u → w.cell? (ad.add j) = some u) (hlen : n + 1 ≤ 1000000000)
  (h : ∀ g n' cap w', OwnIv Z w' B (some ⟨g, 0, none⟩) n' cap (ts ++ [i]) → Below B w w' → w.grownBy w' (Value.ownBlock (.slice p n c)) → Hid (n' = n + 1) → wpList Tryz.prog ops Q rest (a.put o.dst (.slice (some ⟨g, 0, none⟩) n' cap)) w') : wpList Tryz.prog ops Q (o :: rest) a w := by
 obtain ⟨i0, hi, hz0, hz1, hz2⟩ := info_parts infoIns8; obtain ⟨hn, rs, hl, hr, hf, ha⟩ := hown; refine wpList_append_lies w hgd s x 24 ho B 72 i0 (.agg #[.int .i64 0, .int .i64 0, .int .i64 0, .int .i64 0, .int .i64 0, .slice none 0 0, .slice none 0 0, .slice none 0 0]) 8 112 Tryz.underlying24 hi hz0 hz1 hz2 rfl (by decide) (.slice p n c) n (flatI rs) hs (row_below hr hb0) ad 1 c' (riV (hdI i, tp, tn, tc)) hx rfl hnews (riV_one _) (by decide) (by unfold maxLen; omega) (by omega) (Nat.le_trans hB hb0.size) w.heap.size rfl ?_
 intro g cap w' hown' hgrow hat hlt
 refine h g _ cap w' (ownIv_grew hn hl hr hf ha hZ hb0 hB hK ht hown' hgrow hat) ((Below.refl _ _).grown hgrow (Nat.le_trans hB hb0.size) (fun k hk => ?_)) hgrow rfl; exact (hr.lt k hk).1
def InsB (w : World) (k : Nat) : Prop := ∃ vs fr, w.heap[k]? = some (.cells vs 72 fr)
structure StyX (X : List Nat) (w w' : World) : Prop where
 os : w'.os = w.os
 tape : w'.tape = w.tape
 output : w'.output = w.output
 size : w.heap.size ≤ w'.heap.size
 block : ∀ k, k < w.heap.size → k ∉ X → w'.heap[k]? = w.heap[k]?
theorem StyX.refl (X : List Nat) (w : World) : StyX X w w := ⟨rfl, rfl, rfl, Nat.le_refl _, fun _ _ _ => rfl⟩
theorem StyX.below {X : List Nat} {w w1 w2 : World} (h : StyX X w w1) (k : Below w1.heap.size w1 w2) : StyX X w w2 := ⟨k.os.trans h.os, k.tape.trans h.tape, k.output.trans h.output, Nat.le_trans h.size k.size, fun x hx h1 => (k.block x (Nat.lt_of_lt_of_le hx h.size)).trans (h.block x hx h1)⟩
theorem StyX.set {X : List Nat} {w w1 : World} (h : StyX X w w1) {b : Nat} (hb : b ∈ X) (o : Nat) (v : Value) : StyX X w (w1.setCell ⟨b, o, none⟩ v) := ⟨h.os, h.tape, h.output, by simpa using h.size, fun k hk h1 => (Below.heap_setCell _ _ _ _ (show k ≠ b from fun e => h1 (e ▸ hb))).trans (h.block k hk h1)⟩
theorem StyX.cell {X : List Nat} {w w' : World} (h : StyX X w w') {q o : Nat} {v : Value} (hc : w.cell? ⟨q, o, none⟩ = some v) (h1 : q ∉ X) : w'.cell? ⟨q, o, none⟩ = some v := (World.cell?_of_block (a := ⟨q, o, none⟩) (h.block q (World.block_lt_of_cell? _ _ hc) h1)).trans hc
theorem StyX.low {X : List Nat} {w w' : World} (h : StyX X w w') {B : Nat} (hB : B ≤ w.heap.size) (hX : ∀ x ∈ X, B ≤ x) : Below B w w' := ⟨h.os, h.tape, h.output, h.size, fun k hk => h.block k (by omega) fun hm => by have := hX k hm; omega⟩
structure FrX (X : List Nat) (w w' : World) : Prop where
 os : w'.os = w.os
 tape : w'.tape = w.tape
 output : w'.output = w.output
 size : w.heap.size ≤ w'.heap.size
 block : ∀ k, k < w.heap.size → k ∉ X → ¬ InsB w k → w'.heap[k]? = w.heap[k]?
theorem FrX.refl (X : List Nat) (w : World) : FrX X w w := ⟨rfl, rfl, rfl, Nat.le_refl _, fun _ _ _ _ => rfl⟩
theorem FrX.trans {X : List Nat} {w w1 w2 : World} (h : FrX X w w1) (k : FrX X w1 w2) : FrX X w w2 := ⟨k.os.trans h.os, k.tape.trans h.tape, k.output.trans h.output, Nat.le_trans h.size k.size, fun x hx h1 h2 => by
 have e := h.block x hx h1 h2; refine (k.block x (Nat.lt_of_lt_of_le hx h.size) h1 fun ⟨vs, fr, hv⟩ => h2 ⟨vs, fr, ?_⟩).trans e
 rw [← e]; exact hv⟩
theorem FrX.of (X : List Nat) {w w' : World} (h : Below w.heap.size w w') : FrX X w w' := ⟨h.os, h.tape, h.output, h.size, fun k hk _ _ => h.block k hk⟩
theorem FrX.below {X : List Nat} {w w1 w2 : World} (h : FrX X w w1) (k : Below w1.heap.size w1 w2) : FrX X w w2 := h.trans (FrX.of X k)
theorem FrX.set {X : List Nat} {w w1 : World} (h : FrX X w w1) {b : Nat} (hb : b ∈ X) (o : Nat) (v : Value) : FrX X w (w1.setCell ⟨b, o, none⟩ v) := h.trans ⟨rfl, rfl, rfl, by simp, fun k hk h1 _ => Below.heap_setCell _ _ _ _ (show k ≠ b from fun e => h1 (e ▸ hb))⟩
theorem FrX.row {X : List Nat} {w w' : World} (h : FrX X w w') {B s n : Nat} {e : TypeId} {v : Value} {xs : List Value} (hr : w.ownsRow B e s v n xs) (he : e ≠ 72) (hX : ∀ x ∈ X, x < B) : w'.ownsRow B e s v n xs := by
 refine ⟨hr.1, ?_⟩
 rcases hr.2 with h' | ⟨g, cap, cur, hv, hB, hg, r⟩
 ·exact .inl h'
 ·refine .inr ⟨g, cap, cur, hv, hB, (h.block g (Array.getElem?_eq_some_iff.1 hg).1 (fun hm => by have := hX g hm; omega) fun ⟨vs, fr, hq⟩ => ?_).trans hg, r⟩
  rw [hg] at hq
  injection hq with hq
  injection hq with _ h2 _
  exact he h2
theorem FrX.cell {X : List Nat} {w w' : World} (h : FrX X w w') {q o : Nat} {v : Value} (hc : w.cell? ⟨q, o, none⟩ = some v) (h1 : q ∉ X) (h2 : ¬ InsB w q) : w'.cell? ⟨q, o, none⟩ = some v := (World.cell?_of_block (a := ⟨q, o, none⟩) (h.block q (World.block_lt_of_cell? _ _ hc) h1 h2)).trans hc
theorem FrX.grown {X Z : List Nat} {w w' : World} {B n c : Nat} {p : Option Addr} {ts : List Iv} (hown : OwnIv Z w B p n c ts) (hg : w.grownBy w' (Value.ownBlock (.slice p n c))) : FrX X w w' := by
 refine ⟨hg.os, hg.tape, hg.output, hg.size, fun k hk _ hi => hg.block k hk fun e => hi ?_⟩; obtain ⟨hn, rs, hl, hr, hf, ha⟩ := hown
 rcases hr.2 with ⟨hv, _⟩ | ⟨g, cap, cur, hv, hB, hg', _⟩
 ·simp only [Value.slice.injEq] at hv; rw [hv.1] at e; simp [Value.ownBlock] at e
 ·simp only [Value.slice.injEq] at hv
  rw [hv.1] at e
  simp [Value.ownBlock] at e
  subst e; exact ⟨_, _, hg'⟩
theorem StyX.grown {X Z : List Nat} {w1 w w' : World} {n c : Nat} {p : Option Addr} {ts : List Iv} (h : StyX X w1 w) (hown : OwnIv Z w w1.heap.size p n c ts) (hg : w.grownBy w' (Value.ownBlock (.slice p n c))) : StyX X w1 w' := by
 refine ⟨hg.os.trans h.os, hg.tape.trans h.tape, hg.output.trans h.output, Nat.le_trans h.size hg.size, fun k hk hX => (hg.block k (Nat.lt_of_lt_of_le hk h.size) fun e => ?_).trans (h.block k hk hX)⟩; obtain ⟨hn, rs, hl, hr, hf, ha⟩ := hown; have := (hr.lt k e.symm).1
 omega
theorem OwnIv.of {Z : List Nat} {w w' : World} {B : Nat} {p : Option Addr} {n c : Nat} {ts : List Iv} (h : OwnIv Z w B p n c ts) (hs : w.heap.size ≤ w'.heap.size) (hb : ∀ k, B ≤ k → k < w.heap.size → w'.heap[k]? = w.heap[k]?) : OwnIv Z w' B p n c ts := by
 obtain ⟨hn, rs, hl, hr, hf, ha⟩ := h
 have hrow : w'.ownsRow B 72 8 (.slice p n c) n (flatI rs) := by
  refine ⟨hr.1, ?_⟩
  rcases hr.2 with h' | ⟨g, cap, cur, hv, hB, hg, r⟩
  ·exact .inl h'
  ·exact .inr ⟨g, cap, cur, hv, hB, (hb g hB (Array.getElem?_eq_some_iff.1 hg).1).trans hg, r⟩
 refine ⟨hn, rs, hl, hrow, fun i hi => ⟨(hf i hi).1, (hf i hi).2.1, (hf i hi).2.2.other hs fun g h0 e => ?_⟩, ha⟩; obtain ⟨g', e', hB, hlt, _⟩ := (hf i hi).2.2.2 h0
 rw [e] at e'; cases e'
 exact hb g hB hlt
end
end Go.Proofs.YtickbkcpcgmlmaaGreatDoor
