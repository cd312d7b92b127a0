/- Texts of JoinN, LcA, LcJ, LcP. Own work of the verifier. -/
import Derived.Test.YtjhbplgppakhoaaGreatDoorUqbj
import Derived.Test.YtjhbplgppakhoaaGreatDoorUqap
import Derived.Test.YtjhbplgppakhoaaGreatDoorUqab
import Derived.Test.YtjhbplgppakhoaaGreatDoorUqbg
import Derived.Test.YtjhbplgppakhoaaGreatDoorUqao
import Derived.Test.YtjhbplgppakhoaaGreatDoorUqar
import Derived.Test.YtjhbplgppakhoaaGreatDoorUqan
import Derived.Test.YtjhbplgppakhoaaGreatDoorUqak
import Derived.Test.YtjhbplgppakhoaaGreatDoorUqai
import Derived.Test.YtjhbplgppakhoaaGreatDoorUqat
namespace Go.Proofs.YtjhbplgppakhoaaGreatDoor
open Go Go.RowKit
set_option linter.unusedVariables false
def Box2 (w : World) (b : Nat) (v0 v1 : Value) : Prop := w.cell? ⟨b, 0, none⟩ = some v0 ∧ w.cell? ⟨b, 1, none⟩ = some v1 ∧ ∀ j, w.frozen? ⟨b, j, none⟩ = false
theorem Box2.of_block {w : World} {b : Nat} {v0 v1 : Value} {t : TypeId} (h : w.heap[b]? = some (.cells #[v0, v1] t)) : Box2 w b v0 v1 :=
  ⟨by simp [World.cell?, h], by simp [World.cell?, h], fun j => frozen_of_row _ _ _ _ _ h⟩
theorem Box2.lt {w : World} {b : Nat} {v0 v1 : Value} (h : Box2 w b v0 v1) : b < w.heap.size := World.block_lt_of_cell? _ _ h.1
theorem Box3.lt {w : World} {b : Nat} {v0 v1 v2 : Value} (h : Box3 w b v0 v1 v2) : b < w.heap.size := World.block_lt_of_cell? _ _ h.1
theorem Box2.on {w w' : World} {b : Nat} {v0 v1 : Value} (h : Box2 w b v0 v1) (hb : Below w.heap.size w w') : Box2 w' b v0 v1 :=
  ⟨(hb.cell h.lt).trans h.1, (hb.cell h.lt).trans h.2.1, fun j => (hb.frozen (p := ⟨b, j, none⟩) h.lt).trans (h.2.2 j)⟩
theorem Box3.on {w w' : World} {b : Nat} {v0 v1 v2 : Value} (h : Box3 w b v0 v1 v2) (hb : Below w.heap.size w w') : Box3 w' b v0 v1 v2 := h.below hb h.lt
theorem Box2.keep {w w' : World} {b B U : Nat} {v0 v1 : Value} (h : Box2 w b v0 v1) (hk : Keep B U w w') (hp : b < B ∨ U ≤ b) : Box2 w' b v0 v1 := by
  have e := hk.block b h.lt hp
  exact ⟨(World.cell?_of_block (a := ⟨b, 0, none⟩) e).trans h.1, (World.cell?_of_block (a := ⟨b, 1, none⟩) e).trans h.2.1, fun j => (World.frozen?_of_block (a := ⟨b, j, none⟩) e).trans (h.2.2 j)⟩
theorem Box3.keep {w w' : World} {b B U : Nat} {v0 v1 v2 : Value} (h : Box3 w b v0 v1 v2) (hk : Keep B U w w') (hp : b < B ∨ U ≤ b) : Box3 w' b v0 v1 v2 := by
  have e := hk.block b h.lt hp
  exact ⟨(World.cell?_of_block (a := ⟨b, 0, none⟩) e).trans h.1, (World.cell?_of_block (a := ⟨b, 1, none⟩) e).trans h.2.1, (World.cell?_of_block (a := ⟨b, 2, none⟩) e).trans h.2.2.1, fun j => (World.frozen?_of_block (a := ⟨b, j, none⟩) e).trans (h.2.2.2 j)⟩
theorem Box3.put {w : World} {b : Nat} {u0 u1 u2 : Value} (h : Box3 w b u0 u1 u2) (v0 v1 v2 : Value) : Box3 (((w.setCell ⟨b, 0, none⟩ v0).setCell ⟨b, 1, none⟩ v1).setCell ⟨b, 2, none⟩ v2) b v0 v1 v2 := by
  obtain ⟨e0, e1, e2⟩ := box3_set h.1 h.2.1 h.2.2.1 v0 v1 v2
  exact ⟨e0, e1, e2, fun i => by rw [World.frozen?_setCell, World.frozen?_setCell, World.frozen?_setCell]; exact h.2.2.2 i⟩
theorem Box2.put {w : World} {b : Nat} {u0 u1 : Value} (h : Box2 w b u0 u1) (v0 v1 : Value) : Box2 ((w.setCell ⟨b, 0, none⟩ v0).setCell ⟨b, 1, none⟩ v1) b v0 v1 :=
  ⟨(World.cell?_setCell_other _ _ _ _ (by simp)).trans (World.cell?_setCell_same _ _ _ (by rw [h.1])), World.cell?_setCell_same _ _ _ (by rw [World.cell?_setCell_other _ _ _ _ (by simp), h.2.1]), fun i => by rw [World.frozen?_setCell, World.frozen?_setCell]; exact h.2.2 i⟩
def OwnIU (w : World) (B U : Nat) (p : Option Addr) (n c : Nat) (zs : List Int) : Prop := OwnI w B 3 p n c zs ∧ ∀ g, Value.ownBlock (.slice p n c) = some g → g < U
theorem OwnI.up {w : World} {B : Nat} {p : Option Addr} {n c : Nat} {zs : List Int} (h : OwnI w B 3 p n c zs) : OwnIU w B w.heap.size p n c zs := ⟨h, fun g e => (h.2.lt g e).2⟩
theorem OwnIU.on {w w' : World} {B U : Nat} {p : Option Addr} {n c : Nat} {zs : List Int} (h : OwnIU w B U p n c zs) (hb : Below w.heap.size w w') : OwnIU w' B U p n c zs := ⟨h.1.below hb, h.2⟩
theorem OwnIU.keep {w w' : World} {B U B' U' : Nat} {p : Option Addr} {n c : Nat} {zs : List Int} (h : OwnIU w B U p n c zs) (hk : Keep B' U' w w') (ho : U ≤ B' ∨ U' ≤ B) : OwnIU w' B U p n c zs := by
  refine ⟨⟨h.1.1, h.1.2.1, ?_⟩, h.2⟩
  rcases h.1.2.2 with h' | ⟨g, cap, cur, hv, hB, hg, r⟩
  · exact .inl h'
  · have hu : g < U := h.2 g (by simp only [Value.slice.injEq] at hv; rw [hv.1]; rfl)
    exact .inr ⟨g, cap, cur, hv, hB, (hk.block g (Array.getElem?_eq_some_iff.1 hg).1 (by omega)).trans hg, r⟩
def OwnTU (w : World) (B U : Nat) (p : Option Addr) (n c : Nat) (t : List Int) : Prop := OwnT w B p n c t ∧ ∀ g, tb p n = some g → g < U
theorem OwnT.up {w : World} {B : Nat} {p : Option Addr} {n c : Nat} {t : List Int} (h : OwnT w B p n c t) : OwnTU w B w.heap.size p n c t := ⟨h, fun g e => (h.tb e).2.2⟩
theorem OwnTU.on {w w' : World} {B U : Nat} {p : Option Addr} {n c : Nat} {t : List Int} (h : OwnTU w B U p n c t) (hb : Below w.heap.size w w') : OwnTU w' B U p n c t := ⟨h.1.below hb, h.2⟩
theorem OwnTU.keep {w w' : World} {B U B' U' : Nat} {p : Option Addr} {n c : Nat} {t : List Int} (h : OwnTU w B U p n c t) (hk : Keep B' U' w w') (ho : U ≤ B' ∨ U' ≤ B) : OwnTU w' B U p n c t := by
  refine ⟨h.1.other hk.size (fun g hn e => ?_), h.2⟩
  have e' : Go.Proofs.YtjhbplgppakhoaaGreatDoor.tb p n = some g := by rw [e]; exact tb_of hn
  have := h.1.tb e'
  have hu := h.2 g e'
  exact hk.block g this.2.2 (by omega)
end Go.Proofs.YtjhbplgppakhoaaGreatDoor

namespace Go.Proofs.YtjhbplgppakhoaaGreatDoor
open Go Go.RowKit
set_option linter.unusedVariables false
def BoxL (w : World) (b : Nat) (vs : List Value) : Prop := b < w.heap.size ∧ (∀ i, i < vs.length → w.cell? ⟨b, i, none⟩ = vs[i]?) ∧ ∀ j, w.frozen? ⟨b, j, none⟩ = false
theorem BoxL.of_block {w : World} {b : Nat} {vs : Array Value} {t : TypeId} (h : w.heap[b]? = some (.cells vs t)) : BoxL w b vs.toList :=
  ⟨(Array.getElem?_eq_some_iff.1 h).1, fun i hi => by simp [World.cell?, h], fun j => frozen_of_row w b j _ t h⟩
theorem BoxL.below {w w' : World} {b : Nat} {vs : List Value} (h : BoxL w b vs) (hb : Below w.heap.size w w') : BoxL w' b vs :=
  ⟨Nat.lt_of_lt_of_le h.1 hb.size, fun i hi => (hb.cell (p := ⟨b, i, none⟩) h.1).trans (h.2.1 i hi), fun j => (hb.frozen (p := ⟨b, j, none⟩) h.1).trans (h.2.2 j)⟩
theorem BoxL.other {w : World} {b : Nat} {vs : List Value} (h : BoxL w b vs) {a : Addr} (ha : b ≠ a.block) (u : Value) : BoxL (w.setCell a u) b vs :=
  ⟨by simpa using h.1, fun i hi => (World.cell?_setCell_other _ _ _ _ (fun e => ha (by rw [e]))).trans (h.2.1 i hi), fun j => by simp [h.2.2 j]⟩
theorem BoxL.set {w : World} {b : Nat} {vs : List Value} (h : BoxL w b vs) (i : Nat) (u : Value) (hi : i < vs.length) : BoxL (w.setCell ⟨b, i, none⟩ u) b (vs.set i u) := by
  refine ⟨by simpa using h.1, fun j hj => ?_, fun j => by simp [h.2.2 j]⟩
  have hj' : j < vs.length := by simpa using hj
  by_cases e : j = i
  · subst e
    rw [World.cell?_setCell_same' _ _ _ (by rw [h.2.1 j hj', List.getElem?_eq_getElem hj']; rfl), List.getElem?_set_self hj']
  · rw [World.cell?_setCell_other _ _ _ _ (by first | (simp; done) | (simp; omega)), h.2.1 j hj', List.getElem?_set_ne (by omega)]
theorem heap_threeL (w : World) (a b c : Obj) : (((w.alloc a).alloc b).alloc c).heap[w.heap.size]? = some a ∧ (((w.alloc a).alloc b).alloc c).heap[w.heap.size + 1]? = some b ∧ (((w.alloc a).alloc b).alloc c).heap[w.heap.size + 1 + 1]? = some c := by
  refine ⟨?_, (heap_three w a b c).1, (heap_three w a b c).2⟩
  rw [Below.heap_alloc _ _ _ (by simp; omega), Below.heap_alloc _ _ _ (by simp)]
  exact heap_alloc_new w _
structure Iv where
  op : Int
  r : Int
  a : Int
  c : Cel
  K : List Cel
  L : List Int
def Iv.zero : Iv := ⟨0, 0, 0, Cel.none, [], []⟩
def szI (x : Iv) : Nat := x.c.2.2.length + (x.K.length + tl x.K) + x.L.length
def szIs : List Iv → Nat
  | [] => 0
  | q :: r => szI q + szIs r
theorem szIs_at : ∀ (ps : List Iv) (i : Nat), i < ps.length → szI (ps.getD i Iv.zero) ≤ szIs ps
  | [], i, h => by simp at h
  | c :: r, 0, _ => by simp [szIs]
  | c :: r, i + 1, h => by have := szIs_at r i (by simpa using h); simp only [szIs, List.getD_cons_succ]; omega
theorem szIs_take : ∀ (ps : List Iv) (k : Nat), k < ps.length → szIs (ps.take (k + 1)) = szIs (ps.take k) + szI (ps.getD k Iv.zero)
  | [], k, h => by simp at h
  | c :: r, 0, _ => by simp [szIs]
  | c :: r, k + 1, h => by
    have := szIs_take r k (by simpa using h)
    simp only [List.take_succ_cons, szIs, this]
    simp; omega
theorem szIs_take_le : ∀ (ps : List Iv) (k : Nat), szIs (ps.take k) ≤ szIs ps
  | [], k => by simp [szIs]
  | c :: r, 0 => by simp [szIs]
  | c :: r, k + 1 => by have := szIs_take_le r k; simp only [List.take_succ_cons, szIs]; omega
def ivV (x : Iv) (q : Option Addr) (qc : Nat) (s : Option Addr) (sc : Nat) (u : Option Addr) (uc : Nat) : List Value := [.int .i64 x.op, .int .i64 x.r, .int .i64 x.a, .int .i64 x.c.1, .int .i64 x.c.2.1, .slice q x.c.2.2.length qc, .slice s x.K.length sc, .slice u x.L.length uc]
def IvIn (w : World) (p : Option Addr) (xs : List Iv) : Prop :=
  0 < xs.length → ∃ b o, p = some ⟨b, o, none⟩ ∧ ∀ i, i < xs.length → ∃ q qc s sc u uc, (∀ j, j < 8 → w.cell? ⟨b, o + i * 8 + j, none⟩ = (ivV (xs.getD i Iv.zero) q qc s sc u uc)[j]?) ∧ BIn w q (xs.getD i Iv.zero).c.2.2 ∧ CIn w s (xs.getD i Iv.zero).K ∧ IIn w u (xs.getD i Iv.zero).L
theorem IvIn.below {W W' : World} {p : Option Addr} {xs : List Iv} (h : IvIn W p xs) (hb : Below W.heap.size W W') : IvIn W' p xs := fun hn => by
  obtain ⟨b, o, rfl, hc⟩ := h hn
  refine ⟨b, o, rfl, fun i hi => ?_⟩
  obtain ⟨q, qc, s, sc, u, uc, h0, h1, h2, h3⟩ := hc i hi
  have hlt : b < W.heap.size := World.block_lt_of_cell? (u := .int .i64 (xs.getD i Iv.zero).op) W ⟨b, o + i * 8 + 0, none⟩ (h0 0 (by omega))
  exact ⟨q, qc, s, sc, u, uc, fun j hj => (hb.cell (p := ⟨b, _, none⟩) hlt).trans (h0 j hj), h1.below hb, h2.below hb, h3.below hb⟩
structure IvArg (w : World) (p : Option Addr) (xs : List Iv) : Prop where
  lies : IvIn w p xs
  len : xs.length ≤ 9223372036854775807
  item : ∀ i, i < xs.length → (xs.getD i Iv.zero).c.2.2.length ≤ 9223372036854775807 ∧ Byte (xs.getD i Iv.zero).c.2.2 ∧ (xs.getD i Iv.zero).K.length ≤ 9223372036854775807 ∧ (∀ j, j < (xs.getD i Iv.zero).K.length → ((xs.getD i Iv.zero).K.getD j Cel.none).2.2.length ≤ 9223372036854775807) ∧ (∀ j, j < (xs.getD i Iv.zero).K.length → Byte ((xs.getD i Iv.zero).K.getD j Cel.none).2.2) ∧ (xs.getD i Iv.zero).L.length ≤ 9223372036854775807
  wide : ∀ i, i < xs.length → (Lit.int .i64 (xs.getD i Iv.zero).op).wf = true ∧ (Lit.int .i64 (xs.getD i Iv.zero).r).wf = true ∧ (Lit.int .i64 (xs.getD i Iv.zero).a).wf = true ∧ (Lit.int .i64 (xs.getD i Iv.zero).c.1).wf = true ∧ (Lit.int .i64 (xs.getD i Iv.zero).c.2.1).wf = true
theorem IvArg.below {W W' : World} {p : Option Addr} {xs : List Iv} (h : IvArg W p xs) (hb : Below W.heap.size W W') : IvArg W' p xs := ⟨h.lies.below hb, h.len, h.item, h.wide⟩
structure Pv where
  nm : List Int
  ar : Int
  dy : Bool
  pl : Int
  cl : List Int
def Pv.zero : Pv := ⟨[], 0, false, 0, []⟩
def szV (x : Pv) : Nat := x.nm.length + x.cl.length
def szVs : List Pv → Nat
  | [] => 0
  | q :: r => szV q + szVs r
theorem szVs_at : ∀ (ps : List Pv) (i : Nat), i < ps.length → szV (ps.getD i Pv.zero) ≤ szVs ps
  | [], i, h => by simp at h
  | c :: r, 0, _ => by simp [szVs]
  | c :: r, i + 1, h => by have := szVs_at r i (by simpa using h); simp only [szVs, List.getD_cons_succ]; omega
theorem szVs_take : ∀ (ps : List Pv) (k : Nat), k < ps.length → szVs (ps.take (k + 1)) = szVs (ps.take k) + szV (ps.getD k Pv.zero)
  | [], k, h => by simp at h
  | c :: r, 0, _ => by simp [szVs]
  | c :: r, k + 1, h => by
    have := szVs_take r k (by simpa using h)
    simp only [List.take_succ_cons, szVs, this]
    simp; omega
theorem szVs_take_le : ∀ (ps : List Pv) (k : Nat), szVs (ps.take k) ≤ szVs ps
  | [], k => by simp [szVs]
  | c :: r, 0 => by simp [szVs]
  | c :: r, k + 1 => by have := szVs_take_le r k; simp only [List.take_succ_cons, szVs]; omega
def pvV (x : Pv) (q : Option Addr) (qc : Nat) (u : Option Addr) (uc : Nat) : List Value := [.slice q x.nm.length qc, .int .i64 x.ar, .bool x.dy, .int .i64 x.pl, .slice u x.cl.length uc]
def PvIn (w : World) (p : Option Addr) (xs : List Pv) : Prop :=
  0 < xs.length → ∃ b o, p = some ⟨b, o, none⟩ ∧ ∀ i, i < xs.length → ∃ q qc u uc, (∀ j, j < 5 → w.cell? ⟨b, o + i * 5 + j, none⟩ = (pvV (xs.getD i Pv.zero) q qc u uc)[j]?) ∧ BIn w q (xs.getD i Pv.zero).nm ∧ IIn w u (xs.getD i Pv.zero).cl
theorem PvIn.below {W W' : World} {p : Option Addr} {xs : List Pv} (h : PvIn W p xs) (hb : Below W.heap.size W W') : PvIn W' p xs := fun hn => by
  obtain ⟨b, o, rfl, hc⟩ := h hn
  refine ⟨b, o, rfl, fun i hi => ?_⟩
  obtain ⟨q, qc, u, uc, h0, h1, h2⟩ := hc i hi
  have hlt : b < W.heap.size := World.block_lt_of_cell? (u := .slice q (xs.getD i Pv.zero).nm.length qc) W ⟨b, o + i * 5 + 0, none⟩ (h0 0 (by omega))
  exact ⟨q, qc, u, uc, fun j hj => (hb.cell (p := ⟨b, _, none⟩) hlt).trans (h0 j hj), h1.below hb, h2.below hb⟩
structure PvArg (w : World) (p : Option Addr) (xs : List Pv) : Prop where
  lies : PvIn w p xs
  len : xs.length ≤ 9223372036854775807
  item : ∀ i, i < xs.length → (xs.getD i Pv.zero).nm.length ≤ 9223372036854775807 ∧ Byte (xs.getD i Pv.zero).nm ∧ (xs.getD i Pv.zero).cl.length ≤ 9223372036854775807
theorem PvArg.below {W W' : World} {p : Option Addr} {xs : List Pv} (h : PvArg W p xs) (hb : Below W.heap.size W W') : PvArg W' p xs := ⟨h.lies.below hb, h.len, h.item⟩
end Go.Proofs.YtjhbplgppakhoaaGreatDoor

namespace Go.Proofs.YtjhbplgppakhoaaGreatDoor
open Go Go.RowKit
set_option linter.unusedVariables false
theorem itoa_dec64 (n : Int) (h0 : -9223372036854775808 ≤ n) (h1 : n < 9223372036854775808) : (⟨(Lib.itoa n).toArray⟩ : ByteArray) = strOfNums (decW n) := by
  have key : decW n = (Lib.itoa n).map fun x => (x.toNat : Int) := by
    unfold decW Lib.itoa
    by_cases h : n < 0
    · rw [if_pos h]
      have := dig_neg 19 n.natAbs (by omega) (by omega)
      rw [show -(n.natAbs : Int) = n by omega] at this
      rw [this]
      rfl
    · rw [if_neg h]
      have := dig_nat 19 n.toNat (by omega)
      rw [show (n.toNat : Int) = n by omega] at this
      rw [this]
  rw [key]
  apply ba_ext
  rw [str_list, ByteArray.toList_eq]
  simp only [List.map_map]
  conv => lhs; rw [← List.map_id (Lib.itoa n)]
  apply List.map_congr_left
  intro x _
  simp
theorem itoa64_any (n : Int) (h0 : -9223372036854775808 ≤ n) (h1 : n < 9223372036854775808) (w : World) (hP : TabP w) :
    Calls Tryz.prog 71 #[.int .i64 n] w fun e w' => e = .returned (.string (strOfNums (decW n))) ∧ Below w.heap.size w w' := by
  have h := Any.strconv_Itoa Tryz.itoaL n (by omega) (by omega) w hP
  refine (show Calls Tryz.prog 71 #[.int .i64 n] w _ from h).mono ?_
  rintro e w' ⟨rfl, k, os, rfl⟩
  exact ⟨by rw [itoa_dec64 n h0 h1], below_grown_sl _ _ _ _ (Nat.le_refl _)⟩
theorem l3dec64_any (v : Int) (w : World) (h0 : -9223372036854775808 ≤ v) (h1 : v < 9223372036854775808) : Calls Tryz.prog 48 #[.int .i64 v] w fun e w' => e = .returned (.string (strOfNums (decW v))) ∧ Below w.heap.size w w' := by
  by_cases h : v.natAbs < 10 ^ 18
  · have e : decW v = decF (18 + 1) v := dec_more 18 1 v h
    rw [e]
    exact l3dec_any 18 v w h (Nat.le_refl _)
  · have h18 : (10 : Nat) ^ 18 = 1000000000000000000 := by decide
    have h2 : (v.tdiv 10).natAbs < 10 ^ 18 := by
      rw [Int.natAbs_tdiv, h18]
      exact Nat.div_lt_of_lt_mul (by omega)
    have hl := dec_len (18 + 1) (v.tdiv 10)
    have hm1 : -10 < v.tmod 10 := Int.lt_tmod_of_pos v (by decide)
    have hm2 : v.tmod 10 < 10 := Int.tmod_lt_of_pos v (by decide)
    by_cases hneg : v < 0
    · have e : decW v = decF (18 + 1) (v.tdiv 10) ++ [48 - v.tmod 10] := by
        show decF (19 + 1) v = _
        conv => lhs; unfold decF
        rw [if_neg (fun h => by omega), if_pos hneg]
      have hsg : v.tmod 10 ≤ 0 := by have := Int.tmod_nonneg 10 (a := -v) (by omega); rw [Int.neg_tmod] at this; omega
      rw [e]
      exact dec_neg v _ _ _ _ w rfl rfl rfl (by omega) (by omega) (by omega) hm1 hm2 (by omega) (by omega) (by omega) (fun W => l3dec_any 18 _ W h2 (Nat.le_refl _))
    · have e : decW v = decF (18 + 1) (v.tdiv 10) ++ [48 + v.tmod 10] := by
        show decF (19 + 1) v = _
        conv => lhs; unfold decF
        rw [if_neg (fun h => hneg h.1), if_neg hneg, if_neg (by omega)]
      have hsg : 0 ≤ v.tmod 10 := Int.tmod_nonneg 10 (by omega)
      rw [e]
      exact dec_pos v _ _ _ _ w rfl rfl rfl (by omega) (by omega) (by omega) hm1 hm2 (by omega) (by omega) (by omega) (fun W => l3dec_any 18 _ W h2 (Nat.le_refl _))
theorem decW_len (v : Int) : (decW v).length ≤ 21 := by have := dec_len 20 v; unfold decW; omega
end Go.Proofs.YtjhbplgppakhoaaGreatDoor

namespace Go.Proofs.YtjhbplgppakhoaaGreatDoor
open Go Go.RowKit
set_option linter.unusedVariables false
def wordL : List (List Int) := [[103, 101, 116, 118, 97, 114], [103, 101, 116, 118, 97, 108], [103, 101, 116, 99, 111, 110, 115, 116], [103, 101, 116, 115, 116, 114, 117, 99, 116], [117, 110, 105, 102, 121, 118, 97, 114], [117, 110, 105, 102, 121, 118, 97, 108], [117, 110, 105, 102, 121, 99, 111, 110, 115, 116], [117, 110, 105, 102, 121, 118, 111, 105, 100], [112, 117, 116, 118, 97, 114], [112, 117, 116, 118, 97, 108], [112, 117, 116, 99, 111, 110, 115, 116], [112, 117, 116, 118, 111, 105, 100], [112, 117, 116, 115, 116, 114, 117, 99, 116], [115, 101, 116, 118, 97, 114], [115, 101, 116, 118, 97, 108], [115, 101, 116, 99, 111, 110, 115, 116], [115, 101, 116, 118, 111, 105, 100], [97, 108, 108, 111, 99, 97, 116, 101], [100, 101, 97, 108, 108, 111, 99, 97, 116, 101], [99, 97, 108, 108], [101, 120, 101, 99, 117, 116, 101], [112, 114, 111, 99, 101, 101, 100], [98, 117, 105, 108, 116, 105, 110], [108, 101, 118, 101, 108], [109, 97, 114, 107], [99, 117, 116], [102, 97, 105, 108], [115, 116, 111, 112], [117, 110, 99, 97, 116, 99, 104], [116, 114, 121], [114, 101, 116, 114, 121], [116, 114, 117, 115, 116], [115, 119, 105, 116, 99, 104]]
def fldL : List (List Int) := [[82, 65], [82, 65], [67, 65], [70, 65], [82], [82], [67], [], [82, 65], [82, 65], [67, 65], [65], [70, 82], [82], [82], [67], [], [65], [], [70], [70], [], [70], [82], [82], [82], [], [], [], [65], [65], [65], [65]]
def fldC : List (List Int) := [[82, 65], [82, 65], [67, 65], [67, 65], [82], [82], [67], [], [82, 65], [82, 65], [67, 65], [65], [67, 82], [82], [82], [67], [], [65], [], [67], [67], [], [67], [82], [82], [82], [], [], [], [65], [65], [65], [65]]
def wordT (op : Nat) : List Int := wordL.getD op []
def fldS (op : Nat) : List Int := fldL.getD op []
def fldI (op : Nat) : List Int := fldC.getD op []
def regT (r : Int) : List Int := if r < 0 then 121 :: decW (-1 - r) else 120 :: decW r
def leafW (c : Cel) : List Int := if c.1 = 0 then 95 :: decW c.2.1 else if c.1 = 1 then decW c.2.1 else quoteB c.2.2
def funT (c : Cel) : List Int := quoteB c.2.2 ++ 47 :: decW c.2.1
def cellT (f : Bool) (c : Cel) : List Int := if f = true ∨ c.1 = 3 then funT c else leafW c
def hfB (op : Int) : Bool := decide (op = 3 ∨ op = 12 ∨ op = 19 ∨ op = 20 ∨ op = 22)
def fT (x : Iv) (f : Int) : List Int := if f = 82 then regT x.r else if f = 65 then 97 :: decW x.a else cellT (hfB x.op) x.c
def flT (x : Iv) : List Int → List Int
  | [] => []
  | f :: r => (32 :: fT x f) ++ flT x r
def lineT (i : Nat) (x : Iv) : List Int := (decW i ++ [32] ++ wordT x.op.toNat) ++ flT x (fldI x.op.toNat) ++ [10]
def okI (x : Iv) : Bool := decide (0 ≤ x.op ∧ x.op ≤ 32 ∧ cellB x.c.1 x.c.2.1 x.c.2.2.length = true)
def lnsT (xs : List Iv) : Nat → List Int
  | 0 => []
  | i + 1 => lnsT xs i ++ lineT i (xs.getD i Iv.zero)
def lcT (T : List Cel) (xs : List Iv) : List Int := if tabB T = true ∧ xs.length ≤ 20000 ∧ ∀ i, i < xs.length → okI (xs.getD i Iv.zero) = true then lnsT xs xs.length else []
theorem regT_byte (r : Int) : Byte (regT r) := by
  unfold regT; split <;> exact byte_cons ⟨by decide, by decide⟩ (decW_byte _)
theorem regT_len (r : Int) : (regT r).length ≤ 22 := by
  unfold regT; split <;> (simp only [List.length_cons]; have := decW_len; exact Nat.succ_le_succ (this _))
theorem leafW_byte {c : Cel} (h : Byte c.2.2) : Byte (leafW c) := by
  unfold leafW; split
  · exact byte_cons ⟨by decide, by decide⟩ (decW_byte _)
  · split
    · exact decW_byte _
    · exact quote_byte h
theorem leafW_len (c : Cel) : (leafW c).length ≤ 601 := by
  have h1 := decW_len c.2.1
  have h2 := quote_lenW c.2.2
  unfold leafW; split
  · simp only [List.length_cons]; omega
  · split <;> omega
theorem funT_byte {c : Cel} (h : Byte c.2.2) : Byte (funT c) := byte_app (quote_byte h) (byte_cons ⟨by decide, by decide⟩ (decW_byte _))
theorem funT_len (c : Cel) : (funT c).length ≤ 623 := by
  have h1 := decW_len c.2.1
  have h2 := quote_lenW c.2.2
  unfold funT; simp only [List.length_append, List.length_cons]; omega
theorem cellT_byte {c : Cel} (f : Bool) (h : Byte c.2.2) : Byte (cellT f c) := by
  unfold cellT; split
  · exact funT_byte h
  · exact leafW_byte h
theorem cellT_len (f : Bool) (c : Cel) : (cellT f c).length ≤ 623 := by
  unfold cellT; split
  · exact funT_len c
  · have := leafW_len c; omega
theorem fT_byte {x : Iv} (f : Int) (h : Byte x.c.2.2) : Byte (fT x f) := by
  unfold fT; split
  · exact regT_byte _
  · split
    · exact byte_cons ⟨by decide, by decide⟩ (decW_byte _)
    · exact cellT_byte _ h
theorem fT_len (x : Iv) (f : Int) : (fT x f).length ≤ 623 := by
  have h1 := regT_len x.r
  have h2 := decW_len x.a
  have h3 := cellT_len (hfB x.op) x.c
  unfold fT; split
  · omega
  · split
    · simp only [List.length_cons]; omega
    · exact h3
theorem flT_byte {x : Iv} (h : Byte x.c.2.2) : ∀ fs, Byte (flT x fs)
  | [] => byte_nil
  | f :: r => byte_app (byte_cons ⟨by decide, by decide⟩ (fT_byte f h)) (flT_byte h r)
theorem flT_len (x : Iv) : ∀ fs, (flT x fs).length ≤ 624 * fs.length
  | [] => by simp [flT]
  | f :: r => by
    have := flT_len x r
    have := fT_len x f
    simp only [flT, List.length_append, List.length_cons]; omega
theorem flT_snoc (x : Iv) : ∀ fs f, flT x (fs ++ [f]) = flT x fs ++ (32 :: fT x f)
  | [], f => by simp [flT]
  | g :: r, f => by simp [flT, flT_snoc x r f]
theorem wordT_all : ∀ op, op < 33 → (wordT op).length ≤ 10 ∧ (fldI op).length ≤ 2 ∧ (∀ c ∈ wordT op, 0 ≤ c ∧ c < 256) ∧ (∀ c ∈ fldI op, c = 82 ∨ c = 65 ∨ c = 67) := by decide
theorem fldS_all : ∀ op, op < 33 → (fldS op).length = (fldI op).length ∧ ∀ k, k < (fldI op).length → ((fldS op).getD k 0 = 70 ∧ (fldI op).getD k 0 = 67 ∧ hfB op = true) ∨ ((fldS op).getD k 0 = (fldI op).getD k 0 ∧ ((fldI op).getD k 0 = 67 → hfB op = false)) := by decide
theorem byte_of_mem {xs : List Int} (h : ∀ c ∈ xs, 0 ≤ c ∧ c < 256) : Byte xs := fun c hc => h c hc
theorem lineT_byte {i : Nat} {x : Iv} (h : Byte x.c.2.2) (h0 : 0 ≤ x.op) (h1 : x.op ≤ 32) : Byte (lineT i x) :=
  byte_app (byte_app (byte_app (byte_app (decW_byte _) (byte_one (by decide) (by decide))) (byte_of_mem (wordT_all _ (by omega)).2.2.1)) (flT_byte h _)) (byte_one (by decide) (by decide))
theorem lineT_len {i : Nat} {x : Iv} (h0 : 0 ≤ x.op) (h1 : x.op ≤ 32) : (lineT i x).length ≤ 1300 := by
  have a := decW_len i
  have b := wordT_all x.op.toNat (by omega)
  have c := flT_len x (fldI x.op.toNat)
  unfold lineT
  simp only [List.length_append, List.length_cons, List.length_nil]
  omega
theorem lnsT_len (xs : List Iv) : ∀ k, k ≤ xs.length → (∀ i, i < k → okI (xs.getD i Iv.zero) = true) → (lnsT xs k).length ≤ 1300 * k
  | 0, _, _ => by simp [lnsT]
  | k + 1, h, ho => by
    have a := lnsT_len xs k (by omega) (fun i hi => ho i (by omega))
    have b := ho k (by omega)
    simp only [okI, decide_eq_true_eq] at b
    have c := lineT_len (i := k) (x := xs.getD k Iv.zero) b.1 b.2.1
    simp only [lnsT, List.length_append]; omega
end Go.Proofs.YtjhbplgppakhoaaGreatDoor

