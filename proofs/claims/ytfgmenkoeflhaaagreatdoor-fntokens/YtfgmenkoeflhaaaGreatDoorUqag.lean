/- Texts of MarkG, FtA, Rd1, Rd2. Own work of the verifier. -/
import Derived.Test.YtfgmenkoeflhaaaGreatDoorUqaf
import Derived.Lib.AppendZeros
import Derived.Lib.FrozenHead2
namespace Go.Proofs.YtfgmenkoeflhaaaGreatDoor
open Go Go.RowKit
set_option linter.unusedVariables false
structure Keep (B U : Nat) (w w' : World) : Prop where
 os : w'.os = w.os
 tape : w'.tape = w.tape
 output : w'.output = w.output
 size : w.heap.size ≤ w'.heap.size
 block : ∀ k, k < w.heap.size → (k < B ∨ U ≤ k) → w'.heap[k]? = w.heap[k]?
theorem Keep.refl (B U : Nat) (w : World) : Keep B U w w := ⟨rfl, rfl, rfl, Nat.le_refl _, fun _ _ _ => rfl⟩
theorem Keep.trans {B U : Nat} {a b c : World} (h : Keep B U a b) (k : Keep B U b c) : Keep B U a c :=
 ⟨k.os.trans h.os, k.tape.trans h.tape, k.output.trans h.output, Nat.le_trans h.size k.size, fun i hi hp => (k.block i (Nat.lt_of_lt_of_le hi h.size) hp).trans (h.block i hi hp)⟩
theorem Keep.below {B U : Nat} {w w' : World} (h : Keep B U w w') {A : Nat} (hA : A ≤ B) (hs : A ≤ w.heap.size) : Below A w w' := ⟨h.os, h.tape, h.output, h.size, fun k hk => h.block k (by omega) (.inl (by omega))⟩
theorem Keep.of_grown {B U : Nat} {w w' : World} {row : Option Nat} (h : w.grownBy w' row) (hr : ∀ k, row = some k → B ≤ k ∧ k < U) : Keep B U w w' :=
 ⟨h.os, h.tape, h.output, h.size, fun k hk hp => h.block k hk (fun e => by have := hr k e.symm; omega)⟩
theorem tb_of {g n : Nat} (h : 0 < n) : tb (some ⟨g, 0, none⟩) n = some g := by unfold tb; rw [if_neg (by omega)]; rfl
theorem tb_some {p : Option Addr} {n k : Nat} (h : tb p n = some k) : 0 < n ∧ ∃ a, p = some a ∧ a.block = k := by
 unfold tb at h
 split at h
 ·cases h
 ·cases p with
  | none => cases h
  | some a => exact ⟨by omega, a, rfl, Option.some.inj h⟩
theorem OwnT.tb {w : World} {B : Nat} {p : Option Addr} {n c : Nat} {ys : List Int} (h : OwnT w B p n c ys) {k : Nat} (e : tb p n = some k) : p = some ⟨k, 0, none⟩ ∧ B ≤ k ∧ k < w.heap.size := by
 obtain ⟨hn, a, rfl, rfl⟩ := tb_some e; obtain ⟨g, e', h1, h2, _⟩ := h.2 hn; obtain rfl := Option.some.inj e'; exact ⟨rfl, h1, h2⟩
def OwnR (w : World) (B : Nat) (p : Option Addr) (n c : Nat) (ys : List Int) : Prop :=
 n = ys.length ∧ ∃ (g : Nat) (cur : Array Value) (mk : Nat × Nat), p = some ⟨g, 0, none⟩ ∧ B ≤ g ∧ w.heap[g]? = some (.cells cur 5 mk) ∧ (mk = (0, 0) ∨ c ≤ mk.1) ∧ cur.size = c ∧ n ≤ c ∧ c ≤ maxLen ∧ cur.toList.take n = ys.map (Value.int .u8)
theorem OwnR.below {w w' : World} {B : Nat} {p : Option Addr} {n c : Nat} {ys : List Int} (h : OwnR w B p n c ys) (hb : Below w.heap.size w w') : OwnR w' B p n c ys := by
 obtain ⟨hn, g, cur, mk, e1, e2, e3, r⟩ := h; exact ⟨hn, g, cur, mk, e1, e2, (hb.block _ (Array.getElem?_eq_some_iff.1 e3).1).trans e3, r⟩
theorem OwnR.keep {w w' : World} {B B' U : Nat} {p : Option Addr} {n c : Nat} {ys : List Int} (h : OwnR w B p n c ys) (hk : Keep B' U w w') (hU : U ≤ B) : OwnR w' B p n c ys := by
 obtain ⟨hn, g, cur, mk, e1, e2, e3, r⟩ := h; exact ⟨hn, g, cur, mk, e1, e2, (hk.block _ (Array.getElem?_eq_some_iff.1 e3).1 (.inr (by omega))).trans e3, r⟩
theorem OwnR.mono {w : World} {B B' : Nat} {p : Option Addr} {n c : Nat} {ys : List Int} (h : OwnR w B p n c ys) (hB : B' ≤ B) : OwnR w B' p n c ys := by
 obtain ⟨hn, g, cur, mk, e1, e2, r⟩ := h; exact ⟨hn, g, cur, mk, e1, by omega, r⟩
theorem OwnR.cellA {w : World} {B : Nat} {p : Option Addr} {n c : Nat} {ys : List Int} (h : OwnR w B p n c ys) : ∃ g, p = some ⟨g, 0, none⟩ ∧ B ≤ g ∧ g < w.heap.size ∧ ∀ i, i < ys.length → w.cell? ⟨g, i, none⟩ = some (.int .u8 (ys.getD i 0)) := by
 obtain ⟨hn, g, cur, mk, e1, e2, e3, e4, e5, e6, e7, e8⟩ := h; refine ⟨g, e1, e2, (Array.getElem?_eq_some_iff.1 e3).1, fun i hi => ?_⟩
 have h1 : (cur.toList.take n)[i]? = (ys.map (Value.int .u8))[i]? := by rw [e8]
 rw [List.getElem?_take_of_lt (by omega), List.getElem?_map, List.getElem?_eq_getElem hi] at h1
 have h2 : cur[i]? = some (.int .u8 ys[i]) := by simpa using h1
 simp only [World.cell?, e3]; rw [h2]
 simp [List.getD, hi]
theorem OwnR.bin {w : World} {B : Nat} {p : Option Addr} {n c : Nat} {ys : List Int} (h : OwnR w B p n c ys) : BIn w p ys := fun _ => by
 obtain ⟨g, e1, _, _, e3⟩ := h.cellA; exact ⟨g, 0, e1, fun i hi => by rw [Nat.zero_add]; exact e3 i hi⟩
theorem OwnS.toR {w : World} {B g n c : Nat} {ys : List Int} (h : OwnS w B (some ⟨g, 0, none⟩) n c ys) : OwnR w B (some ⟨g, 0, none⟩) n c ys := by
 obtain ⟨hn, h1, h2⟩ := h
 rcases h2 with ⟨h3, _⟩ | ⟨g', cap, cur, hv, hb, hg, a1, a2, a3, a4⟩
 ·cases h3
 ·simp only [Value.slice.injEq, Option.some.injEq, Addr.mk.injEq, and_true, true_and] at hv
  obtain ⟨rfl, rfl⟩ := hv; exact ⟨hn, g, cur, (0, 0), rfl, hb, hg, .inl rfl, by simpa using a3, a1, a2, by simpa using a4⟩
theorem conv_R (w : World) (xs : List Int) (hx : Byte xs) (hxl : xs.length ≤ 9000000000000000000) (src : TypeId) (hsrc : Tryz.prog.underlying src = some .string) :
 ∃ w' cap, (convert src 22 (.string (strOfNums xs))).run Tryz.prog w = .ok (.slice (some ⟨w.heap.size, 0, none⟩) xs.length cap) w' ∧ Below w.heap.size w w' ∧ OwnR w' w.heap.size (some ⟨w.heap.size, 0, none⟩) xs.length cap xs := by
 obtain ⟨w', cap, h1, h2, _⟩ := conv_bytes w xs hx src hsrc; have h4 := Lib.run_convert_string_bytes w src 22 5 (strOfNums xs) hsrc Tryz.underlying22 Tryz.underlying5; rw [h1] at h4; simp only [Result.ok.injEq, Value.slice.injEq, true_and] at h4; obtain ⟨⟨hl, hc⟩, hw⟩ := h4; refine ⟨w', cap, h1, h2, rfl, w.heap.size, Lib.bytesCells w 5 (strOfNums xs), ?_⟩; have hge := grownCap_ge w (strOfNums xs).size 0 5
 have hsz : (Lib.bytesCells w 5 (strOfNums xs)).size = cap := by
  simp only [Lib.bytesCells, Array.size_append, Array.size_map, Array.size_replicate]; have : (strOfNums xs).data.size = (strOfNums xs).size := rfl
  omega
 rw [hw]; refine ⟨_, rfl, Nat.le_refl _, Lib.bytesWorld_at_new w 5 (strOfNums xs), .inr ?_, hsz, ?_, ?_, ?_⟩
 ·show cap ≤ _
  omega
 ·rw [strOfNums_size] at hge hc; omega
 ·rw [hc]
  exact grownCap_le_maxLen w (strOfNums xs).size 0 5 (by rw [strOfNums_size]; unfold maxLen; omega)
 ·have e : Lib.strCells (strOfNums xs) = xs.map (Value.int .u8) := str_cells hx
  rw [← e]
  unfold Lib.bytesCells
  rw [Array.toList_append, show xs.length = ((strOfNums xs).data.map (fun b => Value.int .u8 b.toNat)).toList.length by simp [strOfNums]]; rw [List.take_left]
  simp [Lib.strCells]
theorem run_storeCells_atG (P : Program) (g o : Nat) (t : TypeId) (fz : Nat × Nat) : ∀ (vs : List Value) (i : Nat) (cur : Array Value) (w : World), w.heap[g]? = some (.cells cur t fz) → (fz = (0, 0) ∨ o + i + vs.length ≤ fz.1) → o + i + vs.length ≤ cur.size → (∀ v ∈ vs, v.oneCell' = true) →
 (storeCells ⟨g, o, none⟩ vs i).run P w = .ok () (w.setRow g (cur.toList.take (o + i) ++ vs ++ cur.toList.drop (o + i + vs.length)).toArray)
 | [], i, cur, w, hg, _, _, _ => by
   simp only [storeCells, List.append_nil, List.length_nil, Nat.add_zero, List.take_append_drop, Array.toArray_toList]; rw [setRow_self w g cur t fz hg]
   rfl
 | v :: rest, i, cur, w, hg, hfz, hl, h1 => by
   have hi : o + i < cur.size := by simp at hl; omega
   have hadd : (⟨g, o, none⟩ : Addr).add i = ⟨g, o + i, none⟩ := by unfold Addr.add; split <;> simp_all
   have hcell : w.cell? ⟨g, o + i, none⟩ = some cur[o + i] := by simp [World.cell?, hg, hi]
   have hfro : w.frozen? ⟨g, o + i, none⟩ = false := by
    simp only [World.frozen?, hg]
    rcases hfz with rfl | hfz
    ·rfl
    ·simp only [Bool.and_eq_false_iff, decide_eq_false_iff_not]
     left
     simp at hfz
     omega
   have hst : (store ((⟨g, o, none⟩ : Addr).add i) v).run P w = .ok () (w.setRow g (cur.setIfInBounds (o + i) v)) := by
    rw [hadd, run_store P w _ v _ (h1 v (by simp)), hcell]
    simp [hfro, setCell_eq_setRow w g (o + i) cur t fz v hg]
   have ih := run_storeCells_atG P g o t fz rest (i + 1) (cur.setIfInBounds (o + i) v) (w.setRow g (cur.setIfInBounds (o + i) v)) (setRow_heap w g cur _ t _ hg) (hfz.imp (fun h => h) (fun h => by simp at h ⊢; omega)) (by simp at hl ⊢; omega) (fun x hx => h1 x (by simp [hx])); simp only [storeCells, Sem.run_bind, hst, Result.andThen_ok, ih, setRow_setRow]
   congr 3
   have e := list_seg_step cur.toList (o + i) v rest (by simp at hl ⊢; omega)
   simpa [Array.toList_setIfInBounds, Nat.add_assoc] using e
theorem u8_one {zs : List Int} : ∀ v ∈ zs.map (Value.int .u8), v.oneCell' = true := fun v hv => by
 obtain ⟨x, _, rfl⟩ := List.mem_map.1 hv
 rfl
theorem runR_str (w : World) (ty : TypeId) (B : Nat) (p : Option Addr) (n c : Nat) (ys zs : List Int) (hz : Byte zs) (hown : OwnR w B p n c ys) (hlen : n + zs.length ≤ 100000000000) (hbase : B ≤ w.heap.size) :
 ∃ p' n' c' w', (Builtin.append_ #[22, 9] ty #[.slice p n c, .string (strOfNums zs)]).run Tryz.prog w = .ok (.slice p' n' c') w' ∧ OwnR w' B p' n' c' (ys ++ zs) ∧ w.grownBy w' (Value.ownBlock (.slice p n c)) := by
 obtain ⟨i0, hi, hz0, hz1, hz2⟩ := info_parts infoByte; have hcz : Lib.strCells (strOfNums zs) = zs.map (Value.int .u8) := str_cells hz; have hss : (strOfNums zs).size = zs.length := strOfNums_size _; have hcell := hown.cellA; obtain ⟨hn, g, cur, mk, rfl, hB, hg, hmk, hc, hnc, hcm, htk⟩ := hown
 by_cases hroom : n + zs.length ≤ c
 ·have hf := Lib.run_firstCells_string (P := Tryz.prog) w 1 (strOfNums zs)
  have hst := run_storeCells_atG Tryz.prog g n 5 mk (Lib.strCells (strOfNums zs)) 0 cur w hg (hmk.imp (fun h => h) (fun h => by rw [Lib.strCells_length, hss]; omega)) (by rw [Lib.strCells_length, hss]; omega) (Lib.strCells_oneCell _); simp only [Nat.add_zero, Lib.strCells_length] at hst
  have hr2 : n + (strOfNums zs).size ≤ c := by omega
  have hr : (Builtin.append_ #[22, 9] ty #[.slice (some ⟨g, 0, none⟩) n c, .string (strOfNums zs)]).run Tryz.prog w = .ok (.slice (some ⟨g, 0, none⟩) (n + (strOfNums zs).size) c) (w.setRow g (cur.toList.take n ++ Lib.strCells (strOfNums zs) ++ cur.toList.drop (n + (strOfNums zs).size)).toArray) := by
   simp [Builtin.append_, run_underlying Tryz.underlying22, run_underlying Tryz.underlying9, sizeOf, typeInfo, hi, hz1, Builtin.lenOf, hr2, hf, Addr.add_lit, hst]
  refine ⟨some ⟨g, 0, none⟩, n + (strOfNums zs).size, c, _, hr, ⟨by rw [hss, List.length_append, hn], g, _, mk, rfl, hB, setRow_heap w g cur _ 5 _ hg, hmk, ?_, by omega, hcm, ?_⟩, ⟨rfl, rfl, rfl, by simp, fun k _ hk => setRow_other w g k _ (fun e => hk (by simp [Value.ownBlock, e]))⟩⟩
  ·simp only [List.size_toArray, List.length_append, List.length_take, List.length_drop, Array.length_toList, Lib.strCells_length]
   omega
  ·rw [hcz, htk, List.map_append]
   have e : n + (strOfNums zs).size = (ys.map (Value.int .u8) ++ zs.map (Value.int .u8)).length := by simp; omega
   rw [e]; exact List.take_left
 ·obtain ⟨g', e', _, _, hcl⟩ := hcell
  have hgg : g' = g := by simpa using e'.symm
  subst hgg
  have holds : ∀ j v, (ys.map (Value.int .u8))[j]? = some v → w.cell? ((⟨g', 0, none⟩ : Addr).add j) = some v := fun j v hv => by
   obtain ⟨x, hx, rfl⟩ : ∃ x, ys[j]? = some x ∧ Value.int .u8 x = v := by simpa using hv
   have hl := (List.getElem?_eq_some_iff.1 hx).1; rw [show (⟨g', 0, none⟩ : Addr).add j = ⟨g', j, none⟩ from by (unfold Addr.add; split <;> simp_all), hcl j hl]
   simp [List.getD, hx]
  have hr := Lib.run_append_grow_string (P := Tryz.prog) w 22 9 ty 5 i0 (.int .u8 0) Tryz.underlying22 Tryz.underlying9 hi hz0 ⟨g', 0, none⟩ n c (ys.map (Value.int .u8)) (by rw [hz1]; simp [hn]) holds (strOfNums zs) (by omega) (by omega) (by rw [hz2]; exact growslice_fits (by omega) (by omega)); have hge := grownCap_ge w (n + (strOfNums zs).size) c 5; have hcm2 : grownCap w (n + (strOfNums zs).size) c 5 ≤ maxLen := grownCap_le_maxLen w (n + (strOfNums zs).size) c 5 (by unfold maxLen; omega); refine ⟨_, _, _, _, hr, ⟨by rw [hss, List.length_append, hn], w.heap.size, _, (0, 0), rfl, hbase, heap_alloc_new w.drew _, .inl rfl, ?_, hge, hcm2, ?_⟩, ⟨rfl, rfl, rfl, by simp, fun k hk _ => heap_alloc_old w.drew _ hk⟩⟩
  ·have hz1 : (Value.int IntKind.u8 0).cells.size = 1 := rfl
   simp only [Array.size_append, List.size_toArray, size_zeroCells, hz1, List.length_map, Lib.strCells_length]
   omega
  ·simp only [Array.toList_append, List.append_assoc, hcz, List.map_append]
   have e : n + (strOfNums zs).size = (ys.map (Value.int .u8) ++ zs.map (Value.int .u8)).length := by simp; omega
   rw [← List.append_assoc, e]; exact List.take_left
theorem appR_str (w : World) {ops : Array Oper} {rest : List Oper} {o : Oper} {a : Act} {Q : Exit → Act → World → Prop} (hgd : o.guard = none) (s x : Operand)
 (ho : o.op = .call { callee := .builtin .append, args := #[s, x], argTypes := #[22, 9] }) (B : Nat) (p : Option Addr) (n c : Nat) (ys zs : List Int) (hz : Byte zs)
 (hs : a.eval s = .slice p n c) (hown : OwnR w B p n c ys) (sz : ByteArray) (es : sz = strOfNums zs) (hx : a.eval x = .string sz) (hlen : n + zs.length ≤ 100000000000) (hbase : B ≤ w.heap.size)
 (h : ∀ p' n' cap w', OwnR w' B p' n' cap (ys ++ zs) → w.grownBy w' (Value.ownBlock (.slice p n c)) → wpList Tryz.prog ops Q rest (a.put o.dst (.slice p' n' cap)) w') : wpList Tryz.prog ops Q (o :: rest) a w := by
 subst es; obtain ⟨p', n', c', w', hr, ho', hg⟩ := runR_str w o.type B p n c ys zs hz hown hlen hbase; exact Lib.wpList_append_run w hgd s x 22 9 ho _ _ hs hx _ w' hr (h p' n' c' w' ho' hg)
theorem runR_bytes (w : World) (ty : TypeId) (B : Nat) (p : Option Addr) (n c : Nat) (ys zs : List Int) (q : Option Addr) (m c2 : Nat) (hm : m = zs.length) (hown : OwnR w B p n c ys) (hq : BIn w q zs) (hpos : 0 < m) (hlen : n + zs.length ≤ 100000000000) (hbase : B ≤ w.heap.size) :
 ∃ p' n' c' w', (Builtin.append_ #[22, 22] ty #[.slice p n c, .slice q m c2]).run Tryz.prog w = .ok (.slice p' n' c') w' ∧ OwnR w' B p' n' c' (ys ++ zs) ∧ w.grownBy w' (Value.ownBlock (.slice p n c)) := by
 obtain ⟨i0, hi, hz0, hz1, hz2⟩ := info_parts infoByte; subst hm; obtain ⟨qb, qo, rfl, hqc⟩ := hq hpos
 have hnews : ∀ j u, (zs.map (Value.int .u8))[j]? = some u → w.cell? ((⟨qb, qo, none⟩ : Addr).add j) = some u := fun j v hv => by
  obtain ⟨x, hx, rfl⟩ : ∃ x, zs[j]? = some x ∧ Value.int .u8 x = v := by simpa using hv
  have hl := (List.getElem?_eq_some_iff.1 hx).1; rw [show (⟨qb, qo, none⟩ : Addr).add j = ⟨qb, qo + j, none⟩ from by simp [Addr.add], hqc j hl]
  simp [List.getD, hx]
 have hcell := hown.cellA; obtain ⟨hn, g, cur, mk, rfl, hB, hg, hmk, hc, hnc, hcm, htk⟩ := hown
 by_cases hroom : n + zs.length ≤ c
 ·have hf := run_firstCells_some (P := Tryz.prog) w 1 zs.length ⟨qb, qo, none⟩ zs.length c2 (zs.map (Value.int .u8)) (by simp) hnews
  have hst := run_storeCells_atG Tryz.prog g n 5 mk (zs.map (Value.int .u8)) 0 cur w hg (hmk.imp (fun h => h) (fun h => by rw [List.length_map]; omega)) (by rw [List.length_map]; omega) u8_one; simp only [Nat.add_zero, List.length_map] at hst
  have hr : (Builtin.append_ #[22, 22] ty #[.slice (some ⟨g, 0, none⟩) n c, .slice (some ⟨qb, qo, none⟩) zs.length c2]).run Tryz.prog w = .ok (.slice (some ⟨g, 0, none⟩) (n + zs.length) c) (w.setRow g (cur.toList.take n ++ zs.map (Value.int .u8) ++ cur.toList.drop (n + zs.length)).toArray) := by
   simp [Builtin.append_, run_underlying Tryz.underlying22, sizeOf, typeInfo, hi, hz1, Builtin.lenOf, hroom, hf, Addr.add_lit, hst]
  refine ⟨some ⟨g, 0, none⟩, n + zs.length, c, _, hr, ⟨by rw [List.length_append, hn], g, _, mk, rfl, hB, setRow_heap w g cur _ 5 _ hg, hmk, ?_, by omega, hcm, ?_⟩, ⟨rfl, rfl, rfl, by simp, fun k _ hk => setRow_other w g k _ (fun e => hk (by simp [Value.ownBlock, e]))⟩⟩
  ·simp only [List.size_toArray, List.length_append, List.length_take, List.length_drop, Array.length_toList, List.length_map]
   omega
  ·rw [htk, List.map_append]
   have e : n + zs.length = (ys.map (Value.int .u8) ++ zs.map (Value.int .u8)).length := by simp; omega
   rw [e]; exact List.take_left
 ·obtain ⟨g', e', _, _, hcl⟩ := hcell
  have hgg : g' = g := by simpa using e'.symm
  subst hgg
  have holds : ∀ j v, (ys.map (Value.int .u8))[j]? = some v → w.cell? ((⟨g', 0, none⟩ : Addr).add j) = some v := fun j v hv => by
   obtain ⟨x, hx, rfl⟩ : ∃ x, ys[j]? = some x ∧ Value.int .u8 x = v := by simpa using hv
   have hl := (List.getElem?_eq_some_iff.1 hx).1; rw [show (⟨g', 0, none⟩ : Addr).add j = ⟨g', j, none⟩ from by (unfold Addr.add; split <;> simp_all), hcl j hl]
   simp [List.getD, hx]
  have hr := run_append_grow (P := Tryz.prog) w 22 ty 5 i0 (.int .u8 0) Tryz.underlying22 hi hz0 ⟨g', 0, none⟩ n c (ys.map (Value.int .u8)) (by rw [hz1]; simp [hn]) holds ⟨qb, qo, none⟩ zs.length c2 (zs.map (Value.int .u8)) (by rw [hz1]; simp) hnews (by omega) (by omega) (by rw [hz2]; exact growslice_fits (by omega) (by omega)); have hge := grownCap_ge w (n + zs.length) c 5; have hcm2 : grownCap w (n + zs.length) c 5 ≤ maxLen := grownCap_le_maxLen w (n + zs.length) c 5 (by unfold maxLen; omega); refine ⟨_, _, _, _, hr, ⟨by rw [List.length_append, hn], w.heap.size, _, (0, 0), rfl, hbase, heap_alloc_new w.drew _, .inl rfl, ?_, hge, hcm2, ?_⟩, ⟨rfl, rfl, rfl, by simp, fun k hk _ => heap_alloc_old w.drew _ hk⟩⟩
  ·have hz1 : (Value.int IntKind.u8 0).cells.size = 1 := rfl
   simp only [Array.size_append, List.size_toArray, size_zeroCells, hz1, List.length_map]
   omega
  ·simp only [Array.toList_append, List.append_assoc, List.map_append]
   have e : n + zs.length = (ys.map (Value.int .u8) ++ zs.map (Value.int .u8)).length := by simp; omega
   rw [← List.append_assoc, e]; exact List.take_left
theorem appR_bytes (w : World) {ops : Array Oper} {rest : List Oper} {o : Oper} {a : Act} {Q : Exit → Act → World → Prop} (hgd : o.guard = none) (s x : Operand)
 (ho : o.op = .call { callee := .builtin .append, args := #[s, x], argTypes := #[22, 22] }) (B : Nat) (p : Option Addr) (n c : Nat) (ys zs : List Int) (q : Option Addr) (m c2 : Nat) (hm : m = zs.length)
 (hs : a.eval s = .slice p n c) (hown : OwnR w B p n c ys) (hx : a.eval x = .slice q m c2) (hq : BIn w q zs) (hlen : n + zs.length ≤ 100000000000) (hbase : B ≤ w.heap.size)
 (h : ∀ p' n' cap w', OwnR w' B p' n' cap (ys ++ zs) → w.grownBy w' (Value.ownBlock (.slice p n c)) → wpList Tryz.prog ops Q rest (a.put o.dst (.slice p' n' cap)) w') : wpList Tryz.prog ops Q (o :: rest) a w := by
 by_cases hpos : 0 < m
 ·obtain ⟨p', n', c', w', hr, ho', hg⟩ := runR_bytes w o.type B p n c ys zs q m c2 hm hown hq hpos hlen hbase
  exact Lib.wpList_append_run w hgd s x 22 22 ho _ _ hs hx _ w' hr (h p' n' c' w' ho' hg)
 ·have h0 : m = 0 := by omega
  have hz : zs = [] := by cases zs with
   | nil => rfl
   | cons _ _ => simp at hm; omega
  subst h0 hz; refine app_nothing w hgd s x ho p n c ?_ hs q c2 hx (h p n c w (by simpa using hown) ⟨rfl, rfl, rfl, Nat.le_refl _, fun _ _ _ => rfl⟩); obtain ⟨_, _, _, _, _, _, _, _, _, hnc, _⟩ := hown; exact hnc
def rdI (xs : List Int) (i : Nat) : Int := if i < xs.length then xs.getD i 0 else 0
def rdN (xs : List Int) (i : Nat) : Nat := if i < xs.length then i + 1 else i
theorem rdI_rng {xs : List Int} (hb : Bytes xs) (i : Nat) : 0 ≤ rdI xs i ∧ rdI xs i < 256 := by
 unfold rdI; split
 ·have := hb.at i; omega
 ·omega
theorem rdN_le {xs : List Int} {i : Nat} (h : i ≤ xs.length) : rdN xs i ≤ xs.length := by unfold rdN; split <;> omega
structure RdIn (w : World) (R : Nat) (p : Option Addr) (c : Nat) (xs : List Int) (i : Nat) : Prop where
 at0 : w.cell? ⟨R, 0, none⟩ = some (.slice p xs.length c)
 at1 : w.cell? ⟨R, 1, none⟩ = some (.int .i64 i)
 fz : w.frozen? ⟨R, 1, none⟩ = false
 lt : R < w.heap.size
 bytes : Bytes xs
 small : xs.length ≤ 500
 le : i ≤ xs.length
 text : BIn w p xs
 low : 0 < xs.length → ∀ a, p = some a → a.block < R
theorem RdIn.keep {w w' : World} {R : Nat} {p : Option Addr} {c : Nat} {xs : List Int} {i B U : Nat} (h : RdIn w R p c xs i) (k : Keep B U w w') (hR : R < B) : RdIn w' R p c xs i := by
 have hb : Below (R + 1) w w' := k.below hR (by have := h.lt; omega); refine ⟨(hb.cell (p := ⟨R, 0, none⟩) (Nat.lt_succ_self _)).trans h.at0, (hb.cell (p := ⟨R, 1, none⟩) (Nat.lt_succ_self _)).trans h.at1, (hb.frozen (p := ⟨R, 1, none⟩) (Nat.lt_succ_self _)).trans h.fz, Nat.lt_of_lt_of_le h.lt hb.size, h.bytes, h.small, h.le, ?_, h.low⟩
 intro hn
 obtain ⟨b, o, rfl, hc⟩ := h.text hn; exact ⟨b, o, rfl, fun j hj => (hb.cell (p := ⟨b, o + j, none⟩) (Nat.lt_succ_of_lt (h.low hn ⟨b, o, none⟩ rfl))).trans (hc j hj)⟩
theorem RdIn.below {w w' : World} {R : Nat} {p : Option Addr} {c : Nat} {xs : List Int} {i B : Nat} (h : RdIn w R p c xs i) (k : Below B w w') (hR : R < B) : RdIn w' R p c xs i :=
 h.keep (B := B) (U := w.heap.size) ⟨k.os, k.tape, k.output, k.size, fun j hj hp => k.block j (by omega)⟩ hR
theorem next_any (R c i : Nat) (p : Option Addr) (xs : List Int) (w : World) (h : RdIn w R p c xs i) :
 Calls Tryz.prog 21 #[.pointer (some ⟨R, 0, none⟩)] w fun e w' => e = .returned (.int .i64 (rdI xs i)) ∧ Keep R (R + 1) w w' ∧ w'.heap.size = w.heap.size ∧ RdIn w' R p c xs (rdN xs i) := by
 have h0 := h.at0; have h1 := h.at1; have hf := h.fz; have hs := h.small; have HH : Hid (RdIn w R p c xs i) := h
 by_cases hlt : i < xs.length
 ·rw [show rdI xs i = xs.getD i 0 by unfold rdI; rw [if_pos hlt], show rdN xs i = i + 1 by unfold rdN; rw [if_pos hlt]]
  obtain ⟨b, o, rfl, hc⟩ := h.text (by omega); have hx := hc i hlt; have hr := h.bytes.at i
  obtain ⟨x, ex⟩ : ∃ x, x = xs.getD i 0 := ⟨_, rfl⟩
  rw [← ex] at hx hr ⊢
  obtain ⟨n, en⟩ : ∃ n, n = xs.length := ⟨_, rfl⟩
  rw [← en] at h0 hs hlt; have HE : Hid (n = xs.length) := en
  have FIN : Hid (∀ k, Keep R (R + 1) w ((w.drewN k).setCell ⟨R, 1, none⟩ (.int .i64 (i + 1 : Nat))) ∧ ((w.drewN k).setCell ⟨R, 1, none⟩ (.int .i64 (i + 1 : Nat))).heap.size = w.heap.size ∧ RdIn ((w.drewN k).setCell ⟨R, 1, none⟩ (.int .i64 (i + 1 : Nat))) R (some ⟨b, o, none⟩) c xs (i + 1)) := by
   intro k
   have hk : Keep R (R + 1) w ((w.drewN k).setCell ⟨R, 1, none⟩ (.int .i64 (i + 1 : Nat))) := ⟨rfl, rfl, rfl, by simp, fun j _ hp => by rw [heap_setCell_other _ _ _ _ (by simp; omega)]; rfl⟩
   refine ⟨hk, by simp, ?_⟩; refine ⟨?_, World.cell?_setCell_same' _ _ _ (by show (w.cell? _).isSome = true; rw [h1]; rfl), ?_, by have := HH.out.lt; simpa using this, HH.out.bytes, HH.out.small, by omega, ?_, HH.out.low⟩
   ·rw [World.cell?_setCell_other _ _ _ _ (by intro e; simp only [Addr.mk.injEq] at e; omega)]; exact HH.out.at0
   ·rw [World.frozen?_setCell]; exact hf
   ·intro hn
    refine ⟨b, o, rfl, fun j hj => ?_⟩; rw [World.cell?_setCell_other _ _ _ _ (by intro e; simp only [Addr.mk.injEq] at e; have := HH.out.low hn _ rfl; simp only at this; omega)]; exact hc j hj
  clear ex hc h en
  go_enter Tryz.func21, Tryz.ntmps21
  go_wp2
  go_region
  all_goals go_wp2
  go_region
  all_goals go_wp2
  all_goals go_ret
  exact ⟨rfl, FIN.out 2⟩
 ·rw [show rdI xs i = 0 by unfold rdI; rw [if_neg hlt], show rdN xs i = i by unfold rdN; rw [if_neg hlt]]
  have hi : i = xs.length := by have := h.le; omega
  obtain ⟨n, en⟩ : ∃ n, n = xs.length := ⟨_, rfl⟩
  rw [← en] at h0 hs hi; subst hi; have HE : Hid (i = xs.length) := en; clear h en
  go_enter Tryz.func21, Tryz.ntmps21
  go_wp2
  go_region
  all_goals go_wp2
  all_goals go_ret
  exact ⟨rfl, Keep.of_grown (row := none) ⟨rfl, rfl, rfl, Nat.le_refl _, fun _ _ _ => rfl⟩ (by intro k e; cases e), rfl, HH.out.below (B := w.heap.size) (below_drewN (Below.refl _ _) 1) HH.out.lt⟩
theorem take_bin {w : World} {p : Option Addr} {xs : List Int} (h : BIn w p xs) (n : Nat) : BIn w p (xs.take n) := by
 intro hn
 rw [List.length_take] at hn; obtain ⟨b, o, rfl, hc⟩ := h (by omega); refine ⟨b, o, rfl, fun i hi => ?_⟩; rw [List.length_take] at hi; rw [hc i (by omega), List.getD, List.getD, List.getElem?_take_of_lt (by omega)]
theorem l4open_any (p : Option Addr) (c : Nat) (xs : List Int) (w : World) (hb : Bytes xs) (hn : xs.length ≤ 1048576) (hc : xs.length ≤ c) (hx : BIn w p xs) :
 Calls Tryz.prog 11 #[.slice p xs.length c] w fun e w' => e = .returned (.pointer (some ⟨w.heap.size, 0, none⟩)) ∧ Below w.heap.size w w' ∧ w'.heap.size = w.heap.size + 1 ∧ RdIn w' w.heap.size p c (xs.take 500) 0 := by
 have R : ∀ m : Nat, m = (xs.take 500).length → Hid (Below w.heap.size w (w.alloc (Obj.cells #[.slice p m c, .int .i64 0] 54)) ∧ (w.alloc (Obj.cells #[.slice p m c, .int .i64 0] 54)).heap.size = w.heap.size + 1 ∧ RdIn (w.alloc (Obj.cells #[.slice p m c, .int .i64 0] 54)) w.heap.size p c (xs.take 500) 0) := by
  intro m hm
  have hbl := (Below.refl w.heap.size w).alloc (Nat.le_refl _) (Obj.cells #[.slice p m c, .int .i64 0] 54); have hnew := heap_alloc_new w (Obj.cells #[.slice p m c, .int .i64 0] 54); refine ⟨hbl, by simp, ?_⟩; refine ⟨?_, ?_, ?_, by simp, fun x hx => hb x (List.mem_of_mem_take hx), by simp; omega, by omega, ?_, fun h0 a ea => ?_⟩
  ·rw [← hm]; unfold World.cell?; simp only [hnew]; rfl
  ·unfold World.cell?; simp only [hnew]; rfl
  ·exact frozen_of_row _ _ _ _ _ hnew
  ·intro h0
   obtain ⟨b, o, rfl, hh⟩ := take_bin hx 500 h0; exact ⟨b, o, rfl, fun j hj => (hbl.cell (p := ⟨b, o + j, none⟩) (World.block_lt_of_cell? _ _ (hh j hj))).trans (hh j hj)⟩
  ·obtain ⟨b, o, rfl, hh⟩ := take_bin hx 500 h0
   obtain rfl := Option.some.inj ea; exact World.block_lt_of_cell? _ _ (hh 0 h0)
 by_cases h5 : 500 < xs.length
 ·have RR := R 500 (by rw [List.length_take]; omega)
  clear R hx hb
  obtain ⟨n, en⟩ : ∃ n, n = xs.length := ⟨_, rfl⟩
  rw [← en] at hn hc h5 ⊢; have HE : Hid (n = xs.length) := en; clear en
  go_enter Tryz.func11, Tryz.ntmps11
  go_wp2
  go_ret; exact ⟨rfl, RR.out⟩
 ·have RR := R xs.length (by rw [List.length_take]; omega)
  clear R hx hb
  obtain ⟨n, en⟩ : ∃ n, n = xs.length := ⟨_, rfl⟩
  rw [← en] at hn hc h5 RR ⊢; have HE : Hid (n = xs.length) := en; clear en
  go_enter Tryz.func11, Tryz.ntmps11
  go_wp2
  go_ret; exact ⟨rfl, RR.out⟩
theorem Keep.cell {B U : Nat} {w w' : World} (h : Keep B U w w') {a : Addr} {v : Value} (hc : w.cell? a = some v) (ha : a.block < B ∨ U ≤ a.block) : w'.cell? a = some v := by
 have hb := h.block a.block (World.block_lt_of_cell? _ _ hc) ha
 unfold World.cell? at hc ⊢
 rw [hb]; exact hc
theorem Keep.of_below {B U : Nat} {w w' : World} (h : Below w.heap.size w w') : Keep B U w w' := ⟨h.os, h.tape, h.output, h.size, fun k hk _ => h.block k hk⟩
def nmU : List (List UInt8) := [[97], [102, 111, 111], [98, 49], [91, 93], [45], [43], [61], [58, 45], [44], [105, 115], [], [88, 32, 121], [92, 43], [123, 125], [33], [59], [46], [47, 42], [105, 116, 39, 115], [10, 128], [120, 111, 114], [109, 111, 100], [124], [42], [100, 121, 110, 97, 109, 105, 99], [64], [64, 64], [104, 101, 108, 108, 111, 95, 87, 111, 114, 108, 100]]
def nmV : List Value := nmU.map strV
theorem nm_made (w : World) (t : TypeId) (i : Nat) (h : i < 28) : (w.alloc (.cells nmV.toArray t)).cell? ⟨w.heap.size, i, none⟩ = some (.string (bOf (nmU.getD i []))) := by
 rw [cell_lit w nmV t i h]; simp only [nmV, List.getElem_map, List.getD, List.getElem?_eq_getElem (show i < nmU.length from h)]; rfl
def nameAt (x : Nat) : List UInt8 := nmU.getD (if x < 180 then x % 6 else x % 28) []
def NameOut (w : World) (R : Nat) (p : Option Addr) (c : Nat) (xs : List Int) (i : Nat) (e : Ending) (w' : World) : Prop :=
 ∃ g n cap, e = .returned (.slice (some ⟨g, 0, none⟩) n cap) ∧ n = (numsU (nameAt (rdI xs i).toNat)).length ∧ Keep R (R + 1) w w' ∧ RdIn w' R p c xs (rdN xs i) ∧ w.heap.size ≤ g ∧ OwnT w' w.heap.size (some ⟨g, 0, none⟩) n cap (numsU (nameAt (rdI xs i).toNat))
set_option maxRecDepth 100000 in
set_option maxHeartbeats 2000000 in
theorem l4name_any (R c i : Nat) (p : Option Addr) (xs : List Int) (w : World) (h : RdIn w R p c xs i) :
 Calls Tryz.prog 42 #[.pointer (some ⟨R, 0, none⟩)] w (NameOut w R p c xs i) := by
 have HH : Hid (RdIn w R p c xs i) := h; have hr := rdI_rng h.bytes i
 obtain ⟨wA, eA⟩ : ∃ wA, wA = w.alloc (.cells nmV.toArray 9) := ⟨_, rfl⟩
 have HNM : Hid (∀ j, j < 28 → wA.cell? ⟨w.heap.size, j, none⟩ = some (.string (bOf (nmU.getD j [])))) := fun j hj => by rw [eA]; exact nm_made w _ j hj
 have HBA : Hid (Below w.heap.size w wA) := by rw [eA]; exact (Below.refl _ _).alloc (Nat.le_refl _) _
 have HSA : Hid (w.heap.size < wA.heap.size) := by show _ < _; rw [eA]; simp
 clear h
 go_enter Tryz.func42, Tryz.ntmps42
 go_wp2_with fail
 have eA' : wA = w.alloc (Obj.cells #[.string ⟨#[97]⟩, .string ⟨#[102, 111, 111]⟩, .string ⟨#[98, 49]⟩, .string ⟨#[91, 93]⟩, .string ⟨#[45]⟩, .string ⟨#[43]⟩, .string ⟨#[61]⟩, .string ⟨#[58, 45]⟩, .string ⟨#[44]⟩, .string ⟨#[105, 115]⟩, .string ⟨#[]⟩, .string ⟨#[88, 32, 121]⟩, .string ⟨#[92, 43]⟩, .string ⟨#[123, 125]⟩, .string ⟨#[33]⟩, .string ⟨#[59]⟩, .string ⟨#[46]⟩, .string ⟨#[47, 42]⟩, .string ⟨#[105, 116, 39, 115]⟩, .string ⟨#[10, 128]⟩, .string ⟨#[120, 111, 114]⟩, .string ⟨#[109, 111, 100]⟩, .string ⟨#[124]⟩, .string ⟨#[42]⟩, .string ⟨#[100, 121, 110, 97, 109, 105, 99]⟩, .string ⟨#[64]⟩, .string ⟨#[64, 64]⟩, .string ⟨#[104, 101, 108, 108, 111, 95, 87, 111, 114, 108, 100]⟩] 9) := by rw [eA]; rfl
 rw [← eA']; clear eA eA'; have HRA := HH.out.below HBA.out HH.out.lt; refine (next_any R c i p xs wA HRA).mono ?_; rintro e w2 ⟨rfl, hk2, hs2, hR2⟩; have HR2 : Hid (RdIn w2 R p c xs (rdN xs i)) := hR2; have HK2 : Hid (Keep R (R + 1) w w2) := (Keep.of_below HBA.out).trans hk2
 obtain ⟨x, ex⟩ : ∃ x : Nat, rdI xs i = x := ⟨(rdI xs i).toNat, by omega⟩
 rw [ex] at hr ⊢
 have HXE : Hid ((rdI xs i).toNat = x) := by show _ = _; rw [ex]; rfl
 have FIN : Hid (∀ j s, nameAt x = nmU.getD j [] → j < 28 → s = bOf (nmU.getD j []) → w2.cell? ⟨w.heap.size, j, none⟩ = some (.string s) ∧ ∃ w3 n cap, (convert 9 22 (.string s)).run Tryz.prog w2 = .ok (.slice (some ⟨w2.heap.size, 0, none⟩) n cap) w3 ∧ NameOut w R p c xs i (.returned (.slice (some ⟨w2.heap.size, 0, none⟩) n cap)) w3) := by
  intro j s hj hj28 rfl
  refine ⟨hk2.cell (HNM.out j hj28) (.inr HH.out.lt), ?_⟩; obtain ⟨w3, cap, hcv, hb3, hot⟩ := conv_bytes w2 (numsU (nmU.getD j [])) (byte_numsU _) 9 Tryz.underlying9; rw [strOf_numsU] at hcv; have hsz : w.heap.size ≤ w2.heap.size := HK2.out.size; refine ⟨w3, _, cap, hcv, w2.heap.size, _, cap, rfl, by rw [HXE.out, hj], Keep.trans HK2.out ⟨hb3.os, hb3.tape, hb3.output, hb3.size, fun k hk _ => hb3.block k hk⟩, HR2.out.below hb3 HR2.out.lt, hsz, ?_⟩; rw [HXE.out, hj]; refine ⟨hot.1, fun hn => ?_⟩; obtain ⟨g, eg, h1, h2⟩ := hot.2 hn; exact ⟨g, eg, Nat.le_trans hsz h1, h2⟩
 clear hR2 hk2 HNM ex HRA hs2
 by_cases hlt : x < 180
 ·obtain ⟨j, ej⟩ : ∃ j, j = x % 6 := ⟨_, rfl⟩
  have hj6 : j < 6 := by omega
  obtain ⟨s, es⟩ : ∃ s, s = bOf (nmU.getD j []) := ⟨_, rfl⟩
  obtain ⟨hcell, w3, n, cap, hcv, hout⟩ := FIN.out j s (by unfold nameAt; rw [if_pos hlt, ej]) (by omega) es; have HO : Hid _ := hout
  have hmod : (x : Int).tmod 6 = (j : Int) := by rw [ej, Int.tmod_eq_emod_of_nonneg (by omega)]; rfl
  clear FIN es ej hout; go_wp2_with fail; go_ret; exact HO.out
 ·obtain ⟨j, ej⟩ : ∃ j, j = x % 28 := ⟨_, rfl⟩
  have hj6 : j < 28 := by omega
  obtain ⟨s, es⟩ : ∃ s, s = bOf (nmU.getD j []) := ⟨_, rfl⟩
  obtain ⟨hcell, w3, n, cap, hcv, hout⟩ := FIN.out j s (by unfold nameAt; rw [if_neg hlt, ej]) (by omega) es; have HO : Hid _ := hout
  have hmod : (x : Int).tmod 28 = (j : Int) := by rw [ej, Int.tmod_eq_emod_of_nonneg (by omega)]; rfl
  clear FIN es ej hout; go_wp2_with fail; go_ret; exact HO.out
end Go.Proofs.YtfgmenkoeflhaaaGreatDoor
