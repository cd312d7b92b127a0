/- Texts of WtC, WtL, FtB, WtM. Own work of the verifier. -/
import Derived.Test.YtfgmenkoeflhaaaGreatDoorUqar
namespace Go.Proofs.YtfgmenkoeflhaaaGreatDoor
set_option maxRecDepth 100000
open Go Go.RowKit
set_option linter.unusedVariables false
def TW (W0 : World) (q : Option Addr) (n c : Nat) (t : Tr) : Prop := n = (itC t).length ∧ n ≤ c ∧ c ≤ 9223372036854775807 ∧ CIn W0 q (itC t)
theorem TW.below {W0 W : World} {q : Option Addr} {n c : Nat} {t : Tr} (h : TW W0 q n c t) (hb : Below W0.heap.size W0 W) : TW W q n c t := ⟨h.1, h.2.1, h.2.2.1, h.2.2.2.below hb⟩
theorem fIdx_rng (s : List UInt8) (pf : Bool) : ∀ (T : List Cel) (k : Nat), fIdx s pf k T = -1 ∨ ∃ j, j < T.length ∧ fIdx s pf k T = ((k + j : Nat) : Int)
 | [], k => .inl rfl
 | x :: r, k => by
   unfold fIdx
   split
   ·exact .inr ⟨0, by simp, by simp⟩
   ·rcases fIdx_rng s pf r (k + 1) with h | ⟨j, h1, h2⟩
    ·exact .inl h
    ·exact .inr ⟨j + 1, by simpa using h1, by rw [h2]; congr 1; omega⟩
theorem find_rng (T : List Cel) (xs : List Int) (pf : Bool) : findW T xs pf = -1 ∨ ∃ j, j < T.length ∧ findW T xs pf = (j : Int) := by
 rcases fIdx_rng (strOfNums xs).toList pf T 0 with h | ⟨j, h1, h2⟩
 ·exact .inl h
 ·exact .inr ⟨j, h1, by rw [Nat.zero_add] at h2; exact h2⟩
theorem findW_any {w0 : World} {ob : Nat} {po : Option Addr} {co : Nat} {T : List Cel} {pn : Option Addr} {cn : Nat} {N : List (List Int)} {q : Bool} (hE : WEnv w0 ob po co T pn cn N q) (tp : Option Addr) (l tc : Nat) (xs : List Int) (pf : Bool) (b o : Nat) (hl : l = xs.length) (hx : BIn w0 tp xs) (hc : w0.cell? ⟨b, o, none⟩ = some (.slice tp l tc)) (W : World) (hW : Below w0.heap.size w0 W) :
 Calls Tryz.prog 117 #[.slice po T.length co, .slice tp l tc, .bool pf] W fun e w' => e = .returned (.int .i64 (findW T xs pf)) ∧ w'.cell? ⟨ob, 0, none⟩ = some (.slice po T.length co) ∧ w'.cell? ⟨b, o, none⟩ = some (.slice tp l tc) ∧ Hid (Below w0.heap.size w0 w') := by
 refine (l3find_any po co T tp l tc xs pf W hl (by have := hE.olen; omega) (hE.ops.below hW) (hx.below hW)).mono ?_; rintro e w' ⟨rfl, m, rfl⟩; have hb : Below w0.heap.size w0 (W.drewN m) := hW.trans ⟨by simp [World.drewN], by simp [World.drewN], by simp [World.drewN], by simp [World.drewN], fun k _ => by simp [World.drewN]⟩; exact ⟨rfl, (hb.cell (World.block_lt_of_cell? _ _ hE.c0)).trans hE.c0, (hb.cell (World.block_lt_of_cell? _ _ hc)).trans hc, hb⟩
theorem byte_app {a b : List Int} (ha : Byte a) (hb : Byte b) : Byte (a ++ b) := fun x hx => (List.mem_append.1 hx).elim (ha x) (hb x)
theorem byte_cons {x : Int} {a : List Int} (h0 : 0 ≤ x ∧ x < 256) (ha : Byte a) : Byte (x :: a) := fun y hy => by
 rcases List.mem_cons.1 hy with rfl | hy
 ·exact h0
 ·exact ha y hy
theorem byte_nil : Byte [] := fun x hx => by cases hx
theorem byte_one {x : Int} (h0 : 0 ≤ x) (h1 : x < 256) : Byte [x] := byte_cons ⟨h0, h1⟩ byte_nil
theorem dec_byte : ∀ (f : Nat) (v : Int), Byte (decF f v)
 | 0, v => byte_nil
 | f + 1, v => by
   have hm1 : -10 < v.tmod 10 := Int.lt_tmod_of_pos v (by decide); have hm2 : v.tmod 10 < 10 := Int.tmod_lt_of_pos v (by decide)
   unfold decF
   split
   ·exact byte_cons ⟨by decide, by decide⟩ (byte_one (by omega) (by omega))
   ·split
    ·exact byte_app (dec_byte f _) (byte_one (by omega) (by omega))
    ·split
     ·exact byte_one (by omega) (by omega)
     ·exact byte_app (dec_byte f _) (byte_one (by omega) (by omega))
theorem hexD_rng (k : Int) : 0 ≤ hexD k ∧ hexD k < 256 := by
 unfold hexD
 have h : ∀ x ∈ hexL, 0 ≤ x ∧ x < 256 := by decide
 by_cases hk : k.toNat < hexL.length
 ·exact h _ (by simp [List.getD, hk])
 ·simp [List.getD, hk]
theorem q1_byte {c : Int} (h : 0 ≤ c ∧ c < 256) : Byte (q1 c) := by
 have h1 := hexD_rng (c / 16); have h2 := hexD_rng (c % 16)
 unfold q1
 split
 ·exact byte_cons ⟨by decide, by decide⟩ (byte_one h.1 h.2)
 ·split
  ·exact byte_cons ⟨by decide, by decide⟩ (byte_one (by decide) (by decide))
  ·split
   ·exact byte_cons ⟨by decide, by decide⟩ (byte_one (by decide) (by decide))
   ·split
    ·exact byte_cons ⟨by decide, by decide⟩ (byte_cons ⟨by decide, by decide⟩ (byte_cons h1 (byte_cons h2 (byte_one (by decide) (by decide)))))
    ·exact byte_one h.1 h.2
theorem quote_byte {xs : List Int} (h : Byte xs) : Byte (quoteB xs) := by
 unfold quoteB
 split
 ·exact byte_nil
 ·split
  ·exact h
  ·unfold quotedB
   refine byte_cons ⟨by decide, by decide⟩ (byte_app (fun x hx => ?_) (byte_one (by decide) (by decide))); obtain ⟨c, hc, hx⟩ := List.mem_flatMap.1 hx; exact q1_byte (h c hc) x hx
theorem quote_lenW (xs : List Int) : (quoteB xs).length ≤ 601 := by
 unfold quoteB
 split
 ·simp
 ·rename_i h
  split
  ·omega
  ·have := q1s_bound xs xs.length (Nat.le_refl _) (by omega)
   rw [List.take_length] at this
   unfold quotedB
   simp only [List.length_cons, List.length_append, List.length_nil] at this ⊢
   omega
theorem atomW_byte (q : Bool) {xs : List Int} (h : Byte xs) : Byte (atomW q xs) := by
 unfold atomW
 split
 ·exact quote_byte h
 ·exact h
theorem atomW_len (q : Bool) {xs : List Int} (h : xs.length ≤ 100) : (atomW q xs).length ≤ 601 := by
 unfold atomW
 split
 ·exact quote_lenW xs
 ·omega
theorem trs_sum : ∀ F : Fo, ((trs F).map fun k => (itC k).length).sum = F.cells.length
 | .nil => rfl
 | .node c k r => by
   have := trs_sum r; simp only [trs, List.map_cons, List.sum_cons, itC, Fo.cells, List.length_cons, List.length_append] at this ⊢
   omega
theorem join_len : ∀ L : List (List Int), (joinW L).length ≤ (L.map List.length).sum + L.length
 | [] => by simp [joinW]
 | [a] => by simp [joinW]
 | a :: b :: r => by
   have := join_len (b :: r); simp only [joinW, List.length_append, List.length_cons, List.map_cons, List.sum_cons] at this ⊢
   omega
theorem join_byte : ∀ L : List (List Int), (∀ a ∈ L, Byte a) → Byte (joinW L)
 | [], _ => byte_nil
 | [a], h => h a (by simp)
 | a :: b :: r, h => byte_app (h a (by simp)) (byte_cons ⟨by decide, by decide⟩ (join_byte (b :: r) (fun x hx => h x (List.mem_cons_of_mem _ hx))))
theorem sum_good (g : Tr → List Int) : ∀ L : List Tr, (∀ k ∈ L, (g k).length ≤ 1100000 * (itC k).length) → ((L.map g).map List.length).sum ≤ 1100000 * (L.map fun k => (itC k).length).sum
 | [], _ => by simp
 | a :: r, h => by
   have h1 := h a (by simp); have h2 := sum_good g r (fun k hk => h k (List.mem_cons_of_mem _ hk)); simp only [List.map_cons, List.sum_cons]
   omega
theorem len_sum : ∀ L : List Tr, L.length ≤ (L.map fun k => (itC k).length).sum
 | [] => by simp
 | a :: r => by
   have := len_sum r; simp only [List.length_cons, List.map_cons, List.sum_cons, itC] at this ⊢
   omega
theorem fIdx_hit (s : List UInt8) (pf : Bool) : ∀ (T : List Cel) (k j : Nat), fIdx s pf k T = ((k + j : Nat) : Int) → j < T.length → hitB s pf (T.getD j Cel.none) = true
 | [], k, j, h, hj => by simp at hj
 | x :: r, k, j, h, hj => by
   unfold fIdx at h
   split at h
   ·rename_i hh
    obtain rfl : j = 0 := by omega
    simpa using hh
   ·cases j with
    | zero =>
      rcases fIdx_rng s pf r (k + 1) with h9 | ⟨i, _, h9⟩
      ·rw [h9] at h; omega
      ·rw [h9] at h; omega
    | succ j =>
      have := fIdx_hit s pf r (k + 1) j (by rw [h]; congr 1; omega) (by simpa using hj)
      simpa using this
theorem find_hit {T : List Cel} {xs : List Int} {pf : Bool} {j : Nat} (hj : j < T.length) (h : findW T xs pf = (j : Int)) : preB (opW T (j : Int)).2.1 = pf := by
 have := fIdx_hit (strOfNums xs).toList pf T 0 j (by rw [Nat.zero_add]; exact h) hj; simp only [hitB, Bool.and_eq_true, beq_iff_eq] at this
 have e : opW T (j : Int) = T.getD j Cel.none := by simp [opW]
 rw [e]; exact this.2
theorem top_facts {T : List Cel} {c : Cel} (h : 0 ≤ topI T c) : c.1 = 3 ∧ c ≠ dot ∧ c ≠ curly ∧ ∃ j : Nat, j < T.length ∧ topI T c = (j : Int) ∧ ((c.2.1 = 2 ∧ preB (opW T (j : Int)).2.1 = false ∧ infB (opW T (j : Int)).2.1 = true) ∨ (c.2.1 ≠ 2 ∧ c.2.1 ≤ 2 ∧ (preB (opW T (j : Int)).2.1 = true ∨ (preB (opW T (j : Int)).2.1 = false ∧ infB (opW T (j : Int)).2.1 = false)))) := by
 unfold topI at h ⊢
 by_cases h1 : c.1 ≠ 3 ∨ c = dot ∨ c = curly ∨ 2 < c.2.1
 ·rw [if_pos h1] at h; exact absurd h (by decide)
 ·rw [if_neg h1] at h ⊢
  have hc3 : c.1 = 3 := Classical.byContradiction fun hh => h1 (.inl hh)
  refine ⟨hc3, fun hh => h1 (.inr (.inl hh)), fun hh => h1 (.inr (.inr (.inl hh))), ?_⟩
  have hle : c.2.1 ≤ 2 := by
   rcases Int.lt_or_le 2 c.2.1 with hh | hh
   ·exact absurd (.inr (.inr (.inr hh))) h1
   ·exact hh
  by_cases h2 : c.2.1 = 2
  ·rw [if_pos h2] at h ⊢
   rcases find_rng T c.2.2 false with hf | ⟨j, hj, hf⟩
   ·rw [hf] at h; split at h <;> exact absurd h (by decide)
   ·by_cases hi : infB (opW T (findW T c.2.2 false)).2.1 = false
    ·rw [if_pos ⟨by rw [hf]; omega, hi⟩] at h; exact absurd h (by decide)
    ·rw [if_neg (fun hh => hi hh.2)]
     refine ⟨j, hj, hf, .inl ⟨h2, find_hit hj hf, ?_⟩⟩; rw [hf] at hi
     simpa using hi
  ·rw [if_neg h2] at h ⊢
   rcases find_rng T c.2.2 true with hf | ⟨j, hj, hf⟩
   ·rw [if_neg (by rw [hf]; decide)] at h ⊢
    rcases find_rng T c.2.2 false with hg | ⟨j, hj, hg⟩
    ·rw [hg] at h; split at h <;> exact absurd h (by decide)
    ·by_cases hi : infB (opW T (findW T c.2.2 false)).2.1 = true
     ·rw [if_pos ⟨by rw [hg]; omega, hi⟩] at h; exact absurd h (by decide)
     ·rw [if_neg (fun hh => hi hh.2)]
      refine ⟨j, hj, hg, .inr ⟨h2, hle, .inr ⟨find_hit hj hg, ?_⟩⟩⟩; rw [hg] at hi
      simpa using hi
   ·rw [if_pos (by rw [hf]; omega)]
    exact ⟨j, hj, hf, .inr ⟨h2, hle, .inl (find_hit hj hf)⟩⟩
def tksU : List (List UInt8) := [[97], [88], [95], [49, 50], [40], [41], [91], [93], [44], [124], [45], [32], [46, 32], [102, 111, 111, 40], [61], [58, 45], [39, 113, 32, 120, 39], [34, 115, 116, 34], [123], [125], [48, 120, 49, 70], [48, 39, 97], [92, 43], [45, 32, 49], [45, 49], [105, 115], [43], [33], [59], [45, 62], [64, 64], [89]]
def tksV : List Value := tksU.map strV
def odtU : List (List UInt8) := [[], [46], [97], [97, 46], [97, 46, 98], [37, 32, 99], [47, 42, 32, 99], [47, 42, 32, 99, 32, 42, 47, 32, 97, 46], [39], [39, 97, 39, 39, 98, 39], [39, 92, 120, 52, 49, 92, 39], [39, 92, 120, 52, 39], [39, 92, 113, 39], [39, 97, 92, 10, 98, 39], [39, 97, 10, 98, 39], [48, 39], [48, 39, 39, 39], [48, 39, 39], [48, 39, 92, 110], [48, 39, 92, 120, 52, 49, 92], [48, 39, 97, 98], [48, 120], [48, 120, 103], [48, 111, 49, 55], [48, 98, 49, 48, 50], [49, 48, 48, 48, 48, 48, 48, 48, 48, 48, 48, 48, 48, 48, 48, 49], [49, 50, 97], [34, 92, 34, 34], [97, 40], [97, 32, 40, 98, 41], [45, 32, 40, 49, 41], [45, 40, 49, 41], [45, 32, 49], [45, 97], [97, 45, 32, 45, 49], [97, 45, 40, 45, 49, 41], [91, 97, 124, 98, 124, 99, 93], [123, 97, 125], [123, 125, 40, 97, 41], [91, 93, 40, 97, 41], [102, 40, 44, 41], [102, 40, 97, 44, 41], [91, 44, 93], [91, 97, 44, 98, 124, 67, 93], [45, 32, 45, 32, 97], [92, 43, 32, 92, 43, 97], [58, 45, 32, 58, 45, 32, 97], [102, 40, 58, 45, 32, 97, 41], [102, 40, 58, 45, 41], [45, 32, 61, 32, 120], [91, 45, 93], [97, 32, 61, 32, 45, 32, 46], [97, 32, 44, 32, 98], [40, 97, 32, 44, 32, 98, 41], [97, 32, 124, 32, 98], [102, 40, 97, 32, 124, 32, 98, 41], [102, 40, 40, 97, 32, 124, 32, 98, 41, 41], [49, 32, 45, 32, 50, 32, 45, 32, 51], [97, 32, 61, 32, 98, 32, 61, 32, 99], [97, 32, 58, 45, 32, 98, 32, 58, 45, 32, 99], [100, 121, 110, 97, 109, 105, 99, 32, 97], [100, 121, 110, 97, 109, 105, 99], [88, 32, 105, 115, 32, 49, 32, 43, 32, 50, 32, 42, 32, 51], [97, 46, 37], [102, 40, 65, 44, 32, 95, 44, 32, 65, 44, 32, 95, 41], [96, 97], [128], [39, 128, 39], [33, 46], [97, 59, 98, 45, 62, 99], [45, 32, 97, 32, 94, 32, 50], [45, 49, 32, 94, 32, 50], [49, 46, 53], [97, 58, 45, 98, 44, 99, 46], [92], [64, 64, 32, 97], [97, 32, 64, 64], [102, 32, 40, 97, 41], [112, 58, 45, 113, 40, 114, 41, 44, 33, 46], [43, 32, 49], [97, 45, 45, 49], [97, 45, 45, 98], [42, 40, 42, 44, 42, 41], [91, 42, 124, 42, 93]]
def odtV : List Value := odtU.map strV
theorem tok_made (w : World) (t : TypeId) (i : Nat) (h : i < 32) : (w.alloc (.cells tksV.toArray t)).cell? ⟨w.heap.size, i, none⟩ = some (.string (bOf (tksU.getD i []))) := by
 rw [cell_lit w tksV t i h]; simp only [tksV, List.getElem_map, List.getD, List.getElem?_eq_getElem (show i < tksU.length from h)]; rfl
theorem odd_made (w : World) (t : TypeId) (i : Nat) (h : i < 84) : (w.alloc (.cells odtV.toArray t)).cell? ⟨w.heap.size, i, none⟩ = some (.string (bOf (odtU.getD i []))) := by
 rw [cell_lit w odtV t i h]; simp only [odtV, List.getElem_map, List.getD, List.getElem?_eq_getElem (show i < odtU.length from h)]; rfl
theorem tksU_len (i : Nat) : (tksU.getD i []).length ≤ 5 := by
 rcases Nat.lt_or_ge i 32 with h | h
 ·have : (List.range 32).all (fun i => decide ((tksU.getD i []).length ≤ 5)) = true := by decide +kernel
  exact of_decide_eq_true (List.all_eq_true.1 this i (by simpa using h))
 ·rw [List.getD, List.getElem?_eq_none (show tksU.length ≤ i from h)]; simp
theorem odtU_len (i : Nat) : (odtU.getD i []).length ≤ 100 := by
 rcases Nat.lt_or_ge i 84 with h | h
 ·have : (List.range 84).all (fun i => decide ((odtU.getD i []).length ≤ 100)) = true := by decide +kernel
  exact of_decide_eq_true (List.all_eq_true.1 this i (by simpa using h))
 ·rw [List.getD, List.getElem?_eq_none (show odtU.length ≤ i from h)]; simp
theorem nextN (R c i : Nat) (p : Option Addr) (xs : List Int) (w : World) (h : RdIn w R p c xs i) :
 ∃ x : Nat, (rdI xs i).toNat = x ∧ x < 256 ∧ Calls Tryz.prog 21 #[.pointer (some ⟨R, 0, none⟩)] w fun e w' => e = .returned (.int .i64 (x : Int)) ∧ Keep R (R + 1) w w' ∧ w'.heap.size = w.heap.size ∧ RdIn w' R p c xs (rdN xs i) := by
 have hr := rdI_rng h.bytes i; have hn := next_any R c i p xs w h; rw [show rdI xs i = (((rdI xs i).toNat : Nat) : Int) by omega] at hn; exact ⟨(rdI xs i).toNat, rfl, by omega, hn⟩
def TokOutD (w : World) (R : Nat) (p : Option Addr) (c : Nat) (xs : List Int) (i : Nat) (e : Ending) (w' : World) : Prop :=
 e = .returned (.string (bOf (tksU.getD ((rdI xs i).toNat % 32) []))) ∧ Keep R (R + 1) w w' ∧ RdIn w' R p c xs (rdN xs i)
set_option maxHeartbeats 2000000 in
theorem l4token_any (R c i : Nat) (p : Option Addr) (xs : List Int) (w : World) (h : RdIn w R p c xs i) :
 Calls Tryz.prog 46 #[.pointer (some ⟨R, 0, none⟩)] w (TokOutD w R p c xs i) := by
 have HH : Hid (RdIn w R p c xs i) := h
 obtain ⟨wA, eA⟩ : ∃ wA, wA = w.alloc (.cells tksV.toArray 9) := ⟨_, rfl⟩
 have HNM : Hid (∀ j, j < 32 → wA.cell? ⟨w.heap.size, j, none⟩ = some (.string (bOf (tksU.getD j [])))) := fun j hj => by rw [eA]; exact tok_made w _ j hj
 have HBA : Hid (Below w.heap.size w wA) := by rw [eA]; exact (Below.refl _ _).alloc (Nat.le_refl _) _
 have HRA := HH.out.below HBA.out HH.out.lt; obtain ⟨x, ex, hx, hnx⟩ := nextN R c i p xs wA HRA
 obtain ⟨j, ej⟩ : ∃ j, j = x % 32 := ⟨_, rfl⟩
 obtain ⟨s, es⟩ : ∃ s, s = bOf (tksU.getD j []) := ⟨_, rfl⟩
 have hj : j < 32 := by omega
 have hmod : (x : Int).tmod 32 = (j : Int) := by rw [ej, Int.tmod_eq_emod_of_nonneg (by omega)]; rfl
 have FIN : Hid (∀ W, Keep R (R + 1) w W → RdIn W R p c xs (rdN xs i) → TokOutD w R p c xs i (.returned (.string s)) W) := fun W h1 h2 => ⟨by rw [ex, ← ej, es], h1, h2⟩
 have HCJ : Hid (wA.cell? ⟨w.heap.size, j, none⟩ = some (.string s)) := by rw [es]; exact HNM.out j hj
 have eA' : w.alloc (Obj.cells #[.string ⟨#[97]⟩, .string ⟨#[88]⟩, .string ⟨#[95]⟩, .string ⟨#[49, 50]⟩, .string ⟨#[40]⟩, .string ⟨#[41]⟩, .string ⟨#[91]⟩, .string ⟨#[93]⟩, .string ⟨#[44]⟩, .string ⟨#[124]⟩, .string ⟨#[45]⟩, .string ⟨#[32]⟩, .string ⟨#[46, 32]⟩, .string ⟨#[102, 111, 111, 40]⟩, .string ⟨#[61]⟩, .string ⟨#[58, 45]⟩, .string ⟨#[39, 113, 32, 120, 39]⟩, .string ⟨#[34, 115, 116, 34]⟩, .string ⟨#[123]⟩, .string ⟨#[125]⟩, .string ⟨#[48, 120, 49, 70]⟩, .string ⟨#[48, 39, 97]⟩, .string ⟨#[92, 43]⟩, .string ⟨#[45, 32, 49]⟩, .string ⟨#[45, 49]⟩, .string ⟨#[105, 115]⟩, .string ⟨#[43]⟩, .string ⟨#[33]⟩, .string ⟨#[59]⟩, .string ⟨#[45, 62]⟩, .string ⟨#[64, 64]⟩, .string ⟨#[89]⟩] 9) = wA := by rw [eA]; rfl
 have HEA : Hid _ := eA'; clear h eA eA' ex ej es HRA HNM
 go_enter Tryz.func46, Tryz.ntmps46
 go_wp2_with fail; rw [HEA.out]; refine hnx.mono ?_; rintro e w2 ⟨rfl, hk2, hs2, hR2⟩; have HO : Hid (TokOutD w R p c xs i (.returned (.string s)) w2) := FIN.out w2 ((Keep.of_below HBA.out).trans hk2) hR2; have hcell : w2.cell? ⟨w.heap.size, j, none⟩ = some (.string s) := hk2.cell HCJ.out (.inr HH.out.lt); clear hk2 hs2 hR2 hnx FIN; go_wp2_with fail; go_ret; exact HO.out
def OddOut (w : World) (R : Nat) (p : Option Addr) (c : Nat) (xs : List Int) (ys : List Int) (i' : Nat) (e : Ending) (w' : World) : Prop :=
 ∃ q n cap, e = .returned (.slice q n cap) ∧ OwnR w' w.heap.size q n cap ys ∧ Keep R (R + 1) w w' ∧ RdIn w' R p c xs i'
set_option maxHeartbeats 2000000 in
theorem l4odd_any (R c i : Nat) (p : Option Addr) (xs : List Int) (w : World) (h : RdIn w R p c xs i) :
 Calls Tryz.prog 23 #[.pointer (some ⟨R, 0, none⟩)] w (OddOut w R p c xs (numsU (odtU.getD ((rdI xs i).toNat % 84) [])) (rdN xs i)) := by
 have HH : Hid (RdIn w R p c xs i) := h
 obtain ⟨wA, eA⟩ : ∃ wA, wA = w.alloc (.cells odtV.toArray 9) := ⟨_, rfl⟩
 have HNM : Hid (∀ j, j < 84 → wA.cell? ⟨w.heap.size, j, none⟩ = some (.string (bOf (odtU.getD j [])))) := fun j hj => by rw [eA]; exact odd_made w _ j hj
 have HBA : Hid (Below w.heap.size w wA) := by rw [eA]; exact (Below.refl _ _).alloc (Nat.le_refl _) _
 have HRA := HH.out.below HBA.out HH.out.lt; obtain ⟨x, ex, hx, hnx⟩ := nextN R c i p xs wA HRA
 obtain ⟨j, ej⟩ : ∃ j, j = x % 84 := ⟨_, rfl⟩
 rw [ex, ← ej]
 obtain ⟨X, eX⟩ : ∃ X, X = odtU.getD j [] := ⟨_, rfl⟩
 have hXl : X.length ≤ 100 := by rw [eX]; exact odtU_len j
 rw [← eX]
 obtain ⟨s, es⟩ : ∃ s, s = bOf X := ⟨_, rfl⟩
 have hj : j < 84 := by omega
 have hmod : (x : Int).tmod 84 = (j : Int) := by rw [ej, Int.tmod_eq_emod_of_nonneg (by omega)]; rfl
 have HCJ : Hid (wA.cell? ⟨w.heap.size, j, none⟩ = some (.string s)) := by rw [es, eX]; exact HNM.out j hj
 have FIN : Hid (∀ W, Keep R (R + 1) w W → RdIn W R p c xs (rdN xs i) → ∃ w3 n cap, (convert 9 22 (.string s)).run Tryz.prog W = .ok (.slice (some ⟨W.heap.size, 0, none⟩) n cap) w3 ∧ OddOut w R p c xs (numsU X) (rdN xs i) (.returned (.slice (some ⟨W.heap.size, 0, none⟩) n cap)) w3) := fun W h1 h2 => by
  obtain ⟨w3, cap, hcv, hb3, hot⟩ := conv_R W (numsU X) (byte_numsU _) (by simp [numsU]; omega) 9 Tryz.underlying9; rw [strOf_numsU, ← es] at hcv; exact ⟨w3, _, cap, hcv, _, _, cap, rfl, hot.mono h1.size, h1.trans (Keep.of_below hb3), h2.below hb3 h2.lt⟩
 have eA' : w.alloc (Obj.cells #[.string ⟨#[]⟩, .string ⟨#[46]⟩, .string ⟨#[97]⟩, .string ⟨#[97, 46]⟩, .string ⟨#[97, 46, 98]⟩, .string ⟨#[37, 32, 99]⟩, .string ⟨#[47, 42, 32, 99]⟩, .string ⟨#[47, 42, 32, 99, 32, 42, 47, 32, 97, 46]⟩, .string ⟨#[39]⟩, .string ⟨#[39, 97, 39, 39, 98, 39]⟩, .string ⟨#[39, 92, 120, 52, 49, 92, 39]⟩, .string ⟨#[39, 92, 120, 52, 39]⟩, .string ⟨#[39, 92, 113, 39]⟩, .string ⟨#[39, 97, 92, 10, 98, 39]⟩, .string ⟨#[39, 97, 10, 98, 39]⟩, .string ⟨#[48, 39]⟩, .string ⟨#[48, 39, 39, 39]⟩, .string ⟨#[48, 39, 39]⟩, .string ⟨#[48, 39, 92, 110]⟩, .string ⟨#[48, 39, 92, 120, 52, 49, 92]⟩, .string ⟨#[48, 39, 97, 98]⟩, .string ⟨#[48, 120]⟩, .string ⟨#[48, 120, 103]⟩, .string ⟨#[48, 111, 49, 55]⟩, .string ⟨#[48, 98, 49, 48, 50]⟩, .string ⟨#[49, 48, 48, 48, 48, 48, 48, 48, 48, 48, 48, 48, 48, 48, 48, 49]⟩, .string ⟨#[49, 50, 97]⟩, .string ⟨#[34, 92, 34, 34]⟩, .string ⟨#[97, 40]⟩, .string ⟨#[97, 32, 40, 98, 41]⟩, .string ⟨#[45, 32, 40, 49, 41]⟩, .string ⟨#[45, 40, 49, 41]⟩, .string ⟨#[45, 32, 49]⟩, .string ⟨#[45, 97]⟩, .string ⟨#[97, 45, 32, 45, 49]⟩, .string ⟨#[97, 45, 40, 45, 49, 41]⟩, .string ⟨#[91, 97, 124, 98, 124, 99, 93]⟩, .string ⟨#[123, 97, 125]⟩, .string ⟨#[123, 125, 40, 97, 41]⟩, .string ⟨#[91, 93, 40, 97, 41]⟩, .string ⟨#[102, 40, 44, 41]⟩, .string ⟨#[102, 40, 97, 44, 41]⟩, .string ⟨#[91, 44, 93]⟩, .string ⟨#[91, 97, 44, 98, 124, 67, 93]⟩, .string ⟨#[45, 32, 45, 32, 97]⟩, .string ⟨#[92, 43, 32, 92, 43, 97]⟩, .string ⟨#[58, 45, 32, 58, 45, 32, 97]⟩, .string ⟨#[102, 40, 58, 45, 32, 97, 41]⟩, .string ⟨#[102, 40, 58, 45, 41]⟩, .string ⟨#[45, 32, 61, 32, 120]⟩, .string ⟨#[91, 45, 93]⟩, .string ⟨#[97, 32, 61, 32, 45, 32, 46]⟩, .string ⟨#[97, 32, 44, 32, 98]⟩, .string ⟨#[40, 97, 32, 44, 32, 98, 41]⟩, .string ⟨#[97, 32, 124, 32, 98]⟩, .string ⟨#[102, 40, 97, 32, 124, 32, 98, 41]⟩, .string ⟨#[102, 40, 40, 97, 32, 124, 32, 98, 41, 41]⟩, .string ⟨#[49, 32, 45, 32, 50, 32, 45, 32, 51]⟩, .string ⟨#[97, 32, 61, 32, 98, 32, 61, 32, 99]⟩, .string ⟨#[97, 32, 58, 45, 32, 98, 32, 58, 45, 32, 99]⟩, .string ⟨#[100, 121, 110, 97, 109, 105, 99, 32, 97]⟩, .string ⟨#[100, 121, 110, 97, 109, 105, 99]⟩, .string ⟨#[88, 32, 105, 115, 32, 49, 32, 43, 32, 50, 32, 42, 32, 51]⟩, .string ⟨#[97, 46, 37]⟩, .string ⟨#[102, 40, 65, 44, 32, 95, 44, 32, 65, 44, 32, 95, 41]⟩, .string ⟨#[96, 97]⟩, .string ⟨#[128]⟩, .string ⟨#[39, 128, 39]⟩, .string ⟨#[33, 46]⟩, .string ⟨#[97, 59, 98, 45, 62, 99]⟩, .string ⟨#[45, 32, 97, 32, 94, 32, 50]⟩, .string ⟨#[45, 49, 32, 94, 32, 50]⟩, .string ⟨#[49, 46, 53]⟩, .string ⟨#[97, 58, 45, 98, 44, 99, 46]⟩, .string ⟨#[92]⟩, .string ⟨#[64, 64, 32, 97]⟩, .string ⟨#[97, 32, 64, 64]⟩, .string ⟨#[102, 32, 40, 97, 41]⟩, .string ⟨#[112, 58, 45, 113, 40, 114, 41, 44, 33, 46]⟩, .string ⟨#[43, 32, 49]⟩, .string ⟨#[97, 45, 45, 49]⟩, .string ⟨#[97, 45, 45, 98]⟩, .string ⟨#[42, 40, 42, 44, 42, 41]⟩, .string ⟨#[91, 42, 124, 42, 93]⟩] 9) = wA := by rw [eA]; rfl
 have HEA : Hid _ := eA'; clear h eA eA' ex ej es HRA HNM eX
 go_enter Tryz.func23, Tryz.ntmps23
 go_wp2_with fail; rw [HEA.out]; refine hnx.mono ?_; rintro e w2 ⟨rfl, hk2, hs2, hR2⟩; obtain ⟨w3, n, cap, hcv, hout⟩ := FIN.out w2 ((Keep.of_below HBA.out).trans hk2) hR2; have HO : Hid _ := hout; have hcell : w2.cell? ⟨w.heap.size, j, none⟩ = some (.string s) := hk2.cell HCJ.out (.inr HH.out.lt); clear hk2 hs2 hR2 hnx FIN hout; go_wp2_with fail; go_ret; exact HO.out
def soupF (xs : List Int) : Nat → Nat → List Int × Nat
 | 0, i => ([], i)
 | n + 1, i => ((soupF xs n i).1 ++ numsU (tksU.getD ((rdI xs (soupF xs n i).2).toNat % 32) []), rdN xs (soupF xs n i).2)
theorem soupF_byte (xs : List Int) : ∀ n i, Byte (soupF xs n i).1
 | 0, i => byte_nil
 | n + 1, i => byte_app (soupF_byte xs n i) (byte_numsU _)
theorem soupF_len (xs : List Int) : ∀ n i, (soupF xs n i).1.length ≤ 5 * n
 | 0, i => by simp [soupF]
 | n + 1, i => by
   have := soupF_len xs n i; have := tksU_len ((rdI xs (soupF xs n i).2).toNat % 32); simp only [soupF, List.length_append, numsU, List.length_map]
   omega
set_option maxHeartbeats 2000000 in
theorem l4soup_any (R c i : Nat) (p : Option Addr) (xs : List Int) (w : World) (h : RdIn w R p c xs i) :
 Calls Tryz.prog 22 #[.pointer (some ⟨R, 0, none⟩)] w (OddOut w R p c xs (soupF xs ((rdI xs i).toNat % 14) (rdN xs i)).1 (soupF xs ((rdI xs i).toNat % 14) (rdN xs i)).2) := by
 have HH : Hid (RdIn w R p c xs i) := h; obtain ⟨x, ex, hx, hnx⟩ := nextN R c i p xs w h
 obtain ⟨j, ej⟩ : ∃ j, j = x % 14 := ⟨_, rfl⟩
 have hj : j < 14 := by omega
 have hmod : (x : Int).tmod 14 = (j : Int) := by rw [ej, Int.tmod_eq_emod_of_nonneg (by omega)]; rfl
 rw [ex, ← ej]
 obtain ⟨i1, ei⟩ : ∃ i1, i1 = rdN xs i := ⟨_, rfl⟩
 rw [← ei] at hnx ⊢
 have FIN : Hid (∀ W Z k, Keep R (R + 1) w W → RdIn W R p c xs (soupF xs k i1).2 → Z = strOfNums (soupF xs k i1).1 → k ≤ 14 → ∃ w3 n cap, (convert 9 22 (.string Z)).run Tryz.prog W = .ok (.slice (some ⟨W.heap.size, 0, none⟩) n cap) w3 ∧ OddOut w R p c xs (soupF xs k i1).1 (soupF xs k i1).2 (.returned (.slice (some ⟨W.heap.size, 0, none⟩) n cap)) w3) := fun W Z k h1 h2 h3 hk => by
  have hl := soupF_len xs k i1; obtain ⟨w3, cap, hcv, hb3, hot⟩ := conv_R W (soupF xs k i1).1 (soupF_byte xs k i1) (by omega) 9 Tryz.underlying9; rw [← h3] at hcv; exact ⟨w3, _, cap, hcv, _, _, cap, rfl, hot.mono h1.size, h1.trans (Keep.of_below hb3), h2.below hb3 h2.lt⟩
 clear h ex ej ei
 go_enter Tryz.func22, Tryz.ntmps22
 go_wp2_with fail; refine hnx.mono ?_; rintro e w2 ⟨rfl, hk2, hs2, hR2⟩; have HK2 : Hid (Keep R (R + 1) w w2) := hk2; have HR2 : Hid (RdIn w2 R p c xs i1) := hR2; clear hk2 hs2 hR2 hnx; go_wp2_with fail
 go_loopw [3, 5] (fun o v wr => ∃ (k : Nat) (Z : ByteArray), k ≤ j ∧ v = .int .i64 k ∧ o = .string Z ∧ Hid (Z = strOfNums (soupF xs k i1).1) ∧ Hid (Keep R (R + 1) w wr) ∧ Hid (RdIn wr R p c xs (soupF xs k i1).2)) (fun _ v _ => j - (intOf v).toNat)
 case atStart => exact ⟨0, _, Nat.zero_le _, rfl, rfl, rfl, HK2, HR2⟩
 case round =>
  obtain ⟨k, Z, hk, rfl, rfl, HZ, HK, HR⟩ := hrel
  have hZl : Z.size ≤ 70 := by rw [HZ.out, strOfNums_size]; have := soupF_len xs k i1; omega
  by_cases hlt : k < j
  ·have HT := l4token_any R c (soupF xs k i1).2 p xs wr HR.out
   have HNX : Hid (∀ s, s = bOf (tksU.getD ((rdI xs (soupF xs k i1).2).toNat % 32) []) → Z ++ s = strOfNums (soupF xs (k + 1) i1).1 ∧ s.size ≤ 5) := fun s hs => by
    refine ⟨?_, by rw [hs, bOf_size]; exact tksU_len _⟩; rw [HZ.out, hs, ← strOf_numsU, soupF]
    apply ba_ext
    rw [str_list]
    simp [ByteArray.toList_eq, ByteArray.data_append, strOfNums]
   have HNR : Hid (rdN xs (soupF xs k i1).2 = (soupF xs (k + 1) i1).2) := rfl
   unfold TokOutD at HT
   obtain ⟨s, es⟩ : ∃ s, s = bOf (tksU.getD ((rdI xs (soupF xs k i1).2).toNat % 32) []) := ⟨_, rfl⟩
   obtain ⟨h1, hsl⟩ := HNX.out s es; have HZ2 : Hid (Z ++ s = strOfNums (soupF xs (k + 1) i1).1) := h1; rw [← es, HNR.out] at HT; clear es HNX h1; go_wp2_with fail; refine HT.mono ?_; rintro e w3 ⟨rfl, hk3, hR3⟩; have HK3 : Hid (Keep R (R + 1) w w3) := HK.out.trans hk3; have HR3 : Hid (RdIn w3 R p c xs (soupF xs (k + 1) i1).2) := hR3; clear hk3 hR3 HT; go_wp2_with fail; go_roundw
   case rel => exact ⟨k + 1, _, by omega, by go_num, rfl, HZ2, HK3, HR3⟩
   case measure => simp [intOf]; omega
  ·obtain rfl : k = j := by omega
   obtain ⟨w3, n, cap, hcv, hout⟩ := FIN.out wr Z k HK.out HR.out HZ.out (by omega); have HO : Hid _ := hout; clear FIN hout; go_wp2_with fail; go_ret; exact HO.out
theorem one_newsT (w : World) (y : Int) : ∀ j u, ([y].map (Value.int .u8))[j]? = some u → (w.alloc (.cells #[.int .u8 y] 5)).cell? ((⟨w.heap.size, 0, none⟩ : Addr).add j) = some u := fun j u hu => by
 match j, hu with
 | 0, hu => simp at hu; rw [← hu]; simp [Addr.add, World.cell?_alloc_new]
 | j + 1, hu => simp at hu
theorem l4fillG_any (y : Int) (m : Nat) (hm : m ≤ 20000) (w : World) : Calls Tryz.prog 24 #[.int .u8 y, .int .i64 m] w fun e w' => ∃ p n c, e = .returned (.slice p n c) ∧ OwnS w' w.heap.size p n c (List.replicate m y) ∧ Below w.heap.size w w' := by
 go_enter Tryz.func24, Tryz.ntmps24
 go_wp2_with fail
 go_loopw [5, 6] (fun s i wr => ∃ (j n c : Nat) (p : Option Addr), j ≤ m ∧ n = j ∧ i = .int .i64 j ∧ s = .slice p n c ∧ Hid (OwnS wr w.heap.size p n c (List.replicate j y)) ∧ Hid (Below w.heap.size w wr)) (fun _ i _ => m - (intOf i).toNat)
 case atStart => exact ⟨0, 0, 0, none, Nat.zero_le _, rfl, rfl, rfl, OwnS.nil _ _, Below.refl _ _⟩
 case round =>
  obtain ⟨j, n, c, p, hj, rfl, rfl, rfl, HO, HB⟩ := hrel; have hBs : w.heap.size ≤ wr.heap.size := HB.out.size
  by_cases hlt : n < m
  ·go_wp2_with (at_builtin; refine app_bytes _ rfl _ _ rfl w.heap.size p n c _ [y] 1 rfl rfl (HO.out.alloc _) ⟨wr.heap.size, 0, none⟩ 1 rfl (one_newsT wr y) (by omega) (by omega) (by simp; omega) ?_; intro g4 n4 cap4 w4 hown4 hb4 hn4)
   have HO4 : Hid (OwnS w4 w.heap.size (some ⟨g4, 0, none⟩) n4 cap4 (List.replicate (n + 1) y)) := by rw [List.replicate_succ']; exact hown4
   have HB4 : Hid (Below w.heap.size w w4) := (HB.out.alloc hBs _).trans hb4; have hn4' : n4 = n + 1 := hn4.out; clear hown4 hb4 hn4; subst hn4'; go_roundw
   case rel => exact ⟨n + 1, n + 1, cap4, _, by omega, rfl, by go_num, rfl, HO4, HB4⟩
   case measure => simp [intOf]; omega
  ·obtain rfl : n = m := by omega
   go_wp2_with fail; go_ret; exact ⟨_, _, _, rfl, HO.out, HB.out⟩
def NameOutR (w : World) (R : Nat) (p : Option Addr) (c : Nat) (xs : List Int) (i : Nat) (e : Ending) (w' : World) : Prop :=
 ∃ g n cap, e = .returned (.slice (some ⟨g, 0, none⟩) n cap) ∧ n = (numsU (nameAt (rdI xs i).toNat)).length ∧ Keep R (R + 1) w w' ∧ RdIn w' R p c xs (rdN xs i) ∧ OwnR w' w.heap.size (some ⟨g, 0, none⟩) n cap (numsU (nameAt (rdI xs i).toNat))
theorem nmR_len (j : Nat) : (numsU (nmU.getD j [])).length ≤ 9000000000000000000 := by
 rcases Nat.lt_or_ge j 28 with h | h
 ·have : (List.range 28).all (fun i => decide ((numsU (nmU.getD i [])).length ≤ 9000000000000000000)) = true := by decide +kernel
  exact of_decide_eq_true (List.all_eq_true.1 this j (by simpa using h))
 ·rw [List.getD, List.getElem?_eq_none (show nmU.length ≤ j from h)]; simp [numsU]
set_option maxHeartbeats 2000000 in
theorem l4nameR_any (R c i : Nat) (p : Option Addr) (xs : List Int) (w : World) (h : RdIn w R p c xs i) :
 Calls Tryz.prog 42 #[.pointer (some ⟨R, 0, none⟩)] w (NameOutR w R p c xs i) := by
 have HH : Hid (RdIn w R p c xs i) := h; have hr := rdI_rng h.bytes i
 obtain ⟨wA, eA⟩ : ∃ wA, wA = w.alloc (.cells nmV.toArray 9) := ⟨_, rfl⟩
 have HNM : Hid (∀ j, j < 28 → wA.cell? ⟨w.heap.size, j, none⟩ = some (.string (bOf (nmU.getD j [])))) := fun j hj => by rw [eA]; exact nm_made w _ j hj
 have HBA : Hid (Below w.heap.size w wA) := by rw [eA]; exact (Below.refl _ _).alloc (Nat.le_refl _) _
 have HSA : Hid (w.heap.size < wA.heap.size) := by show _ < _; rw [eA]; simp
 clear h
 go_enter Tryz.func42, Tryz.ntmps42
 go_wp2_with fail
 have eA' : wA = w.alloc (Obj.cells #[.string ⟨#[97]⟩, .string ⟨#[102, 111, 111]⟩, .string ⟨#[98, 49]⟩, .string ⟨#[91, 93]⟩, .string ⟨#[45]⟩, .string ⟨#[43]⟩, .string ⟨#[61]⟩, .string ⟨#[58, 45]⟩, .string ⟨#[44]⟩, .string ⟨#[105, 115]⟩, .string ⟨#[]⟩, .string ⟨#[88, 32, 121]⟩, .string ⟨#[92, 43]⟩, .string ⟨#[123, 125]⟩, .string ⟨#[33]⟩, .string ⟨#[59]⟩, .string ⟨#[46]⟩, .string ⟨#[47, 42]⟩, .string ⟨#[105, 116, 39, 115]⟩, .string ⟨#[10, 128]⟩, .string ⟨#[120, 111, 114]⟩, .string ⟨#[109, 111, 100]⟩, .string ⟨#[124]⟩, .string ⟨#[42]⟩, .string ⟨#[100, 121, 110, 97, 109, 105, 99]⟩, .string ⟨#[64]⟩, .string ⟨#[64, 64]⟩, .string ⟨#[104, 101, 108, 108, 111, 95, 87, 111, 114, 108, 100]⟩] 9) := by rw [eA]; rfl
 rw [← eA']; clear eA eA'; have HRA := HH.out.below HBA.out HH.out.lt; refine (next_any R c i p xs wA HRA).mono ?_; rintro e w2 ⟨rfl, hk2, hs2, hR2⟩; have HR2 : Hid (RdIn w2 R p c xs (rdN xs i)) := hR2; have HK2 : Hid (Keep R (R + 1) w w2) := (Keep.of_below HBA.out).trans hk2
 obtain ⟨x, ex⟩ : ∃ x : Nat, rdI xs i = x := ⟨(rdI xs i).toNat, by omega⟩
 rw [ex] at hr ⊢
 have HXE : Hid ((rdI xs i).toNat = x) := by show _ = _; rw [ex]; rfl
 have FIN : Hid (∀ j s, nameAt x = nmU.getD j [] → j < 28 → s = bOf (nmU.getD j []) → w2.cell? ⟨w.heap.size, j, none⟩ = some (.string s) ∧ ∃ w3 n cap, (convert 9 22 (.string s)).run Tryz.prog w2 = .ok (.slice (some ⟨w2.heap.size, 0, none⟩) n cap) w3 ∧ NameOutR w R p c xs i (.returned (.slice (some ⟨w2.heap.size, 0, none⟩) n cap)) w3) := by
  intro j s hj hj28 rfl
  refine ⟨hk2.cell (HNM.out j hj28) (.inr HH.out.lt), ?_⟩; obtain ⟨w3, cap, hcv, hb3, hot⟩ := conv_R w2 (numsU (nmU.getD j [])) (byte_numsU _) (nmR_len j) 9 Tryz.underlying9; rw [strOf_numsU] at hcv; have hsz : w.heap.size ≤ w2.heap.size := HK2.out.size; exact ⟨w3, _, cap, hcv, w2.heap.size, _, cap, rfl, by rw [HXE.out, hj], Keep.trans HK2.out ⟨hb3.os, hb3.tape, hb3.output, hb3.size, fun k hk _ => hb3.block k hk⟩, HR2.out.below hb3 HR2.out.lt, by rw [HXE.out, hj]; exact hot.mono hsz⟩
 clear hR2 hk2 HNM ex HRA hs2
 by_cases hlt : x < 180
 ·obtain ⟨j, ej⟩ : ∃ j, j = x % 6 := ⟨_, rfl⟩
  have hj6 : j < 6 := by omega
  obtain ⟨s, es⟩ : ∃ s, s = bOf (nmU.getD j []) := ⟨_, rfl⟩
  obtain ⟨hcell, w3, n, cap, hcv, hout⟩ := FIN.out j s (by unfold nameAt; rw [if_pos hlt, ej]) (by omega) es; have HO : Hid _ := hout
  have hmod : (x : Int).tmod 6 = (j : Int) := by rw [ej, Int.tmod_eq_emod_of_nonneg (by omega)]; rfl
  clear FIN es ej hout; go_wp2_with fail; go_ret; exact HO.out
 ·obtain ⟨j, ej⟩ : ∃ j, j = x % 28 := ⟨_, rfl⟩
  have hj6 : j < 28 := by omega
  obtain ⟨s, es⟩ : ∃ s, s = bOf (nmU.getD j []) := ⟨_, rfl⟩
  obtain ⟨hcell, w3, n, cap, hcv, hout⟩ := FIN.out j s (by unfold nameAt; rw [if_neg hlt, ej]) (by omega) es; have HO : Hid _ := hout
  have hmod : (x : Int).tmod 28 = (j : Int) := by rw [ej, Int.tmod_eq_emod_of_nonneg (by omega)]; rfl
  clear FIN es ej hout; go_wp2_with fail; go_ret; exact HO.out
def OpsG (T : List Cel) : Prop := ∀ j, j < T.length → Byte (T.getD j Cel.none).2.2 ∧ (T.getD j Cel.none).2.2.length ≤ 100
def NmG (N : List (List Int)) : Prop := ∀ i, i < N.length → Byte (N.getD i []) ∧ (N.getD i []).length ≤ 1048576
def GoodR (rec : Tr → Int → List Int) : Prop := ∀ (t : Tr) (p : Int), t.fo.ok → (itC t).length ≤ 2000 → Byte (rec t p) ∧ (rec t p).length ≤ 1100000 * (itC t).length
theorem par_good {s : List Int} (h : Byte s) : Byte (parW s) ∧ (parW s).length = s.length + 2 := ⟨byte_cons ⟨by decide, by decide⟩ (byte_app h (byte_one (by decide) (by decide))), by simp [parW]⟩
theorem operand_good {rec : Tr → Int → List Int} (hg : GoodR rec) (T : List Cel) (t : Tr) (p : Int) (left : Bool) (op : Cel) (ht : t.fo.ok) (hl : (itC t).length ≤ 2000) : Byte (operandW rec T t p left op) ∧ (operandW rec T t p left op).length ≤ 1100000 * (itC t).length + 2 := by
 obtain ⟨h1, h2⟩ := hg t p ht hl; have h3 := par_good h1
 unfold operandW
 split
 ·exact ⟨h3.1, by omega⟩
 ·split
  ·exact ⟨h3.1, by omega⟩
  ·exact ⟨h1, by omega⟩
theorem gap_good (a b : List Int) : Byte (gapW a b) ∧ (gapW a b).length ≤ 1 := by
 unfold gapW
 split
 ·exact ⟨byte_nil, by simp⟩
 ·split
  ·exact ⟨byte_one (by decide) (by decide), by simp⟩
  ·exact ⟨byte_nil, by simp⟩
theorem mid_good (op : Cel) (a b : List Int) : Byte (midGap op a b) ∧ (midGap op a b).length ≤ 1 := by
 unfold midGap
 split
 ·exact ⟨byte_one (by decide) (by decide), by simp⟩
 ·exact gap_good a b
theorem pre_good (q : Bool) (op : Cel) (a : List Int) : Byte (preGap q op a) ∧ (preGap q op a).length ≤ 1 := by
 unfold preGap
 split
 ·exact ⟨byte_one (by decide) (by decide), by simp⟩
 ·split
  ·exact ⟨byte_one (by decide) (by decide), by simp⟩
  ·exact gap_good _ _
theorem name_good (q : Bool) {op : Cel} (h : Byte op.2.2 ∧ op.2.2.length ≤ 100) : Byte (nameW q op) ∧ (nameW q op).length ≤ 601 := by
 unfold nameW
 split
 ·exact ⟨byte_one (by decide) (by decide), by simp⟩
 ·exact ⟨atomW_byte q h.1, atomW_len q h.2⟩
theorem head_good (q : Bool) {xs : List Int} (h : Byte xs) (hl : xs.length ≤ 100) : Byte (headW q xs) ∧ (headW q xs).length ≤ 603 := by
 have h1 := atomW_byte q h; have h2 := atomW_len q hl
 unfold headW
 split
 ·exact ⟨byte_cons ⟨by decide, by decide⟩ (byte_app h1 (byte_one (by decide) (by decide))), by simp; omega⟩
 ·exact ⟨h1, by omega⟩
theorem kid_at {t : Tr} {i : Nat} (h : i < t.2.count) : kidW t i ∈ trs t.2 := by
 unfold kidW
 rw [← trs_len] at h
 simp [List.getD, h]
theorem trs_okW : ∀ {F : Fo}, F.ok → ∀ t ∈ trs F, t.fo.ok
 | .nil, _, t, ht => by cases ht
 | .node c k r, h, t, ht => by
   rcases List.mem_cons.1 ht with rfl | ht
   ·exact ⟨h.1, h.2.1, h.2.2.1, h.2.2.2.1, h.2.2.2.2.1, trivial⟩
   ·exact trs_okW h.2.2.2.2.2 t ht
theorem trs_le : ∀ (F : Fo) (t : Tr), t ∈ trs F → (itC t).length ≤ F.cells.length
 | .nil, t, h => by cases h
 | .node c k r, t, h => by
   rcases List.mem_cons.1 h with rfl | h
   ·simp [itC, Fo.cells]
   ·have := trs_le r t h; simp only [Fo.cells, List.length_cons, List.length_append]; omega
theorem two_kids {t : Tr} (h : t.2.count = 2) : (itC (kidW t 0)).length + (itC (kidW t 1)).length = t.2.cells.length := by
 obtain ⟨c1, k1, c2, k2, e⟩ := two_of h; have := trs_sum t.2; rw [e] at this ⊢; simp only [trs, List.map_cons, List.map_nil, List.sum_cons, List.sum_nil] at this; simp only [kidW, e, trs, List.getD_cons_zero, List.getD_cons_succ]
 omega
theorem text_byte {c : Cel} {k : Fo} (h : (Fo.node c k .nil).ok) : Byte c.2.2 ∧ c.2.2.length ≤ 100 := ⟨h.2.1, by have := h.1; simp only [cellB, decide_eq_true_eq] at this; omega⟩
theorem split_in : ∀ (N : Nat) (c : Cel) (k : Fo), k.cells.length ≤ N → (Fo.node c k .nil).ok → (∀ x ∈ (splitF c k).1, (Tr.fo x).ok) ∧ (Tr.fo (splitF c k).2).ok
 | N, c, k, hN, hok => by
   by_cases hd : c = dot
   ·have h3 : c.1 = 3 := by rw [hd]; rfl
    have hc : k.count = 2 := by have := hok.2.2.1 h3; rw [hd] at this; have e : (dot.2.1 : Int) = 2 := rfl; omega
    obtain ⟨c1, k1, c2, k2, rfl⟩ := two_of hc; subst hd; rw [splitF_dot]; have hk := hok.2.2.2.2.1
    have h1 : (Fo.node c1 k1 .nil).ok := ⟨hk.1, hk.2.1, hk.2.2.1, hk.2.2.2.1, hk.2.2.2.2.1, trivial⟩
    have h2 : (Fo.node c2 k2 .nil).ok := hk.2.2.2.2.2
    cases N with
    | zero => simp [Fo.cells] at hN
    | succ N =>
      have ih := split_in N c2 k2 (by simp [Fo.cells] at hN; omega) h2; refine ⟨fun x hx => ?_, ih.2⟩
      rcases List.mem_cons.1 hx with rfl | hx
      ·exact h1
      ·exact ih.1 x hx
   ·rw [splitF_other _ _ hd]
    exact ⟨(fun x hx => by cases hx), hok⟩
theorem split_sizeW : ∀ (N : Nat) (c : Cel) (k : Fo), k.cells.length ≤ N → (Fo.node c k .nil).ok → (((splitF c k).1.map fun x => (itC x).length)).sum + (itC (splitF c k).2).length + (splitF c k).1.length ≤ k.cells.length + 1 ∧ (c = dot → 1 ≤ (splitF c k).1.length)
 | N, c, k, hN, hok => by
   by_cases hd : c = dot
   ·have h3 : c.1 = 3 := by rw [hd]; rfl
    have hc : k.count = 2 := by have := hok.2.2.1 h3; rw [hd] at this; have e : (dot.2.1 : Int) = 2 := rfl; omega
    obtain ⟨c1, k1, c2, k2, rfl⟩ := two_of hc; subst hd; rw [splitF_dot]; have h2 : (Fo.node c2 k2 .nil).ok := hok.2.2.2.2.1.2.2.2.2.2
    cases N with
    | zero => simp [Fo.cells] at hN
    | succ N =>
      have ih := split_sizeW N c2 k2 (by simp [Fo.cells] at hN; omega) h2; refine ⟨?_, fun _ => by simp⟩; have ih1 := ih.1; simp only [List.map_cons, List.sum_cons, List.length_cons, Fo.cells, List.length_append, List.append_nil, itC] at ih1 ⊢
      omega
   ·rw [splitF_other _ _ hd]
    exact ⟨by simp [itC], fun h => absurd h hd⟩
theorem mem_sum : ∀ (L : List Nat) (x : Nat), x ∈ L → x ≤ L.sum
 | [], x, h => by cases h
 | a :: r, x, h => by
   rcases List.mem_cons.1 h with rfl | h
   ·simp
   ·have := mem_sum r x h; simp only [List.sum_cons]; omega
set_option maxHeartbeats 800000 in
theorem text_good {T : List Cel} {N : List (List Int)} (q : Bool) (hT : OpsG T) (hN : NmG N) : ∀ f, GoodR (textF T N q f)
 | 0 => fun t p _ _ => ⟨byte_nil, by simp [textF]⟩
 | f + 1 => fun t p ht hl => by
   have ih := text_good q hT hN f
   have hpos : 1 ≤ (itC t).length := by simp [itC]
   have hsz : (itC t).length = t.2.cells.length + 1 := by simp [itC]
   obtain ⟨hb, hbl⟩ := text_byte ht
   unfold textF
   split
   ·unfold varW
    split
    ·rename_i h
     have := hN t.1.2.1.toNat (by
      rcases Int.lt_or_le t.1.2.1 0 with h0 | h0
      ·have e : t.1.2.1.toNat = 0 := by omega
       rw [e]
       rcases Nat.eq_zero_or_pos N.length with h9 | h9
       ·have h8 := h.2
        have : N = [] := List.eq_nil_of_length_eq_zero h9; rw [this] at h8
        simp at h8
       ·exact h9
      ·have := h.1; omega)
     exact ⟨this.1, by omega⟩
    ·have := dec_len 20 t.1.2.1
     exact ⟨byte_cons ⟨by decide, by decide⟩ (dec_byte _ _), by simp only [List.length_cons, decW]; omega⟩
   ·split
    ·have := dec_len 20 t.1.2.1
     exact ⟨dec_byte _ _, by simp only [decW]; omega⟩
    ·split
     ·exact ⟨atomW_byte q hb, by have := atomW_len q hbl; omega⟩
     ·split
      ·rename_i hdot
       have hs := split_sizeW (t.2.cells.length) t.1 t.2 (Nat.le_refl _) ht; have hone := hs.2 hdot; obtain ⟨o1, o2⟩ := split_in (t.2.cells.length) t.1 t.2 (Nat.le_refl _) ht; have hsum : (((splitF t.1 t.2).1.map fun x => (itC x).length)).sum + (itC (splitF t.1 t.2).2).length + (splitF t.1 t.2).1.length ≤ t.2.cells.length + 1 := hs.1
       have hle : ∀ x ∈ (splitF t.1 t.2).1, (itC x).length ≤ 2000 := fun x hx => by
        have h9 : (itC x).length ≤ (((splitF t.1 t.2).1.map fun x => (itC x).length)).sum := by
         have : (itC x).length ∈ (splitF t.1 t.2).1.map fun x => (itC x).length := List.mem_map.2 ⟨x, hx, rfl⟩
         exact mem_sum _ _ this
        omega
       have g1 : ∀ x ∈ (splitF t.1 t.2).1, Byte (textF T N q f x 999) ∧ (textF T N q f x 999).length ≤ 1100000 * (itC x).length := fun x hx => ih x 999 (o1 x hx) (hle x hx)
       have g2 := ih (splitF t.1 t.2).2 999 o2 (by omega); have j1 := join_len ((splitF t.1 t.2).1.map (textF T N q f · 999)); have j2 := sum_good (textF T N q f · 999) (splitF t.1 t.2).1 (fun x hx => (g1 x hx).2); have j3 := len_sum (splitF t.1 t.2).1
       have j4 : Byte (joinW ((splitF t.1 t.2).1.map (textF T N q f · 999))) := join_byte _ (fun a ha => by
        obtain ⟨x, hx, rfl⟩ := List.mem_map.1 ha
        exact (g1 x hx).1)
       simp only [List.length_map] at j1
       unfold listW
       split
       ·exact ⟨byte_cons ⟨by decide, by decide⟩ (byte_app j4 (byte_app byte_nil (byte_one (by decide) (by decide)))), by simp only [List.length_cons, List.length_append, List.length_nil]; omega⟩
       ·exact ⟨byte_cons ⟨by decide, by decide⟩ (byte_app j4 (byte_app (byte_cons ⟨by decide, by decide⟩ g2.1) (byte_one (by decide) (by decide)))), by simp only [List.length_cons, List.length_append, List.length_nil]; omega⟩
      ·rename_i hk0 hk1 hk2 hnd
       have h3 : t.1.1 = 3 := by have := ht.1; simp only [cellB, decide_eq_true_eq] at this; omega
       have hcnt := ht.2.2.1 h3
       split
       ·rename_i hcu
        have h1 : t.2.count = 1 := by rw [hcu] at hcnt; have e : (curly.2.1 : Int) = 1 := rfl; omega
        have hk := kid_at (t := t) (i := 0) (by omega); have g := ih (kidW t 0) 1200 (trs_okW ht.2.2.2.2.1 _ hk) (by have := trs_le _ _ hk; omega); have := trs_le _ _ hk; exact ⟨byte_cons ⟨by decide, by decide⟩ (byte_app g.1 (byte_one (by decide) (by decide))), by simp only [List.length_cons, List.length_append, List.length_nil]; omega⟩
       ·have hg1 : Byte (plainW (textF T N q f) q t) ∧ (plainW (textF T N q f) q t).length ≤ 1100000 * t.2.cells.length + 3000 := by
         have g1 : ∀ x ∈ trs t.2, Byte (textF T N q f x 999) ∧ (textF T N q f x 999).length ≤ 1100000 * (itC x).length := fun x hx => ih x 999 (trs_okW ht.2.2.2.2.1 _ hx) (by have := trs_le _ _ hx; omega)
         have j1 := join_len ((trs t.2).map (textF T N q f · 999)); have j2 := sum_good (textF T N q f · 999) (trs t.2) (fun x hx => (g1 x hx).2); have j3 := len_sum (trs t.2)
         have j4 : Byte (joinW ((trs t.2).map (textF T N q f · 999))) := join_byte _ (fun a ha => by
          obtain ⟨x, hx, rfl⟩ := List.mem_map.1 ha
          exact (g1 x hx).1)
         have j5 := trs_sum t.2; have hh := head_good q hb hbl; simp only [List.length_map] at j1
         unfold plainW
         exact ⟨byte_app (byte_app (byte_app hh.1 (byte_one (by decide) (by decide))) j4) (byte_one (by decide) (by decide)), by simp only [List.length_cons, List.length_append, List.length_nil]; omega⟩
        unfold compW
        split
        ·exact ⟨hg1.1, by omega⟩
        ·rename_i htop
         obtain ⟨_, _, _, j, hj, hje, hkind⟩ := top_facts (T := T) (c := t.1) (by omega); rw [hje]
         have hop : Byte (opW T (j : Int)).2.2 ∧ (opW T (j : Int)).2.2.length ≤ 100 := by
          have e : opW T (j : Int) = T.getD j Cel.none := by simp [opW]
          rw [e]; exact hT j hj
         obtain ⟨op, eop⟩ : ∃ op, op = opW T (j : Int) := ⟨_, rfl⟩
         rw [← eop] at hop hkind ⊢; have hnm := name_good q hop
         have hoper : Byte (operW (textF T N q f) T q t op) ∧ (operW (textF T N q f) T q t op).length ≤ 1100000 * t.2.cells.length + 1300 := by
          have kid : ∀ i, i < t.2.count → ∀ p l, Byte (operandW (textF T N q f) T (kidW t i) p l op) ∧ (operandW (textF T N q f) T (kidW t i) p l op).length ≤ 1100000 * (itC (kidW t i)).length + 2 := fun i hi p l => operand_good ih T _ p l op (trs_okW ht.2.2.2.2.1 _ (kid_at hi)) (by have := trs_le _ _ (kid_at hi); omega)
          have hc1 : 1 ≤ t.2.count := by
           have := ht.1; rw [h3] at this; have := cellB_comp this
           omega
          unfold operW
          split
          ·have g := kid 0 (by omega) (rightP op) false
           have pg := pre_good q op (operandW (textF T N q f) T (kidW t 0) (rightP op) false op); have := trs_le _ _ (kid_at (t := t) (i := 0) (by omega)); exact ⟨byte_app (byte_app hnm.1 pg.1) g.1, by simp only [List.length_append]; omega⟩
          ·rename_i hpre
           have g := kid 0 (by omega) (leftP op) true; have mg := mid_good op (operandW (textF T N q f) T (kidW t 0) (leftP op) true op) (nameW q op)
           split
           ·rename_i hinf
            have h2 : t.2.count = 2 := by
             rcases hkind with ⟨hk, _, _⟩ | ⟨_, _, hk | ⟨_, hk⟩⟩
             ·omega
             ·exact absurd hk hpre
             ·rw [hinf] at hk; cases hk
            have g' := kid 1 (by omega) (rightP op) false; have mg' := mid_good op (nameW q op) (operandW (textF T N q f) T (kidW t 1) (rightP op) false op); have := two_kids h2; exact ⟨byte_app (byte_app (byte_app g.1 mg.1) hnm.1) (byte_app mg'.1 g'.1), by simp only [List.length_append]; omega⟩
           ·have := trs_le _ _ (kid_at (t := t) (i := 0) (by omega))
            exact ⟨byte_app (byte_app g.1 mg.1) hnm.1, by simp only [List.length_append]; omega⟩
         have hp := par_good hoper.1
         split
         ·exact ⟨hp.1, by omega⟩
         ·exact ⟨hoper.1, by omega⟩
end Go.Proofs.YtfgmenkoeflhaaaGreatDoor
