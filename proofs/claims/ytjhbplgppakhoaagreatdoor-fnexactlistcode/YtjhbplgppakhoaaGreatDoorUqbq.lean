/- Texts of LcF, LcG. Own work of the verifier. -/
import Derived.Test.YtjhbplgppakhoaaGreatDoorUqbp
namespace Go.Proofs.YtjhbplgppakhoaaGreatDoor
open Go Go.RowKit
set_option linter.unusedVariables false
set_option linter.unusedSimpArgs false
theorem os_setCell' (w : World) (a : Addr) (v : Value) : (w.setCell a v).os = w.os := rfl
theorem tape_setCell' (w : World) (a : Addr) (v : Value) : (w.setCell a v).tape = w.tape := rfl
theorem output_setCell' (w : World) (a : Addr) (v : Value) : (w.setCell a v).output = w.output := rfl
theorem infoIv : (Tryz.prog.info? 93).map (fun i => (i.zero, i.size, i.bytes)) = some (some (.agg #[.int .i64 0, .int .i64 0, .int .i64 0, .int .i64 0, .int .i64 0, .slice none 0 0, .slice none 0 0, .slice none 0 0]), 8, 112) := by kernel_rfl
structure IvD where
  q : Option Addr
  s : Option Addr
  u : Option Addr
  lo : Nat
  hi : Nat
def IvRow (W : World) (T n k : Nat) (xs : List Iv) : Prop := ∃ (row : List Value) (D : Nat → IvD), W.ownsRow T 93 8 (.slice (some ⟨T, 0, none⟩) n n) n row ∧
  (∀ i, i < k → (∀ j, j < 8 → row[i * 8 + j]? = (ivV (xs.getD i Iv.zero) (D i).q (xs.getD i Iv.zero).c.2.2.length (D i).s (xs.getD i Iv.zero).K.length (D i).u (xs.getD i Iv.zero).L.length)[j]?) ∧ IvOwn W (D i).lo (D i).hi (D i).q (D i).s (D i).u (xs.getD i Iv.zero) ∧ T < (D i).lo ∧ (D i).hi ≤ W.heap.size) ∧
  (∀ i j, i < j → j < k → (D i).hi ≤ (D j).lo) ∧
  (∀ i, k ≤ i → i < n → ∀ j, j < 8 → row[i * 8 + j]? = [.int .i64 0, .int .i64 0, .int .i64 0, .int .i64 0, .int .i64 0, .slice none 0 0, .slice none 0 0, .slice none 0 0][j]?)
theorem IvRow.lt {W : World} {T n k : Nat} {xs : List Iv} (h : IvRow W T n k xs) : T < W.heap.size := by
  obtain ⟨row, D, h1, _⟩ := h
  exact (h1.lt T rfl).2
theorem IvRow.on {W W' : World} {T n k : Nat} {xs : List Iv} (h : IvRow W T n k xs) (hb : Below W.heap.size W W') : IvRow W' T n k xs := by
  obtain ⟨row, D, h1, h2, h3, h4⟩ := h
  refine ⟨row, D, row_below h1 hb, fun i hi => ?_, h3, h4⟩
  obtain ⟨a, b, c, d⟩ := h2 i hi
  exact ⟨a, b.on hb, c, Nat.le_trans d hb.size⟩
theorem IvRow.keep {W W' : World} {T n k B U : Nat} {xs : List Iv} (h : IvRow W T n k xs) (hk : Keep B U W W') (ho : W.heap.size ≤ B ∨ U ≤ T) : IvRow W' T n k xs := by
  have hT := h.lt
  obtain ⟨row, D, h1, h2, h3, h4⟩ := h
  refine ⟨row, D, ⟨h1.1, ?_⟩, fun i hi => ?_, h3, h4⟩
  · rcases h1.2 with h' | ⟨g, cap, cur, hv, hB, hg, r⟩
    · exact .inl h'
    · have e : g = T := by simp only [Value.slice.injEq, Option.some.injEq, Addr.mk.injEq] at hv; exact hv.1.1.symm
      subst e
      exact .inr ⟨g, cap, cur, hv, hB, (hk.block g hT (by omega)).trans hg, r⟩
  · obtain ⟨a, b, c, d⟩ := h2 i hi
    exact ⟨a, b.keep hk (by omega), c, Nat.le_trans d hk.size⟩
theorem IvRow.cell {W : World} {T n k : Nat} {xs : List Iv} (h : IvRow W T n k xs) (hk : k < n) (j : Nat) (hj : j < 8) : W.cell? ⟨T, k * 8 + j, none⟩ = [.int .i64 0, .int .i64 0, .int .i64 0, .int .i64 0, .int .i64 0, .slice none 0 0, .slice none 0 0, .slice none 0 0][j]? := by
  obtain ⟨row, D, h1, _, _, h4⟩ := h
  exact (h1.cellAt _ (by omega)).trans (h4 k (Nat.le_refl _) hk j hj)
theorem IvRow.frozen {W : World} {T n k : Nat} {xs : List Iv} (h : IvRow W T n k xs) (j : Nat) : W.frozen? ⟨T, j, none⟩ = false := by
  obtain ⟨row, D, h1, _⟩ := h
  exact h1.frozenAt j
theorem IvRow.lies {W : World} {T n : Nat} {xs : List Iv} (h : IvRow W T n n xs) (hn : n = xs.length) : IvIn W (some ⟨T, 0, none⟩) xs := fun _ => by
  obtain ⟨row, D, h1, h2, _⟩ := h
  refine ⟨T, 0, rfl, fun i hi => ?_⟩
  obtain ⟨a, b, c, d⟩ := h2 i (by omega)
  exact ⟨(D i).q, _, (D i).s, _, (D i).u, _, fun j hj => by rw [Nat.zero_add]; exact (h1.cellAt _ (by omega)).trans (a j hj), b.ins.1, b.ins.2.1, b.ins.2.2⟩
set_option maxHeartbeats 4000000 in
theorem IvRow.next {W w0 : World} {T n k : Nat} {xs : List Iv} (h0 : IvRow w0 T n k xs) (hb : Below w0.heap.size w0 W) (hk : k < n) (d : IvD) (h0s : w0.heap.size ≤ d.lo) (u0 u1 u2 u3 u4 u5 u6 u7 : Value) (hus : [u0, u1, u2, u3, u4, u5, u6, u7] = ivV (xs.getD k Iv.zero) d.q (xs.getD k Iv.zero).c.2.2.length d.s (xs.getD k Iv.zero).K.length d.u (xs.getD k Iv.zero).L.length) (hown : IvOwn W d.lo d.hi d.q d.s d.u (xs.getD k Iv.zero)) (hhi : d.hi ≤ W.heap.size) :
    IvRow ((((((((W.setCell ⟨T, k * 8, none⟩ u0).setCell ⟨T, k * 8 + 1, none⟩ u1).setCell ⟨T, k * 8 + 2, none⟩ u2).setCell ⟨T, k * 8 + 3, none⟩ u3).setCell ⟨T, k * 8 + 4, none⟩ u4).setCell ⟨T, k * 8 + 5, none⟩ u5).setCell ⟨T, k * 8 + 6, none⟩ u6).setCell ⟨T, k * 8 + 7, none⟩ u7) T n (k + 1) xs := by
  have hlo : T < d.lo := Nat.lt_of_lt_of_le h0.lt h0s
  obtain ⟨row, D, h1, h2, h3, h4⟩ := h0
  have h1 := row_below h1 hb
  have hl : row.length = n * 8 := h1.1
  have hset : ∀ j, j ≠ T → ((((((((W.setCell ⟨T, k * 8, none⟩ u0).setCell ⟨T, k * 8 + 1, none⟩ u1).setCell ⟨T, k * 8 + 2, none⟩ u2).setCell ⟨T, k * 8 + 3, none⟩ u3).setCell ⟨T, k * 8 + 4, none⟩ u4).setCell ⟨T, k * 8 + 5, none⟩ u5).setCell ⟨T, k * 8 + 6, none⟩ u6).setCell ⟨T, k * 8 + 7, none⟩ u7).heap[j]? = W.heap[j]? := fun j hj => by
    rw [Below.heap_setCell _ _ _ _ (show j ≠ T by omega), Below.heap_setCell _ _ _ _ (show j ≠ T by omega), Below.heap_setCell _ _ _ _ (show j ≠ T by omega), Below.heap_setCell _ _ _ _ (show j ≠ T by omega), Below.heap_setCell _ _ _ _ (show j ≠ T by omega), Below.heap_setCell _ _ _ _ (show j ≠ T by omega), Below.heap_setCell _ _ _ _ (show j ≠ T by omega), Below.heap_setCell _ _ _ _ (show j ≠ T by omega)]
  have hsz : ((((((((W.setCell ⟨T, k * 8, none⟩ u0).setCell ⟨T, k * 8 + 1, none⟩ u1).setCell ⟨T, k * 8 + 2, none⟩ u2).setCell ⟨T, k * 8 + 3, none⟩ u3).setCell ⟨T, k * 8 + 4, none⟩ u4).setCell ⟨T, k * 8 + 5, none⟩ u5).setCell ⟨T, k * 8 + 6, none⟩ u6).setCell ⟨T, k * 8 + 7, none⟩ u7).heap.size = W.heap.size := by simp
  have hkp : Keep T (T + 1) W ((((((((W.setCell ⟨T, k * 8, none⟩ u0).setCell ⟨T, k * 8 + 1, none⟩ u1).setCell ⟨T, k * 8 + 2, none⟩ u2).setCell ⟨T, k * 8 + 3, none⟩ u3).setCell ⟨T, k * 8 + 4, none⟩ u4).setCell ⟨T, k * 8 + 5, none⟩ u5).setCell ⟨T, k * 8 + 6, none⟩ u6).setCell ⟨T, k * 8 + 7, none⟩ u7) := ⟨by simp only [os_setCell'], by simp only [tape_setCell'], by simp only [output_setCell'], by rw [hsz]; exact Nat.le_refl _, fun j _ hj => hset j (by omega)⟩
  have keep : ∀ i j, j < 8 → i ≠ k → ((((((((row.set (k * 8) u0).set (k * 8 + 1) u1).set (k * 8 + 2) u2).set (k * 8 + 3) u3).set (k * 8 + 4) u4).set (k * 8 + 5) u5).set (k * 8 + 6) u6).set (k * 8 + 7) u7)[i * 8 + j]? = row[i * 8 + j]? := fun i j hj hi => by
    rw [List.getElem?_set_ne (by omega), List.getElem?_set_ne (by omega), List.getElem?_set_ne (by omega), List.getElem?_set_ne (by omega), List.getElem?_set_ne (by omega), List.getElem?_set_ne (by omega), List.getElem?_set_ne (by omega), List.getElem?_set_ne (by omega)]
  have same : ∀ j, j < 8 → ((((((((row.set (k * 8) u0).set (k * 8 + 1) u1).set (k * 8 + 2) u2).set (k * 8 + 3) u3).set (k * 8 + 4) u4).set (k * 8 + 5) u5).set (k * 8 + 6) u6).set (k * 8 + 7) u7)[k * 8 + j]? = [u0, u1, u2, u3, u4, u5, u6, u7][j]? := fun j hj => by
    match j, hj with
    | 0, _ => rw [show k * 8 + 0 = k * 8 from rfl, List.getElem?_set_ne (by omega), List.getElem?_set_ne (by omega), List.getElem?_set_ne (by omega), List.getElem?_set_ne (by omega), List.getElem?_set_ne (by omega), List.getElem?_set_ne (by omega), List.getElem?_set_ne (by omega), List.getElem?_set_self (by first | omega | (simp; omega))]; rfl
    | 1, _ => rw [show k * 8 + 1 = k * 8 + 1 from rfl, List.getElem?_set_ne (by omega), List.getElem?_set_ne (by omega), List.getElem?_set_ne (by omega), List.getElem?_set_ne (by omega), List.getElem?_set_ne (by omega), List.getElem?_set_ne (by omega), List.getElem?_set_self (by first | omega | (simp; omega))]; rfl
    | 2, _ => rw [show k * 8 + 2 = k * 8 + 2 from rfl, List.getElem?_set_ne (by omega), List.getElem?_set_ne (by omega), List.getElem?_set_ne (by omega), List.getElem?_set_ne (by omega), List.getElem?_set_ne (by omega), List.getElem?_set_self (by first | omega | (simp; omega))]; rfl
    | 3, _ => rw [show k * 8 + 3 = k * 8 + 3 from rfl, List.getElem?_set_ne (by omega), List.getElem?_set_ne (by omega), List.getElem?_set_ne (by omega), List.getElem?_set_ne (by omega), List.getElem?_set_self (by first | omega | (simp; omega))]; rfl
    | 4, _ => rw [show k * 8 + 4 = k * 8 + 4 from rfl, List.getElem?_set_ne (by omega), List.getElem?_set_ne (by omega), List.getElem?_set_ne (by omega), List.getElem?_set_self (by first | omega | (simp; omega))]; rfl
    | 5, _ => rw [show k * 8 + 5 = k * 8 + 5 from rfl, List.getElem?_set_ne (by omega), List.getElem?_set_ne (by omega), List.getElem?_set_self (by first | omega | (simp; omega))]; rfl
    | 6, _ => rw [show k * 8 + 6 = k * 8 + 6 from rfl, List.getElem?_set_ne (by omega), List.getElem?_set_self (by first | omega | (simp; omega))]; rfl
    | 7, _ => rw [show k * 8 + 7 = k * 8 + 7 from rfl, List.getElem?_set_self (by first | omega | (simp; omega))]; rfl
  refine ⟨((((((((row.set (k * 8) u0).set (k * 8 + 1) u1).set (k * 8 + 2) u2).set (k * 8 + 3) u3).set (k * 8 + 4) u4).set (k * 8 + 5) u5).set (k * 8 + 6) u6).set (k * 8 + 7) u7), fun i => if i = k then d else D i, ((((((((h1.stored (k * 8) u0).1.stored (k * 8 + 1) u1).1.stored (k * 8 + 2) u2).1.stored (k * 8 + 3) u3).1.stored (k * 8 + 4) u4).1.stored (k * 8 + 5) u5).1.stored (k * 8 + 6) u6).1.stored (k * 8 + 7) u7).1, fun i hi => ?_, fun i j hij hj => ?_, fun i hi hin j hj => (keep i j hj (by omega)).trans (h4 i (by omega) hin j hj)⟩
  · by_cases e : i = k
    · subst e
      simp only [if_true]
      exact ⟨fun j hj => by rw [same j hj, hus], hown.keep hkp (.inr (by omega)), hlo, by rw [hsz]; exact hhi⟩
    · simp only [if_neg e]
      obtain ⟨a, b, c, d9⟩ := h2 i (by omega)
      exact ⟨fun j hj => (keep i j hj e).trans (a j hj), (b.on hb).keep hkp (.inr (by omega)), c, by rw [hsz]; exact Nat.le_trans d9 hb.size⟩
  · show (if i = k then d else D i).hi ≤ (if j = k then d else D j).lo
    by_cases e : j = k
    · subst e
      rw [if_neg (by omega), if_pos rfl]
      exact Nat.le_trans (h2 i (by omega)).2.2.2 h0s
    · rw [if_neg (by omega), if_neg e]
      exact h3 i j hij (by omega)
set_option maxRecDepth 100000 in
set_option maxHeartbeats 2000000 in
theorem toInsS_any (p : Option Addr) (N cap : Nat) (xs : List Iv) (w : World) (hnl : N = xs.length) (hn : xs.length + szIs xs ≤ 1048576) (hin : IvIn w p xs) :
    Calls Tryz.prog 50 #[.slice p N cap] w fun e w' => e = .returned (.slice (some ⟨w.heap.size, 0, none⟩) N N) ∧ IvRow w' w.heap.size N N xs ∧ Below w.heap.size w w' := by
  obtain ⟨i0, hi, hz0, hz1, hz2⟩ := info_parts infoIv
  have hmx : N ≤ maxLen := by unfold maxLen; omega
  have hn9 : N ≤ 1048576 := by omega
  have HC : Hid (IvIn w p xs) := hin
  have HN : Hid (N = xs.length ∧ xs.length + szIs xs ≤ 1048576) := ⟨hnl, hn⟩
  clear hin hnl hn
  go_enter Tryz.func50, Tryz.ntmps50
  go_wp2_with (at_make; refine wpList_make_full _ rfl _ _ 49 rfl w.heap.size 93 i0 (.agg #[.int .i64 0, .int .i64 0, .int .i64 0, .int .i64 0, .int .i64 0, .slice none 0 0, .slice none 0 0, .slice none 0 0]) 8 Tryz.underlying49 hi hz0 hz1 _ _ _ _ N rfl rfl rfl rfl (by rw [hz2]; omega) hmx (Nat.le_refl _) ?_; intro w1 hown hgrow)
  have HB1 : Hid (Below w.heap.size w w1) := (Below.refl _ _).grown hgrow (Nat.le_refl _) (fun k h => by cases h)
  have HO : Hid (IvRow w1 w.heap.size N 0 xs) := by
    refine ⟨_, fun _ => ⟨none, none, none, 0, 0⟩, hown, fun i h => by omega, fun i j _ h => by omega, fun i _ h j hj => ?_⟩
    have m0 : (i * 8 + j) % 8 = j := by omega
    have l0 : i * 8 + j < N * 8 := by omega
    match j, hj, m0, l0 with
    | 0, _, m0, l0 => simp at m0 l0; simp [madeCells, Value.cells, m0, l0]
    | 1, _, m0, l0 => simp [madeCells, Value.cells, m0, l0]
    | 2, _, m0, l0 => simp [madeCells, Value.cells, m0, l0]
    | 3, _, m0, l0 => simp [madeCells, Value.cells, m0, l0]
    | 4, _, m0, l0 => simp [madeCells, Value.cells, m0, l0]
    | 5, _, m0, l0 => simp [madeCells, Value.cells, m0, l0]
    | 6, _, m0, l0 => simp [madeCells, Value.cells, m0, l0]
    | 7, _, m0, l0 => simp [madeCells, Value.cells, m0, l0]
  clear hown hgrow
  go_loopw [4] (fun i wr => ∃ (k : Nat), k ≤ N ∧ i = .int .i64 k ∧ Hid (IvRow wr w.heap.size N k xs) ∧ Hid (Below w.heap.size w wr)) (fun i _ => N - (intOf i).toNat)
  case atStart => exact ⟨0, Nat.zero_le _, rfl, HO, HB1⟩
  case round =>
    obtain ⟨k, hk, rfl, HR, HB⟩ := hrel
    by_cases hlt : k < N
    · have hkl : k < xs.length := by rw [← HN.out.1]; exact hlt
      obtain ⟨b, o, rfl, hcs⟩ := (HC.out.below HB.out) (by omega)
      obtain ⟨q, qc, s, sc, u, uc, h0, h1, h2, h3⟩ := hcs k hkl
      have hbd := szIs_at xs k hkl
      have hbd2 := HN.out.2
      have hsz : szI (xs.getD k Iv.zero) ≤ 1048576 := by omega
      have d0 : wr.cell? ⟨b, o + k * 8, none⟩ = some (.int .i64 (xs.getD k Iv.zero).op) := h0 0 (by omega)
      have d1 : wr.cell? ⟨b, o + k * 8 + 1, none⟩ = some (.int .i64 (xs.getD k Iv.zero).r) := h0 1 (by omega)
      have d2 : wr.cell? ⟨b, o + k * 8 + 2, none⟩ = some (.int .i64 (xs.getD k Iv.zero).a) := h0 2 (by omega)
      have d3 : wr.cell? ⟨b, o + k * 8 + 3, none⟩ = some (.int .i64 (xs.getD k Iv.zero).c.1) := h0 3 (by omega)
      have d4 : wr.cell? ⟨b, o + k * 8 + 4, none⟩ = some (.int .i64 (xs.getD k Iv.zero).c.2.1) := h0 4 (by omega)
      have d5 : wr.cell? ⟨b, o + k * 8 + 5, none⟩ = some (.slice q (xs.getD k Iv.zero).c.2.2.length qc) := h0 5 (by omega)
      have d6 : wr.cell? ⟨b, o + k * 8 + 6, none⟩ = some (.slice s (xs.getD k Iv.zero).K.length sc) := h0 6 (by omega)
      have d7 : wr.cell? ⟨b, o + k * 8 + 7, none⟩ = some (.slice u (xs.getD k Iv.zero).L.length uc) := h0 7 (by omega)
      obtain ⟨x, ex⟩ : ∃ x, x = xs.getD k Iv.zero := ⟨_, rfl⟩
      have HX : Hid (x = xs.getD k Iv.zero) := ex
      rw [← ex] at d0 d1 d2 d3 d4 d5 d6 d7 hsz h1 h2 h3
      obtain ⟨op, Eop⟩ : ∃ y, y = x.op := ⟨_, rfl⟩
      obtain ⟨r, Er⟩ : ∃ y, y = x.r := ⟨_, rfl⟩
      obtain ⟨a, Ea⟩ : ∃ y, y = x.a := ⟨_, rfl⟩
      obtain ⟨kd, Ekd⟩ : ∃ y, y = x.c.1 := ⟨_, rfl⟩
      obtain ⟨cn, Ecn⟩ : ∃ y, y = x.c.2.1 := ⟨_, rfl⟩
      obtain ⟨m, Em⟩ : ∃ y, y = x.c.2.2.length := ⟨_, rfl⟩
      obtain ⟨n, En⟩ : ∃ y, y = x.K.length := ⟨_, rfl⟩
      obtain ⟨l, El⟩ : ∃ y, y = x.L.length := ⟨_, rfl⟩
      have HS := toIns_any x q m qc s n sc u l uc op r a kd cn wr Em En El hsz h1 h2 h3
      have HE : Hid (op = x.op ∧ r = x.r ∧ a = x.a ∧ kd = x.c.1 ∧ cn = x.c.2.1 ∧ m = x.c.2.2.length ∧ n = x.K.length ∧ l = x.L.length) := ⟨Eop, Er, Ea, Ekd, Ecn, Em, En, El⟩
      rw [← Eop] at d0
      rw [← Er] at d1
      rw [← Ea] at d2
      rw [← Ekd] at d3
      rw [← Ecn] at d4
      rw [← Em] at d5
      rw [← En] at d6
      rw [← El] at d7
      clear hcs h0 h1 h2 h3 hbd hbd2 hsz ex Eop Er Ea Ekd Ecn Em En El
      go_wp2_with fail
      refine HS.mono ?_
      rintro e w2 ⟨q', s', u', rfl, hitm, hb2⟩
      have HR2 : Hid (IvRow w2 w.heap.size N k xs) := HR.out.on hb2
      have e0 : w2.cell? ⟨w.heap.size, k * 8, none⟩ = some (.int .i64 0) := HR2.out.cell hlt 0 (by omega)
      have e1 : w2.cell? ⟨w.heap.size, k * 8 + 1, none⟩ = some (.int .i64 0) := HR2.out.cell hlt 1 (by omega)
      have e2 : w2.cell? ⟨w.heap.size, k * 8 + 2, none⟩ = some (.int .i64 0) := HR2.out.cell hlt 2 (by omega)
      have e3 : w2.cell? ⟨w.heap.size, k * 8 + 3, none⟩ = some (.int .i64 0) := HR2.out.cell hlt 3 (by omega)
      have e4 : w2.cell? ⟨w.heap.size, k * 8 + 4, none⟩ = some (.int .i64 0) := HR2.out.cell hlt 4 (by omega)
      have e5 : w2.cell? ⟨w.heap.size, k * 8 + 5, none⟩ = some (.slice none 0 0) := HR2.out.cell hlt 5 (by omega)
      have e6 : w2.cell? ⟨w.heap.size, k * 8 + 6, none⟩ = some (.slice none 0 0) := HR2.out.cell hlt 6 (by omega)
      have e7 : w2.cell? ⟨w.heap.size, k * 8 + 7, none⟩ = some (.slice none 0 0) := HR2.out.cell hlt 7 (by omega)
      have ef := HR2.out.frozen
      have HB2 : Hid (Below w.heap.size w w2) := Below.on HB.out hb2
      have HNX : Hid (IvRow ((((((((w2.setCell ⟨w.heap.size, k * 8, none⟩ (.int .i64 op)).setCell ⟨w.heap.size, k * 8 + 1, none⟩ (.int .i64 r)).setCell ⟨w.heap.size, k * 8 + 2, none⟩ (.int .i64 a)).setCell ⟨w.heap.size, k * 8 + 3, none⟩ (.int .i64 kd)).setCell ⟨w.heap.size, k * 8 + 4, none⟩ (.int .i64 cn)).setCell ⟨w.heap.size, k * 8 + 5, none⟩ (.slice q' m m)).setCell ⟨w.heap.size, k * 8 + 6, none⟩ (.slice s' n n)).setCell ⟨w.heap.size, k * 8 + 7, none⟩ (.slice u' l l)) w.heap.size N (k + 1) xs) := by
        rw [HX.out] at hitm
        have hE := HE.out
        rw [HX.out] at hE
        refine IvRow.next HR.out hb2 hlt ⟨q', s', u', wr.heap.size, w2.heap.size⟩ (Nat.le_refl _) (.int .i64 op) (.int .i64 r) (.int .i64 a) (.int .i64 kd) (.int .i64 cn) (.slice q' m m) (.slice s' n n) (.slice u' l l) ?_ hitm (Nat.le_refl _)
        obtain ⟨Fop, Fr, Fa, Fkd, Fcn, Fm, Fn, Fl⟩ := hE
        rw [Fop, Fr, Fa, Fkd, Fcn, Fm, Fn, Fl]
        rfl
      clear hitm hb2 HS
      go_wp2_with fail
      go_roundw
      case rel => exact ⟨k + 1, by omega, by go_num, HNX, ((((((((HB2.out.setCell (p := ⟨w.heap.size, _, none⟩) (Nat.le_refl _) _).setCell (p := ⟨w.heap.size, _, none⟩) (Nat.le_refl _) _).setCell (p := ⟨w.heap.size, _, none⟩) (Nat.le_refl _) _).setCell (p := ⟨w.heap.size, _, none⟩) (Nat.le_refl _) _).setCell (p := ⟨w.heap.size, _, none⟩) (Nat.le_refl _) _).setCell (p := ⟨w.heap.size, _, none⟩) (Nat.le_refl _) _).setCell (p := ⟨w.heap.size, _, none⟩) (Nat.le_refl _) _).setCell (p := ⟨w.heap.size, _, none⟩) (Nat.le_refl _) _)⟩
      case measure => simp [intOf]; omega
    · obtain rfl : k = N := by omega
      go_wp2_with fail
      go_ret
      exact ⟨rfl, HR.out, HB.out⟩
theorem infoPv : (Tryz.prog.info? 143).map (fun i => (i.zero, i.size, i.bytes)) = some (some (.agg #[.slice none 0 0, .int .i64 0, .bool false, .int .i64 0, .slice none 0 0]), 5, 72) := by kernel_rfl
structure PvD where
  q : Option Addr
  u : Option Addr
  lo : Nat
  hi : Nat
def PvRow (W : World) (T n k : Nat) (xs : List Pv) : Prop := ∃ (row : List Value) (D : Nat → PvD), W.ownsRow T 143 5 (.slice (some ⟨T, 0, none⟩) n n) n row ∧
  (∀ i, i < k → (∀ j, j < 5 → row[i * 5 + j]? = (pvV (xs.getD i Pv.zero) (D i).q (xs.getD i Pv.zero).nm.length (D i).u (xs.getD i Pv.zero).cl.length)[j]?) ∧ PvOwn W (D i).lo (D i).hi (D i).q (D i).u (xs.getD i Pv.zero) ∧ T < (D i).lo ∧ (D i).hi ≤ W.heap.size) ∧
  (∀ i j, i < j → j < k → (D i).hi ≤ (D j).lo) ∧
  (∀ i, k ≤ i → i < n → ∀ j, j < 5 → row[i * 5 + j]? = [.slice none 0 0, .int .i64 0, .bool false, .int .i64 0, .slice none 0 0][j]?)
theorem PvRow.lt {W : World} {T n k : Nat} {xs : List Pv} (h : PvRow W T n k xs) : T < W.heap.size := by
  obtain ⟨row, D, h1, _⟩ := h
  exact (h1.lt T rfl).2
theorem PvRow.on {W W' : World} {T n k : Nat} {xs : List Pv} (h : PvRow W T n k xs) (hb : Below W.heap.size W W') : PvRow W' T n k xs := by
  obtain ⟨row, D, h1, h2, h3, h4⟩ := h
  refine ⟨row, D, row_below h1 hb, fun i hi => ?_, h3, h4⟩
  obtain ⟨a, b, c, d⟩ := h2 i hi
  exact ⟨a, b.on hb, c, Nat.le_trans d hb.size⟩
theorem PvRow.keep {W W' : World} {T n k B U : Nat} {xs : List Pv} (h : PvRow W T n k xs) (hk : Keep B U W W') (ho : W.heap.size ≤ B ∨ U ≤ T) : PvRow W' T n k xs := by
  have hT := h.lt
  obtain ⟨row, D, h1, h2, h3, h4⟩ := h
  refine ⟨row, D, ⟨h1.1, ?_⟩, fun i hi => ?_, h3, h4⟩
  · rcases h1.2 with h' | ⟨g, cap, cur, hv, hB, hg, r⟩
    · exact .inl h'
    · have e : g = T := by simp only [Value.slice.injEq, Option.some.injEq, Addr.mk.injEq] at hv; exact hv.1.1.symm
      subst e
      exact .inr ⟨g, cap, cur, hv, hB, (hk.block g hT (by omega)).trans hg, r⟩
  · obtain ⟨a, b, c, d⟩ := h2 i hi
    exact ⟨a, b.keep hk (by omega), c, Nat.le_trans d hk.size⟩
theorem PvRow.cell {W : World} {T n k : Nat} {xs : List Pv} (h : PvRow W T n k xs) (hk : k < n) (j : Nat) (hj : j < 5) : W.cell? ⟨T, k * 5 + j, none⟩ = [.slice none 0 0, .int .i64 0, .bool false, .int .i64 0, .slice none 0 0][j]? := by
  obtain ⟨row, D, h1, _, _, h4⟩ := h
  exact (h1.cellAt _ (by omega)).trans (h4 k (Nat.le_refl _) hk j hj)
theorem PvRow.frozen {W : World} {T n k : Nat} {xs : List Pv} (h : PvRow W T n k xs) (j : Nat) : W.frozen? ⟨T, j, none⟩ = false := by
  obtain ⟨row, D, h1, _⟩ := h
  exact h1.frozenAt j
theorem PvRow.lies {W : World} {T n : Nat} {xs : List Pv} (h : PvRow W T n n xs) (hn : n = xs.length) : PvIn W (some ⟨T, 0, none⟩) xs := fun _ => by
  obtain ⟨row, D, h1, h2, _⟩ := h
  refine ⟨T, 0, rfl, fun i hi => ?_⟩
  obtain ⟨a, b, c, d⟩ := h2 i (by omega)
  exact ⟨(D i).q, _, (D i).u, _, fun j hj => by rw [Nat.zero_add]; exact (h1.cellAt _ (by omega)).trans (a j hj), b.ins.1, b.ins.2⟩
set_option maxHeartbeats 4000000 in
theorem PvRow.next {W w0 : World} {T n k : Nat} {xs : List Pv} (h0 : PvRow w0 T n k xs) (hb : Below w0.heap.size w0 W) (hk : k < n) (d : PvD) (h0s : w0.heap.size ≤ d.lo) (u0 u1 u2 u3 u4 : Value) (hus : [u0, u1, u2, u3, u4] = pvV (xs.getD k Pv.zero) d.q (xs.getD k Pv.zero).nm.length d.u (xs.getD k Pv.zero).cl.length) (hown : PvOwn W d.lo d.hi d.q d.u (xs.getD k Pv.zero)) (hhi : d.hi ≤ W.heap.size) :
    PvRow (((((W.setCell ⟨T, k * 5, none⟩ u0).setCell ⟨T, k * 5 + 1, none⟩ u1).setCell ⟨T, k * 5 + 2, none⟩ u2).setCell ⟨T, k * 5 + 3, none⟩ u3).setCell ⟨T, k * 5 + 4, none⟩ u4) T n (k + 1) xs := by
  have hlo : T < d.lo := Nat.lt_of_lt_of_le h0.lt h0s
  obtain ⟨row, D, h1, h2, h3, h4⟩ := h0
  have h1 := row_below h1 hb
  have hl : row.length = n * 5 := h1.1
  have hset : ∀ j, j ≠ T → (((((W.setCell ⟨T, k * 5, none⟩ u0).setCell ⟨T, k * 5 + 1, none⟩ u1).setCell ⟨T, k * 5 + 2, none⟩ u2).setCell ⟨T, k * 5 + 3, none⟩ u3).setCell ⟨T, k * 5 + 4, none⟩ u4).heap[j]? = W.heap[j]? := fun j hj => by
    rw [Below.heap_setCell _ _ _ _ (show j ≠ T by omega), Below.heap_setCell _ _ _ _ (show j ≠ T by omega), Below.heap_setCell _ _ _ _ (show j ≠ T by omega), Below.heap_setCell _ _ _ _ (show j ≠ T by omega), Below.heap_setCell _ _ _ _ (show j ≠ T by omega)]
  have hsz : (((((W.setCell ⟨T, k * 5, none⟩ u0).setCell ⟨T, k * 5 + 1, none⟩ u1).setCell ⟨T, k * 5 + 2, none⟩ u2).setCell ⟨T, k * 5 + 3, none⟩ u3).setCell ⟨T, k * 5 + 4, none⟩ u4).heap.size = W.heap.size := by simp
  have hkp : Keep T (T + 1) W (((((W.setCell ⟨T, k * 5, none⟩ u0).setCell ⟨T, k * 5 + 1, none⟩ u1).setCell ⟨T, k * 5 + 2, none⟩ u2).setCell ⟨T, k * 5 + 3, none⟩ u3).setCell ⟨T, k * 5 + 4, none⟩ u4) := ⟨by simp only [os_setCell'], by simp only [tape_setCell'], by simp only [output_setCell'], by rw [hsz]; exact Nat.le_refl _, fun j _ hj => hset j (by omega)⟩
  have keep : ∀ i j, j < 5 → i ≠ k → (((((row.set (k * 5) u0).set (k * 5 + 1) u1).set (k * 5 + 2) u2).set (k * 5 + 3) u3).set (k * 5 + 4) u4)[i * 5 + j]? = row[i * 5 + j]? := fun i j hj hi => by
    rw [List.getElem?_set_ne (by omega), List.getElem?_set_ne (by omega), List.getElem?_set_ne (by omega), List.getElem?_set_ne (by omega), List.getElem?_set_ne (by omega)]
  have same : ∀ j, j < 5 → (((((row.set (k * 5) u0).set (k * 5 + 1) u1).set (k * 5 + 2) u2).set (k * 5 + 3) u3).set (k * 5 + 4) u4)[k * 5 + j]? = [u0, u1, u2, u3, u4][j]? := fun j hj => by
    match j, hj with
    | 0, _ => rw [show k * 5 + 0 = k * 5 from rfl, List.getElem?_set_ne (by omega), List.getElem?_set_ne (by omega), List.getElem?_set_ne (by omega), List.getElem?_set_ne (by omega), List.getElem?_set_self (by first | omega | (simp; omega))]; rfl
    | 1, _ => rw [show k * 5 + 1 = k * 5 + 1 from rfl, List.getElem?_set_ne (by omega), List.getElem?_set_ne (by omega), List.getElem?_set_ne (by omega), List.getElem?_set_self (by first | omega | (simp; omega))]; rfl
    | 2, _ => rw [show k * 5 + 2 = k * 5 + 2 from rfl, List.getElem?_set_ne (by omega), List.getElem?_set_ne (by omega), List.getElem?_set_self (by first | omega | (simp; omega))]; rfl
    | 3, _ => rw [show k * 5 + 3 = k * 5 + 3 from rfl, List.getElem?_set_ne (by omega), List.getElem?_set_self (by first | omega | (simp; omega))]; rfl
    | 4, _ => rw [show k * 5 + 4 = k * 5 + 4 from rfl, List.getElem?_set_self (by first | omega | (simp; omega))]; rfl
  refine ⟨(((((row.set (k * 5) u0).set (k * 5 + 1) u1).set (k * 5 + 2) u2).set (k * 5 + 3) u3).set (k * 5 + 4) u4), fun i => if i = k then d else D i, (((((h1.stored (k * 5) u0).1.stored (k * 5 + 1) u1).1.stored (k * 5 + 2) u2).1.stored (k * 5 + 3) u3).1.stored (k * 5 + 4) u4).1, fun i hi => ?_, fun i j hij hj => ?_, fun i hi hin j hj => (keep i j hj (by omega)).trans (h4 i (by omega) hin j hj)⟩
  · by_cases e : i = k
    · subst e
      simp only [if_true]
      exact ⟨fun j hj => by rw [same j hj, hus], hown.keep hkp (.inr (by omega)), hlo, by rw [hsz]; exact hhi⟩
    · simp only [if_neg e]
      obtain ⟨a, b, c, d9⟩ := h2 i (by omega)
      exact ⟨fun j hj => (keep i j hj e).trans (a j hj), (b.on hb).keep hkp (.inr (by omega)), c, by rw [hsz]; exact Nat.le_trans d9 hb.size⟩
  · show (if i = k then d else D i).hi ≤ (if j = k then d else D j).lo
    by_cases e : j = k
    · subst e
      rw [if_neg (by omega), if_pos rfl]
      exact Nat.le_trans (h2 i (by omega)).2.2.2 h0s
    · rw [if_neg (by omega), if_neg e]
      exact h3 i j hij (by omega)
set_option maxRecDepth 100000 in
set_option maxHeartbeats 2000000 in
theorem toProcS_any (p : Option Addr) (N cap : Nat) (xs : List Pv) (w : World) (hnl : N = xs.length) (hn : xs.length + szVs xs ≤ 1048576) (hin : PvIn w p xs) :
    Calls Tryz.prog 51 #[.slice p N cap] w fun e w' => e = .returned (.slice (some ⟨w.heap.size, 0, none⟩) N N) ∧ PvRow w' w.heap.size N N xs ∧ Below w.heap.size w w' := by
  obtain ⟨i0, hi, hz0, hz1, hz2⟩ := info_parts infoPv
  have hmx : N ≤ maxLen := by unfold maxLen; omega
  have hn9 : N ≤ 1048576 := by omega
  have HC : Hid (PvIn w p xs) := hin
  have HN : Hid (N = xs.length ∧ xs.length + szVs xs ≤ 1048576) := ⟨hnl, hn⟩
  clear hin hnl hn
  go_enter Tryz.func51, Tryz.ntmps51
  go_wp2_with (at_make; refine wpList_make_full _ rfl _ _ 50 rfl w.heap.size 143 i0 (.agg #[.slice none 0 0, .int .i64 0, .bool false, .int .i64 0, .slice none 0 0]) 5 Tryz.underlying50 hi hz0 hz1 _ _ _ _ N rfl rfl rfl rfl (by rw [hz2]; omega) hmx (Nat.le_refl _) ?_; intro w1 hown hgrow)
  have HB1 : Hid (Below w.heap.size w w1) := (Below.refl _ _).grown hgrow (Nat.le_refl _) (fun k h => by cases h)
  have HO : Hid (PvRow w1 w.heap.size N 0 xs) := by
    refine ⟨_, fun _ => ⟨none, none, 0, 0⟩, hown, fun i h => by omega, fun i j _ h => by omega, fun i _ h j hj => ?_⟩
    have m0 : (i * 5 + j) % 5 = j := by omega
    have l0 : i * 5 + j < N * 5 := by omega
    match j, hj, m0, l0 with
    | 0, _, m0, l0 => simp at m0 l0; simp [madeCells, Value.cells, m0, l0]
    | 1, _, m0, l0 => simp [madeCells, Value.cells, m0, l0]
    | 2, _, m0, l0 => simp [madeCells, Value.cells, m0, l0]
    | 3, _, m0, l0 => simp [madeCells, Value.cells, m0, l0]
    | 4, _, m0, l0 => simp [madeCells, Value.cells, m0, l0]
  clear hown hgrow
  go_loopw [4] (fun i wr => ∃ (k : Nat), k ≤ N ∧ i = .int .i64 k ∧ Hid (PvRow wr w.heap.size N k xs) ∧ Hid (Below w.heap.size w wr)) (fun i _ => N - (intOf i).toNat)
  case atStart => exact ⟨0, Nat.zero_le _, rfl, HO, HB1⟩
  case round =>
    obtain ⟨k, hk, rfl, HR, HB⟩ := hrel
    by_cases hlt : k < N
    · have hkl : k < xs.length := by rw [← HN.out.1]; exact hlt
      obtain ⟨b, o, rfl, hcs⟩ := (HC.out.below HB.out) (by omega)
      obtain ⟨q, qc, u, uc, h0, h1, h2⟩ := hcs k hkl
      have hbd := szVs_at xs k hkl
      have hbd2 := HN.out.2
      have hsz : szV (xs.getD k Pv.zero) ≤ 1048576 := by omega
      have d0 : wr.cell? ⟨b, o + k * 5, none⟩ = some (.slice q (xs.getD k Pv.zero).nm.length qc) := h0 0 (by omega)
      have d1 : wr.cell? ⟨b, o + k * 5 + 1, none⟩ = some (.int .i64 (xs.getD k Pv.zero).ar) := h0 1 (by omega)
      have d2 : wr.cell? ⟨b, o + k * 5 + 2, none⟩ = some (.bool (xs.getD k Pv.zero).dy) := h0 2 (by omega)
      have d3 : wr.cell? ⟨b, o + k * 5 + 3, none⟩ = some (.int .i64 (xs.getD k Pv.zero).pl) := h0 3 (by omega)
      have d4 : wr.cell? ⟨b, o + k * 5 + 4, none⟩ = some (.slice u (xs.getD k Pv.zero).cl.length uc) := h0 4 (by omega)
      obtain ⟨x, ex⟩ : ∃ x, x = xs.getD k Pv.zero := ⟨_, rfl⟩
      have HX : Hid (x = xs.getD k Pv.zero) := ex
      rw [← ex] at d0 d1 d2 d3 d4 hsz h1 h2
      obtain ⟨m, Em⟩ : ∃ y, y = x.nm.length := ⟨_, rfl⟩
      obtain ⟨ar, Ear⟩ : ∃ y, y = x.ar := ⟨_, rfl⟩
      obtain ⟨dy, Edy⟩ : ∃ y, y = x.dy := ⟨_, rfl⟩
      obtain ⟨pl, Epl⟩ : ∃ y, y = x.pl := ⟨_, rfl⟩
      obtain ⟨l, El⟩ : ∃ y, y = x.cl.length := ⟨_, rfl⟩
      have HS := toProc_any x q m qc u l uc ar dy pl wr Em El hsz h1 h2
      have HE : Hid (m = x.nm.length ∧ ar = x.ar ∧ dy = x.dy ∧ pl = x.pl ∧ l = x.cl.length) := ⟨Em, Ear, Edy, Epl, El⟩
      rw [← Em] at d0
      rw [← Ear] at d1
      rw [← Edy] at d2
      rw [← Epl] at d3
      rw [← El] at d4
      clear hcs h0 h1 h2 hbd hbd2 hsz ex Em Ear Edy Epl El
      go_wp2_with fail
      refine HS.mono ?_
      rintro e w2 ⟨q', u', rfl, hitm, hb2⟩
      have HR2 : Hid (PvRow w2 w.heap.size N k xs) := HR.out.on hb2
      have e0 : w2.cell? ⟨w.heap.size, k * 5, none⟩ = some (.slice none 0 0) := HR2.out.cell hlt 0 (by omega)
      have e1 : w2.cell? ⟨w.heap.size, k * 5 + 1, none⟩ = some (.int .i64 0) := HR2.out.cell hlt 1 (by omega)
      have e2 : w2.cell? ⟨w.heap.size, k * 5 + 2, none⟩ = some (.bool false) := HR2.out.cell hlt 2 (by omega)
      have e3 : w2.cell? ⟨w.heap.size, k * 5 + 3, none⟩ = some (.int .i64 0) := HR2.out.cell hlt 3 (by omega)
      have e4 : w2.cell? ⟨w.heap.size, k * 5 + 4, none⟩ = some (.slice none 0 0) := HR2.out.cell hlt 4 (by omega)
      have ef := HR2.out.frozen
      have HB2 : Hid (Below w.heap.size w w2) := Below.on HB.out hb2
      have HNX : Hid (PvRow (((((w2.setCell ⟨w.heap.size, k * 5, none⟩ (.slice q' m m)).setCell ⟨w.heap.size, k * 5 + 1, none⟩ (.int .i64 ar)).setCell ⟨w.heap.size, k * 5 + 2, none⟩ (.bool dy)).setCell ⟨w.heap.size, k * 5 + 3, none⟩ (.int .i64 pl)).setCell ⟨w.heap.size, k * 5 + 4, none⟩ (.slice u' l l)) w.heap.size N (k + 1) xs) := by
        rw [HX.out] at hitm
        have hE := HE.out
        rw [HX.out] at hE
        refine PvRow.next HR.out hb2 hlt ⟨q', u', wr.heap.size, w2.heap.size⟩ (Nat.le_refl _) (.slice q' m m) (.int .i64 ar) (.bool dy) (.int .i64 pl) (.slice u' l l) ?_ hitm (Nat.le_refl _)
        obtain ⟨Fm, Far, Fdy, Fpl, Fl⟩ := hE
        rw [Fm, Far, Fdy, Fpl, Fl]
        rfl
      clear hitm hb2 HS
      go_wp2_with fail
      go_roundw
      case rel => exact ⟨k + 1, by omega, by go_num, HNX, (((((HB2.out.setCell (p := ⟨w.heap.size, _, none⟩) (Nat.le_refl _) _).setCell (p := ⟨w.heap.size, _, none⟩) (Nat.le_refl _) _).setCell (p := ⟨w.heap.size, _, none⟩) (Nat.le_refl _) _).setCell (p := ⟨w.heap.size, _, none⟩) (Nat.le_refl _) _).setCell (p := ⟨w.heap.size, _, none⟩) (Nat.le_refl _) _)⟩
      case measure => simp [intOf]; omega
    · obtain rfl : k = N := by omega
      go_wp2_with fail
      go_ret
      exact ⟨rfl, HR.out, HB.out⟩
end Go.Proofs.YtjhbplgppakhoaaGreatDoor

namespace Go.Proofs.YtjhbplgppakhoaaGreatDoor
open Go Go.RowKit
set_option linter.unusedVariables false
set_option linter.unusedSimpArgs false
def IvU (W : World) (T U n : Nat) (xs : List Iv) : Prop := ∃ (row : List Value) (D : Nat → IvD), W.ownsRow T 93 8 (.slice (some ⟨T, 0, none⟩) n n) n row ∧
  (∀ i, i < n → (∀ j, j < 8 → row[i * 8 + j]? = (ivV (xs.getD i Iv.zero) (D i).q (xs.getD i Iv.zero).c.2.2.length (D i).s (xs.getD i Iv.zero).K.length (D i).u (xs.getD i Iv.zero).L.length)[j]?) ∧ IvOwn W (D i).lo (D i).hi (D i).q (D i).s (D i).u (xs.getD i Iv.zero) ∧ T < (D i).lo ∧ (D i).hi ≤ U) ∧
  (∀ i j, i < j → j < n → (D i).hi ≤ (D j).lo) ∧ T < U ∧ U ≤ W.heap.size
theorem IvRow.toU {W : World} {T n : Nat} {xs : List Iv} (h : IvRow W T n n xs) : IvU W T W.heap.size n xs := by
  have hT := h.lt
  obtain ⟨row, D, h1, h2, h3, h4⟩ := h
  exact ⟨row, D, h1, h2, h3, hT, Nat.le_refl _⟩
theorem IvU.on {W W' : World} {T U n : Nat} {xs : List Iv} (h : IvU W T U n xs) (hb : Below W.heap.size W W') : IvU W' T U n xs := by
  obtain ⟨row, D, h1, h2, h3, h4, h5⟩ := h
  refine ⟨row, D, row_below h1 hb, fun i hi => ?_, h3, h4, Nat.le_trans h5 hb.size⟩
  obtain ⟨a, b, c, d⟩ := h2 i hi
  exact ⟨a, b.on hb, c, d⟩
theorem IvU.keep {W W' : World} {T U n B V : Nat} {xs : List Iv} (h : IvU W T U n xs) (hk : Keep B V W W') (ho : U ≤ B ∨ V ≤ T) : IvU W' T U n xs := by
  obtain ⟨row, D, h1, h2, h3, h4, h5⟩ := h
  refine ⟨row, D, ⟨h1.1, ?_⟩, fun i hi => ?_, h3, h4, Nat.le_trans h5 hk.size⟩
  · rcases h1.2 with h' | ⟨g, cap, cur, hv, hB, hg, r⟩
    · exact .inl h'
    · have e : g = T := by simp only [Value.slice.injEq, Option.some.injEq, Addr.mk.injEq] at hv; exact hv.1.1.symm
      subst e
      exact .inr ⟨g, cap, cur, hv, hB, (hk.block g (by omega) (by omega)).trans hg, r⟩
  · obtain ⟨a, b, c, d⟩ := h2 i hi
    exact ⟨a, b.keep hk (by omega), c, d⟩
theorem IvU.lies {W : World} {T U n : Nat} {xs : List Iv} (h : IvU W T U n xs) (hn : n = xs.length) : IvIn W (some ⟨T, 0, none⟩) xs := fun _ => by
  obtain ⟨row, D, h1, h2, _⟩ := h
  refine ⟨T, 0, rfl, fun i hi => ?_⟩
  obtain ⟨a, b, c, d⟩ := h2 i (by omega)
  exact ⟨(D i).q, _, (D i).s, _, (D i).u, _, fun j hj => by rw [Nat.zero_add]; exact (h1.cellAt _ (by omega)).trans (a j hj), b.ins.1, b.ins.2.1, b.ins.2.2⟩
def PvU (W : World) (T U n : Nat) (xs : List Pv) : Prop := ∃ (row : List Value) (D : Nat → PvD), W.ownsRow T 143 5 (.slice (some ⟨T, 0, none⟩) n n) n row ∧
  (∀ i, i < n → (∀ j, j < 5 → row[i * 5 + j]? = (pvV (xs.getD i Pv.zero) (D i).q (xs.getD i Pv.zero).nm.length (D i).u (xs.getD i Pv.zero).cl.length)[j]?) ∧ PvOwn W (D i).lo (D i).hi (D i).q (D i).u (xs.getD i Pv.zero) ∧ T < (D i).lo ∧ (D i).hi ≤ U) ∧
  (∀ i j, i < j → j < n → (D i).hi ≤ (D j).lo) ∧ T < U ∧ U ≤ W.heap.size
theorem PvRow.toU {W : World} {T n : Nat} {xs : List Pv} (h : PvRow W T n n xs) : PvU W T W.heap.size n xs := by
  have hT := h.lt
  obtain ⟨row, D, h1, h2, h3, h4⟩ := h
  exact ⟨row, D, h1, h2, h3, hT, Nat.le_refl _⟩
theorem PvU.on {W W' : World} {T U n : Nat} {xs : List Pv} (h : PvU W T U n xs) (hb : Below W.heap.size W W') : PvU W' T U n xs := by
  obtain ⟨row, D, h1, h2, h3, h4, h5⟩ := h
  refine ⟨row, D, row_below h1 hb, fun i hi => ?_, h3, h4, Nat.le_trans h5 hb.size⟩
  obtain ⟨a, b, c, d⟩ := h2 i hi
  exact ⟨a, b.on hb, c, d⟩
theorem PvU.keep {W W' : World} {T U n B V : Nat} {xs : List Pv} (h : PvU W T U n xs) (hk : Keep B V W W') (ho : U ≤ B ∨ V ≤ T) : PvU W' T U n xs := by
  obtain ⟨row, D, h1, h2, h3, h4, h5⟩ := h
  refine ⟨row, D, ⟨h1.1, ?_⟩, fun i hi => ?_, h3, h4, Nat.le_trans h5 hk.size⟩
  · rcases h1.2 with h' | ⟨g, cap, cur, hv, hB, hg, r⟩
    · exact .inl h'
    · have e : g = T := by simp only [Value.slice.injEq, Option.some.injEq, Addr.mk.injEq] at hv; exact hv.1.1.symm
      subst e
      exact .inr ⟨g, cap, cur, hv, hB, (hk.block g (by omega) (by omega)).trans hg, r⟩
  · obtain ⟨a, b, c, d⟩ := h2 i hi
    exact ⟨a, b.keep hk (by omega), c, d⟩
theorem PvU.lies {W : World} {T U n : Nat} {xs : List Pv} (h : PvU W T U n xs) (hn : n = xs.length) : PvIn W (some ⟨T, 0, none⟩) xs := fun _ => by
  obtain ⟨row, D, h1, h2, _⟩ := h
  refine ⟨T, 0, rfl, fun i hi => ?_⟩
  obtain ⟨a, b, c, d⟩ := h2 i (by omega)
  exact ⟨(D i).q, _, (D i).u, _, fun j hj => by rw [Nat.zero_add]; exact (h1.cellAt _ (by omega)).trans (a j hj), b.ins.1, b.ins.2⟩
def CdLaid (w : World) (T G : Nat) (xs : List Iv) (vs : List Pv) : Prop := ∃ U, IvU w T G xs.length xs ∧ PvU w G U vs.length vs
theorem CdLaid.on {W W' : World} {T G : Nat} {xs : List Iv} {vs : List Pv} (h : CdLaid W T G xs vs) (hb : Below W.heap.size W W') : CdLaid W' T G xs vs := by
  obtain ⟨U, h1, h2⟩ := h
  exact ⟨U, h1.on hb, h2.on hb⟩
def szK2 (xs : List Iv) (vs : List Pv) : Nat := xs.length + szIs xs + (vs.length + szVs vs)
theorem heap_threeA' (w : World) (a b c : Obj) : (((w.alloc a).alloc b).alloc c).heap[w.heap.size]? = some a := (heap_threeL w a b c).1
set_option maxRecDepth 100000 in
set_option maxHeartbeats 2000000 in
theorem toCode_any (p : Option Addr) (np cp : Nat) (ps : List Iv) (g : Option Addr) (ng cg : Nat) (gs : List Pv) (w : World) (hnp : np = ps.length) (hng : ng = gs.length) (hsz : szK2 ps gs ≤ 1048576) (hp : IvIn w p ps) (hg : PvIn w g gs) :
    Calls Tryz.prog 24 #[.agg #[.slice p np cp, .slice g ng cg]] w fun e w' => ∃ T G, e = .returned (.agg #[.slice (some ⟨T, 0, none⟩) np np, .slice (some ⟨G, 0, none⟩) ng ng]) ∧ CdLaid w' T G ps gs ∧ w.heap.size ≤ T ∧ Below w.heap.size w w' := by
  unfold szK2 at hsz
  have HS : Hid (∀ W, Below w.heap.size w W → Calls Tryz.prog 50 #[.slice p np cp] W fun e w' => e = .returned (.slice (some ⟨W.heap.size, 0, none⟩) np np) ∧ IvRow w' W.heap.size np np ps ∧ Below W.heap.size W w') := fun W hW => toInsS_any p np cp ps W hnp (by omega) (hp.below hW)
  have HC : Hid (∀ W, Below w.heap.size w W → Calls Tryz.prog 51 #[.slice g ng cg] W fun e w' => e = .returned (.slice (some ⟨W.heap.size, 0, none⟩) ng ng) ∧ PvRow w' W.heap.size ng ng gs ∧ W.heap.size < w'.heap.size ∧ Below W.heap.size W w') := fun W hW => by
    refine (toProcS_any g ng cg gs W hng (by omega) (hg.below hW)).mono ?_
    rintro e w1 ⟨h1, h2, h4⟩
    exact ⟨h1, h2, h2.lt, h4⟩
  have HN : Hid (np = ps.length ∧ ng = gs.length) := ⟨hnp, hng⟩
  clear hnp hng hp hg hsz
  go_enter Tryz.func24, Tryz.ntmps24
  go_wp2_with fail
  have hb0 : ∀ a b c, Below w.heap.size w (((w.alloc a).alloc b).alloc c) := fun a b c => (((Below.refl _ _).alloc (Nat.le_refl _) _).alloc (by simp) _).alloc (by simp; omega) _
  refine (HS.out _ (hb0 _ _ _)).mono ?_
  rintro e w1 ⟨rfl, hlaid, hb1⟩
  have k0 := (hb1.block w.heap.size (by simp; omega)).trans (heap_threeA' w _ _ _)
  have k1 := (hb1.block (w.heap.size + 1) (by simp)).trans (heap_three w _ _ _).1
  have k2 := (hb1.block (w.heap.size + 1 + 1) (by simp)).trans (heap_three w _ _ _).2
  have a1 := cell_of_row _ _ 1 _ _ _ k0
  have c10 := cell_of_row _ _ 0 _ _ _ k1
  have c11 := cell_of_row _ _ 1 _ _ _ k1
  have c20 := cell_of_row _ _ 0 _ _ _ k2
  have c21 := cell_of_row _ _ 1 _ _ _ k2
  have f1 := fun j => frozen_of_row w1 (w.heap.size + 1) j _ _ k1
  have f2 := fun j => frozen_of_row w1 (w.heap.size + 1 + 1) j _ _ k2
  simp only [World.size_alloc] at hlaid ⊢
  simp at a1 c10 c11 c20 c21
  have HB1 : Hid (Below w.heap.size w w1) := Below.on (hb0 _ _ _) hb1
  have HG : Hid (w.heap.size + 1 + 1 + 1 ≤ w1.heap.size) := by have := hb1.size; simp at this; exact this
  have HL : Hid (IvRow w1 (w.heap.size + 1 + 1 + 1) np np ps) := hlaid
  clear hlaid hb1 hb0 k0 k1 k2
  obtain ⟨W1, hW1⟩ : ∃ W, W = w1.setCell ⟨w.heap.size + 1 + 1, 0, none⟩ (Value.slice (some ⟨w.heap.size + 1 + 1 + 1, 0, none⟩) np np) := ⟨_, rfl⟩
  have HBW : Hid (Below w.heap.size w W1) := by
    show Below _ _ _
    rw [hW1]
    exact HB1.out.setCell (p := ⟨_, _, none⟩) (by simp; omega) _
  have HSZ : Hid (W1.heap.size = w1.heap.size) := by show _ = _; rw [hW1]; simp
  have HL1 : Hid (IvU W1 (w.heap.size + 1 + 1 + 1) W1.heap.size np ps) := by
    have e : W1.heap.size = w1.heap.size := HSZ.out
    rw [e, hW1]
    exact HL.out.toU.keep (keep_set _ _ _ _) (.inr (Nat.le_refl _))
  have x10 : W1.cell? ⟨w.heap.size + 1, 0, none⟩ = some (.slice none 0 0) := by rw [hW1, World.cell?_setCell_other _ _ _ _ (by simp)]; exact c10
  have x11 : W1.cell? ⟨w.heap.size + 1, 1, none⟩ = some (.slice none 0 0) := by rw [hW1, World.cell?_setCell_other _ _ _ _ (by simp)]; exact c11
  have x20 : W1.cell? ⟨w.heap.size + 1 + 1, 0, none⟩ = some (Value.slice (some ⟨w.heap.size + 1 + 1 + 1, 0, none⟩) np np) := by rw [hW1]; exact World.cell?_setCell_same' _ _ _ (by rw [c20]; rfl)
  have x21 : W1.cell? ⟨w.heap.size + 1 + 1, 1, none⟩ = some (.slice none 0 0) := by rw [hW1, World.cell?_setCell_other _ _ _ _ (by simp)]; exact c21
  have y1 : ∀ j, W1.frozen? ⟨w.heap.size + 1, j, none⟩ = false := fun j => by rw [hW1]; simp [f1 j]
  have y2 : ∀ j, W1.frozen? ⟨w.heap.size + 1 + 1, j, none⟩ = false := fun j => by rw [hW1]; simp [f2 j]
  have HX : Hid (W1.cell? ⟨w.heap.size + 1, 0, none⟩ = some (.slice none 0 0) ∧ W1.cell? ⟨w.heap.size + 1, 1, none⟩ = some (.slice none 0 0) ∧ W1.cell? ⟨w.heap.size + 1 + 1, 0, none⟩ = some (Value.slice (some ⟨w.heap.size + 1 + 1 + 1, 0, none⟩) np np) ∧ W1.cell? ⟨w.heap.size + 1 + 1, 1, none⟩ = some (.slice none 0 0) ∧ (∀ j, W1.frozen? ⟨w.heap.size + 1, j, none⟩ = false) ∧ (∀ j, W1.frozen? ⟨w.heap.size + 1 + 1, j, none⟩ = false)) := ⟨x10, x11, x20, x21, y1, y2⟩
  have HC1 := HC.out W1 HBW.out
  have HW1 : Hid _ := hW1
  clear x10 x11 x20 x21 y1 y2 hW1 c10 c11
  go_wp2_with fail
  rw [← HW1.out]
  refine HC1.mono ?_
  rintro e w2 ⟨rfl, hcc, hlt, hb2⟩
  obtain ⟨x10, x11, x20, x21, y1, y2⟩ := HX.out
  have lt1 : w.heap.size + 1 < W1.heap.size := World.block_lt_of_cell? _ _ x10
  have lt2 : w.heap.size + 1 + 1 < W1.heap.size := World.block_lt_of_cell? _ _ x20
  have u10 := (hb2.cell (p := ⟨w.heap.size + 1, 0, none⟩) lt1).trans x10
  have u11 := (hb2.cell (p := ⟨w.heap.size + 1, 1, none⟩) lt1).trans x11
  have u20 := (hb2.cell (p := ⟨w.heap.size + 1 + 1, 0, none⟩) lt2).trans x20
  have u21 := (hb2.cell (p := ⟨w.heap.size + 1 + 1, 1, none⟩) lt2).trans x21
  have g1 := fun j => (hb2.frozen (p := ⟨w.heap.size + 1, j, none⟩) lt1).trans (y1 j)
  have g2 := fun j => (hb2.frozen (p := ⟨w.heap.size + 1 + 1, j, none⟩) lt2).trans (y2 j)
  have HB2 : Hid (Below w.heap.size w w2) := Below.on HBW.out hb2
  obtain ⟨N2, eN2⟩ : ∃ N2, N2 = W1.heap.size := ⟨_, rfl⟩
  have hl1 := HL1.out
  rw [← eN2] at hcc hl1 ⊢
  have HN2 : Hid (w.heap.size + 1 + 1 + 1 ≤ N2 ∧ N2 < w2.heap.size) := by have := HG.out; have := HSZ.out; exact ⟨by omega, by omega⟩
  have HLL : Hid (IvU w2 (w.heap.size + 1 + 1 + 1) N2 np ps ∧ PvU w2 N2 w2.heap.size ng gs) := ⟨hl1.on hb2, hcc.toU⟩
  clear x10 x11 x20 x21 y1 y2 hcc hl1 hlt hb2 lt1 lt2 eN2 HC1
  obtain ⟨W2, hW2⟩ : ∃ W, W = w2.setCell ⟨w.heap.size + 1 + 1, 1, none⟩ (Value.slice (some ⟨N2, 0, none⟩) ng ng) := ⟨_, rfl⟩
  have v20 : W2.cell? ⟨w.heap.size + 1 + 1, 0, none⟩ = some (Value.slice (some ⟨w.heap.size + 1 + 1 + 1, 0, none⟩) np np) := by rw [hW2, World.cell?_setCell_other _ _ _ _ (by simp)]; exact u20
  have v21 : W2.cell? ⟨w.heap.size + 1 + 1, 1, none⟩ = some (Value.slice (some ⟨N2, 0, none⟩) ng ng) := by rw [hW2]; exact World.cell?_setCell_same' _ _ _ (by rw [u21]; rfl)
  have v10 : W2.cell? ⟨w.heap.size + 1, 0, none⟩ = some (.slice none 0 0) := by rw [hW2, World.cell?_setCell_other _ _ _ _ (by simp)]; exact u10
  have v11 : W2.cell? ⟨w.heap.size + 1, 1, none⟩ = some (.slice none 0 0) := by rw [hW2, World.cell?_setCell_other _ _ _ _ (by simp)]; exact u11
  obtain ⟨W3, hW3⟩ : ∃ W, W = (W2.setCell ⟨w.heap.size + 1, 0, none⟩ (Value.slice (some ⟨w.heap.size + 1 + 1 + 1, 0, none⟩) np np)).setCell ⟨w.heap.size + 1, 1, none⟩ (Value.slice (some ⟨N2, 0, none⟩) ng ng) := ⟨_, rfl⟩
  have d0 : W3.cell? ⟨w.heap.size + 1, 0, none⟩ = some (Value.slice (some ⟨w.heap.size + 1 + 1 + 1, 0, none⟩) np np) := by rw [hW3, World.cell?_setCell_other _ _ _ _ (by simp)]; exact World.cell?_setCell_same' _ _ _ (by rw [v10]; rfl)
  have d1 : W3.cell? ⟨w.heap.size + 1, 1, none⟩ = some (Value.slice (some ⟨N2, 0, none⟩) ng ng) := by rw [hW3]; exact World.cell?_setCell_same' _ _ _ (by rw [World.cell?_setCell_other _ _ _ _ (by simp), v11]; rfl)
  have HF : Hid (CdLaid W3 (w.heap.size + 1 + 1 + 1) N2 ps gs ∧ Below w.heap.size w W3) := by
    obtain ⟨l1, l2⟩ := HLL.out
    have hN := HN2.out
    obtain ⟨e1, e2⟩ := HN.out
    subst e1 e2
    refine ⟨⟨w2.heap.size, ?_, ?_⟩, ?_⟩
    · rw [hW3, hW2]
      exact ((l1.keep (keep_set _ _ _ _) (.inr (by omega))).keep (keep_set _ _ _ _) (.inr (by omega))).keep (keep_set _ _ _ _) (.inr (by omega))
    · rw [hW3, hW2]
      exact ((l2.keep (keep_set _ _ _ _) (.inr (by omega))).keep (keep_set _ _ _ _) (.inr (by omega))).keep (keep_set _ _ _ _) (.inr (by omega))
    · rw [hW3, hW2]
      exact ((HB2.out.setCell (p := ⟨_, _, none⟩) (by simp; omega) _).setCell (p := ⟨_, _, none⟩) (by simp) _).setCell (p := ⟨_, _, none⟩) (by simp) _
  have HD : Hid (W3.cell? ⟨w.heap.size + 1, 0, none⟩ = some (Value.slice (some ⟨w.heap.size + 1 + 1 + 1, 0, none⟩) np np) ∧ W3.cell? ⟨w.heap.size + 1, 1, none⟩ = some (Value.slice (some ⟨N2, 0, none⟩) ng ng)) := ⟨d0, d1⟩
  have HW2 : Hid _ := hW2
  have HW3 : Hid _ := hW3
  rw [hW2] at v20 v21 v10 v11
  clear hW3 hW2 d0 d1
  go_wp2_with fail
  obtain ⟨d0, d1⟩ := HD.out
  rw [← HW2.out, ← HW3.out]
  exact bodyPost_ret (v := .agg #[Value.slice (some ⟨w.heap.size + 1 + 1 + 1, 0, none⟩) np np, Value.slice (some ⟨N2, 0, none⟩) ng ng]) (by simp [results, Tryz.results24, go_sem, d0, d1]) rfl ⟨_, _, rfl, HF.out.1, by omega, HF.out.2⟩
end Go.Proofs.YtjhbplgppakhoaaGreatDoor

