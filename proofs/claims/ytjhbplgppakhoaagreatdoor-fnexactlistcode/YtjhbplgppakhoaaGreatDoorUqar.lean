/- Texts of WtL, WiF, WiG, WiH. Own work of the verifier. -/
import Derived.Test.YtjhbplgppakhoaaGreatDoorUqaq
import Derived.Test.YtjhbplgppakhoaaGreatDoorUqag
import Derived.Test.YtjhbplgppakhoaaGreatDoorUqaj
import Derived.Test.YtjhbplgppakhoaaGreatDoorItoaL
import Derived.Shelf.SlSorted.Search
import Derived.Test.YtjhbplgppakhoaaGreatDoorUqan
import Derived.Test.YtjhbplgppakhoaaGreatDoorUqad
namespace Go.Proofs.YtjhbplgppakhoaaGreatDoor
open Go Go.RowKit
set_option linter.unusedVariables false
theorem byte_app {a b : List Int} (ha : Byte a) (hb : Byte b) : Byte (a ++ b) := fun x hx => (List.mem_append.1 hx).elim (ha x) (hb x)
theorem byte_cons {x : Int} {a : List Int} (h0 : 0 ≤ x ∧ x < 256) (ha : Byte a) : Byte (x :: a) := fun y hy => by
  rcases List.mem_cons.1 hy with rfl | hy
  · exact h0
  · exact ha y hy
theorem byte_nil : Byte [] := fun x hx => by cases hx
theorem byte_one {x : Int} (h0 : 0 ≤ x) (h1 : x < 256) : Byte [x] := byte_cons ⟨h0, h1⟩ byte_nil
theorem dec_byte : ∀ (f : Nat) (v : Int), Byte (decF f v)
  | 0, v => byte_nil
  | f + 1, v => by
    have hm1 : -10 < v.tmod 10 := Int.lt_tmod_of_pos v (by decide)
    have hm2 : v.tmod 10 < 10 := Int.tmod_lt_of_pos v (by decide)
    unfold decF
    split
    · exact byte_cons ⟨by decide, by decide⟩ (byte_one (by omega) (by omega))
    · split
      · exact byte_app (dec_byte f _) (byte_one (by omega) (by omega))
      · split
        · exact byte_one (by omega) (by omega)
        · exact byte_app (dec_byte f _) (byte_one (by omega) (by omega))
theorem hexD_rng (k : Int) : 0 ≤ hexD k ∧ hexD k < 256 := by
  unfold hexD
  have h : ∀ x ∈ hexL, 0 ≤ x ∧ x < 256 := by decide
  by_cases hk : k.toNat < hexL.length
  · exact h _ (by simp [List.getD, hk])
  · simp [List.getD, hk]
theorem q1_byte {c : Int} (h : 0 ≤ c ∧ c < 256) : Byte (q1 c) := by
  have h1 := hexD_rng (c / 16)
  have h2 := hexD_rng (c % 16)
  unfold q1
  split
  · exact byte_cons ⟨by decide, by decide⟩ (byte_one h.1 h.2)
  · split
    · exact byte_cons ⟨by decide, by decide⟩ (byte_one (by decide) (by decide))
    · split
      · exact byte_cons ⟨by decide, by decide⟩ (byte_one (by decide) (by decide))
      · split
        · exact byte_cons ⟨by decide, by decide⟩ (byte_cons ⟨by decide, by decide⟩ (byte_cons h1 (byte_cons h2 (byte_one (by decide) (by decide)))))
        · exact byte_one h.1 h.2
theorem quote_byte {xs : List Int} (h : Byte xs) : Byte (quoteB xs) := by
  unfold quoteB
  split
  · exact byte_nil
  · split
    · exact h
    · unfold quotedB
      refine byte_cons ⟨by decide, by decide⟩ (byte_app (fun x hx => ?_) (byte_one (by decide) (by decide)))
      obtain ⟨c, hc, hx⟩ := List.mem_flatMap.1 hx
      exact q1_byte (h c hc) x hx
theorem quote_lenW (xs : List Int) : (quoteB xs).length ≤ 601 := by
  unfold quoteB
  split
  · simp
  · rename_i h
    split
    · omega
    · have := q1s_bound xs xs.length (Nat.le_refl _) (by omega)
      rw [List.take_length] at this
      unfold quotedB
      simp only [List.length_cons, List.length_append, List.length_nil] at this ⊢
      omega
theorem atomW_byte (q : Bool) {xs : List Int} (h : Byte xs) : Byte (atomW q xs) := by
  unfold atomW
  split
  · exact quote_byte h
  · exact h
theorem atomW_len (q : Bool) {xs : List Int} (h : xs.length ≤ 100) : (atomW q xs).length ≤ 601 := by
  unfold atomW
  split
  · exact quote_lenW xs
  · omega
theorem trs_sum : ∀ F : Fo, ((trs F).map fun k => (itC k).length).sum = F.cells.length
  | .nil => rfl
  | .node c k r => by
    have := trs_sum r
    simp only [trs, List.map_cons, List.sum_cons, itC, Fo.cells, List.length_cons, List.length_append] at this ⊢
    omega
theorem join_len : ∀ L : List (List Int), (joinW L).length ≤ (L.map List.length).sum + L.length
  | [] => by simp [joinW]
  | [a] => by simp [joinW]
  | a :: b :: r => by
    have := join_len (b :: r)
    simp only [joinW, List.length_append, List.length_cons, List.map_cons, List.sum_cons] at this ⊢
    omega
theorem join_byte : ∀ L : List (List Int), (∀ a ∈ L, Byte a) → Byte (joinW L)
  | [], _ => byte_nil
  | [a], h => h a (by simp)
  | a :: b :: r, h => byte_app (h a (by simp)) (byte_cons ⟨by decide, by decide⟩ (join_byte (b :: r) (fun x hx => h x (List.mem_cons_of_mem _ hx))))
theorem sum_good (g : Tr → List Int) : ∀ L : List Tr, (∀ k ∈ L, (g k).length ≤ 1100000 * (itC k).length) → ((L.map g).map List.length).sum ≤ 1100000 * (L.map fun k => (itC k).length).sum
  | [], _ => by simp
  | a :: r, h => by
    have h1 := h a (by simp)
    have h2 := sum_good g r (fun k hk => h k (List.mem_cons_of_mem _ hk))
    simp only [List.map_cons, List.sum_cons]
    omega
theorem len_sum : ∀ L : List Tr, L.length ≤ (L.map fun k => (itC k).length).sum
  | [] => by simp
  | a :: r => by
    have := len_sum r
    simp only [List.length_cons, List.map_cons, List.sum_cons, itC] at this ⊢
    omega
theorem fIdx_hit (s : List UInt8) (pf : Bool) : ∀ (T : List Cel) (k j : Nat), fIdx s pf k T = ((k + j : Nat) : Int) → j < T.length → hitB s pf (T.getD j Cel.none) = true
  | [], k, j, h, hj => by simp at hj
  | x :: r, k, j, h, hj => by
    unfold fIdx at h
    split at h
    · rename_i hh
      obtain rfl : j = 0 := by omega
      simpa using hh
    · cases j with
      | zero =>
        rcases fIdx_rng s pf r (k + 1) with h9 | ⟨i, _, h9⟩
        · rw [h9] at h; omega
        · rw [h9] at h; omega
      | succ j =>
        have := fIdx_hit s pf r (k + 1) j (by rw [h]; congr 1; omega) (by simpa using hj)
        simpa using this
theorem find_hit {T : List Cel} {xs : List Int} {pf : Bool} {j : Nat} (hj : j < T.length) (h : findW T xs pf = (j : Int)) : preB (opW T (j : Int)).2.1 = pf := by
  have := fIdx_hit (strOfNums xs).toList pf T 0 j (by rw [Nat.zero_add]; exact h) hj
  simp only [hitB, Bool.and_eq_true, beq_iff_eq] at this
  have e : opW T (j : Int) = T.getD j Cel.none := by simp [opW]
  rw [e]
  exact this.2
theorem top_facts {T : List Cel} {c : Cel} (h : 0 ≤ topI T c) : c.1 = 3 ∧ c ≠ dot ∧ c ≠ curly ∧ ∃ j : Nat, j < T.length ∧ topI T c = (j : Int) ∧ ((c.2.1 = 2 ∧ preB (opW T (j : Int)).2.1 = false ∧ infB (opW T (j : Int)).2.1 = true) ∨ (c.2.1 ≠ 2 ∧ c.2.1 ≤ 2 ∧ (preB (opW T (j : Int)).2.1 = true ∨ (preB (opW T (j : Int)).2.1 = false ∧ infB (opW T (j : Int)).2.1 = false)))) := by
  unfold topI at h ⊢
  by_cases h1 : c.1 ≠ 3 ∨ c = dot ∨ c = curly ∨ 2 < c.2.1
  · rw [if_pos h1] at h; exact absurd h (by decide)
  · rw [if_neg h1] at h ⊢
    have hc3 : c.1 = 3 := Classical.byContradiction fun hh => h1 (.inl hh)
    refine ⟨hc3, fun hh => h1 (.inr (.inl hh)), fun hh => h1 (.inr (.inr (.inl hh))), ?_⟩
    have hle : c.2.1 ≤ 2 := by
      rcases Int.lt_or_le 2 c.2.1 with hh | hh
      · exact absurd (.inr (.inr (.inr hh))) h1
      · exact hh
    by_cases h2 : c.2.1 = 2
    · rw [if_pos h2] at h ⊢
      rcases find_rng T c.2.2 false with hf | ⟨j, hj, hf⟩
      · rw [hf] at h; split at h <;> exact absurd h (by decide)
      · by_cases hi : infB (opW T (findW T c.2.2 false)).2.1 = false
        · rw [if_pos ⟨by rw [hf]; omega, hi⟩] at h; exact absurd h (by decide)
        · rw [if_neg (fun hh => hi hh.2)]
          refine ⟨j, hj, hf, .inl ⟨h2, find_hit hj hf, ?_⟩⟩
          rw [hf] at hi
          simpa using hi
    · rw [if_neg h2] at h ⊢
      rcases find_rng T c.2.2 true with hf | ⟨j, hj, hf⟩
      · rw [if_neg (by rw [hf]; decide)] at h ⊢
        rcases find_rng T c.2.2 false with hg | ⟨j, hj, hg⟩
        · rw [hg] at h; split at h <;> exact absurd h (by decide)
        · by_cases hi : infB (opW T (findW T c.2.2 false)).2.1 = true
          · rw [if_pos ⟨by rw [hg]; omega, hi⟩] at h; exact absurd h (by decide)
          · rw [if_neg (fun hh => hi hh.2)]
            refine ⟨j, hj, hg, .inr ⟨h2, hle, .inr ⟨find_hit hj hg, ?_⟩⟩⟩
            rw [hg] at hi
            simpa using hi
      · rw [if_pos (by rw [hf]; omega)]
        exact ⟨j, hj, hf, .inr ⟨h2, hle, .inl (find_hit hj hf)⟩⟩
end Go.Proofs.YtjhbplgppakhoaaGreatDoor

namespace Go.Proofs.YtjhbplgppakhoaaGreatDoor
open Go Go.RowKit Go.Maps
set_option linter.unusedVariables false
theorem fIdx_two (s : List UInt8) (pf : Bool) : ∀ (T : List Cel) (k : Nat), (fIdx s pf k T = -1 ∧ ∀ x ∈ T, hitB s pf x = false) ∨ ∃ i, i < T.length ∧ fIdx s pf k T = ((k + i : Nat) : Int) ∧ hitB s pf (T.getD i Cel.none) = true
  | [], k => .inl ⟨rfl, fun x h => by cases h⟩
  | x :: r, k => by
    unfold fIdx
    cases hx : hitB s pf x with
    | true => exact .inr ⟨0, by simp, by simp, by simpa using hx⟩
    | false =>
      rcases fIdx_two s pf r (k + 1) with ⟨h1, h2⟩ | ⟨i, h1, h2, h3⟩
      · exact .inl ⟨by simpa using h1, fun y hy => by
          rcases List.mem_cons.1 hy with rfl | hy
          · exact hx
          · exact h2 y hy⟩
      · exact .inr ⟨i + 1, by simpa using h1, by rw [if_neg (by simp), h2]; congr 1; omega, by simpa using h3⟩
def sortI (pf : Bool) : Int := if pf then 0 else 1
theorem srt_sort (t : Int) : srt t = sortI (preB t) := by unfold srt sortI; rfl
theorem hit_key {xs : List Int} {pf : Bool} {x : Cel} : hitB (strOfNums xs).toList pf x = true ↔ kO x = (strOfNums xs, sortI pf) := by
  unfold hitB kO
  rw [Bool.and_eq_true, beq_iff_eq, beq_iff_eq, Prod.mk.injEq, srt_sort]
  constructor
  · rintro ⟨h1, h2⟩
    exact ⟨ba_ext h1, by rw [h2]⟩
  · rintro ⟨h1, h2⟩
    refine ⟨by rw [h1], ?_⟩
    revert h2
    unfold sortI
    cases preB x.2.1 <;> cases pf <;> simp
theorem zeroOpW (w : World) : (zeroValue 119).run Tryz.prog w = .ok (.agg #[.string ⟨#[]⟩, .int .i64 0, .int .i64 0]) w := by kernel_rfl
theorem OpMap.look {w : World} {b N : Nat} {T : List Cel} (h : OpMap w b N T) (xs : List Int) (hl : xs.length ≤ 1000000) (pf : Bool) :
    ∃ so po to, (Instr.lookup 75 (.map (some b)) (.agg #[.string (strOfNums xs), .int .i64 (sortI pf)]) true).run Tryz.prog w = .ok (.tuple #[.agg #[.string so, .int .i64 po, .int .i64 to], .bool (decide (0 ≤ findW T xs pf))]) w ∧
      (0 ≤ findW T xs pf → (Value.agg #[.string so, .int .i64 po, .int .i64 to]) = encV (opW T (findW T xs pf)) ∧ opW T (findW T xs pf) ∈ T ∧ (opW T (findW T xs pf)).2.2.length = xs.length ∧ strOfNums (opW T (findW T xs pf)).2.2 = strOfNums xs ∧ preB (opW T (findW T xs pf)).2.1 = pf) := by
  obtain ⟨D, hown, hok, hap, hsz, hhas, hat⟩ := h
  have hs : (strOfNums xs).size ≤ 1000000 := by simpa [strOfNums, ByteArray.size] using hl
  have hkey := keyOk (strOfNums xs, sortI pf) hs (by show (0 : Int) ≤ sortI pf; unfold sortI; cases pf <;> decide) (by show sortI pf ≤ (1000000 : Int); unfold sortI; cases pf <;> decide)
  obtain ⟨v, ps, hrun, hv⟩ := hown.look_ok lawOk Tryz.underlying75 (zeroOpW w) (zd := zD) (zp := []) rfl hkey
  obtain ⟨⟨so, po, to⟩, rfl, hy⟩ := opElem_inv hv
  refine ⟨so, po, to, ?_, ?_⟩
  · rw [hrun]
    have e : has D (okk (strOfNums xs, sortI pf)) = decide (0 ≤ findW T xs pf) := by
      rw [Bool.eq_iff_iff, decide_eq_true_iff, hhas _ _ hkey]
      unfold findW
      rcases fIdx_two (strOfNums xs).toList pf T 0 with ⟨h1, h2⟩ | ⟨i, h1, h2, h3⟩
      · rw [h1]
        constructor
        · rintro ⟨c, hc, hk⟩
          have := h2 c hc
          rw [hit_key.2 hk] at this
          cases this
        · intro h; omega
      · rw [h2]
        constructor
        · intro _; omega
        · intro _
          exact ⟨T.getD i Cel.none, by simp [List.getD, h1], hit_key.1 h3⟩
    rw [e]
  · intro hf
    unfold findW at hf ⊢
    rcases fIdx_two (strOfNums xs).toList pf T 0 with ⟨h1, h2⟩ | ⟨i, h1, h2, h3⟩
    · rw [h1] at hf; omega
    · rw [h2]
      have eo : opW T ((0 + i : Nat) : Int) = T.getD i Cel.none := by unfold opW; simp
      rw [eo]
      have hm : T.getD i Cel.none ∈ T := by simp [List.getD, h1]
      have hk := hit_key.1 h3
      have ha := hat _ hm
      rw [hk] at ha
      rw [ha] at hv
      have h4 := h3
      unfold hitB at h4
      rw [Bool.and_eq_true, beq_iff_eq, beq_iff_eq] at h4
      have hs2 : strOfNums (T.getD i Cel.none).2.2 = strOfNums xs := ba_ext h4.1
      refine ⟨opElem_at hv, hm, ?_, hs2, h4.2⟩
      have := congrArg ByteArray.size hs2
      simpa [strOfNums, ByteArray.size] using this
end Go.Proofs.YtjhbplgppakhoaaGreatDoor

namespace Go.Proofs.YtjhbplgppakhoaaGreatDoor
open Go Go.RowKit
set_option linter.unusedVariables false
theorem dig_nat : ∀ (f u : Nat), u < 10 ^ f → decF (f + 1) (u : Int) = (Lib.decDigits u).map fun x => (x.toNat : Int)
  | 0, u, h => by
    have hu : u = 0 := by simp at h; exact h
    subst hu
    rw [Lib.decDigits_one (by decide)]
    rfl
  | f + 1, u, h => by
    conv => lhs; unfold decF
    have h0 : ¬ (u : Int) < 0 := by omega
    rw [if_neg (fun hh => h0 hh.1), if_neg h0]
    by_cases h10 : u < 10
    · rw [if_pos (by omega), Lib.decDigits_one h10]
      simp
      omega
    · have h2 : u / 10 < 10 ^ f := by rw [Nat.pow_succ] at h; exact Nat.div_lt_of_lt_mul (by rw [Nat.mul_comm]; exact h)
      have e1 : (u : Int).tdiv 10 = ((u / 10 : Nat) : Int) := by rw [Int.tdiv_eq_ediv_of_nonneg (by omega)]; omega
      have e2 : (u : Int).tmod 10 = ((u % 10 : Nat) : Int) := by rw [Int.tmod_eq_emod_of_nonneg (by omega)]; omega
      rw [if_neg (by omega), e1, e2, dig_nat f (u / 10) h2]
      conv => rhs; rw [Lib.decDigits, dif_neg h10]
      simp
      omega
theorem dig_neg : ∀ (f u : Nat), 0 < u → u < 10 ^ f → decF (f + 1) (-(u : Int)) = 45 :: (Lib.decDigits u).map fun x => (x.toNat : Int)
  | 0, u, h0, h => by simp at h; omega
  | f + 1, u, h0, h => by
    conv => lhs; unfold decF
    have hn : -(u : Int) < 0 := by omega
    by_cases h10 : u < 10
    · rw [if_pos ⟨hn, by omega⟩, Lib.decDigits_one h10]
      simp
      omega
    · have h2 : u / 10 < 10 ^ f := by rw [Nat.pow_succ] at h; exact Nat.div_lt_of_lt_mul (by rw [Nat.mul_comm]; exact h)
      have e1 : (-(u : Int)).tdiv 10 = -((u / 10 : Nat) : Int) := by rw [Int.neg_tdiv, Int.tdiv_eq_ediv_of_nonneg (by omega)]; omega
      have e2 : (-(u : Int)).tmod 10 = -((u % 10 : Nat) : Int) := by rw [Int.neg_tmod, Int.tmod_eq_emod_of_nonneg (by omega)]; omega
      rw [if_neg (fun hh => by omega), if_pos hn, e1, e2, dig_neg f (u / 10) (by omega) h2]
      conv => rhs; rw [Lib.decDigits, dif_neg h10]
      simp
      omega
theorem itoa_dec (n : Int) (h0 : -1000000000000000 ≤ n) (h1 : n ≤ 1000000000000000) : (⟨(Lib.itoa n).toArray⟩ : ByteArray) = strOfNums (decW n) := by
  have key : decW n = (Lib.itoa n).map fun x => (x.toNat : Int) := by
    unfold decW Lib.itoa
    by_cases h : n < 0
    · rw [if_pos h]
      have := dig_neg 19 n.natAbs (by omega) (by omega)
      rw [show -(n.natAbs : Int) = n by omega] at this
      rw [this]
      rfl
    · rw [if_neg h]
      have := dig_nat 19 n.toNat (by omega)
      rw [show (n.toNat : Int) = n by omega] at this
      rw [this]
  rw [key]
  apply ba_ext
  rw [str_list, ByteArray.toList_eq]
  simp only [List.map_map]
  conv => lhs; rw [← List.map_id (Lib.itoa n)]
  apply List.map_congr_left
  intro x _
  simp
def TabP (w : World) : Prop := Lib.TabIs Tryz.prog w "internal/strconv.uint64pow10" .u64 Lib.pow10Tab
theorem itoaW_any (n : Int) (h0 : -1000000000000000 ≤ n) (h1 : n ≤ 1000000000000000) (w : World) (hP : TabP w) :
    Calls Tryz.prog 71 #[.int .i64 n] w fun e w' => e = .returned (.string (strOfNums (decW n))) ∧ Below w.heap.size w w' := by
  have h := Any.strconv_Itoa Tryz.itoaL n (by omega) (by omega) w hP
  refine (show Calls Tryz.prog 71 #[.int .i64 n] w _ from h).mono ?_
  rintro e w' ⟨rfl, k, os, rfl⟩
  exact ⟨by rw [itoa_dec n h0 h1], below_grown_sl _ _ _ _ (Nat.le_refl _)⟩
theorem convW (w : World) (xs : List Int) (hx : Byte xs) : ∃ w' cap, (convert 9 28 (.string (strOfNums xs))).run Tryz.prog w = .ok (.slice (some ⟨w.heap.size, 0, none⟩) xs.length cap) w' ∧ Below w.heap.size w w' ∧ Row w' w.heap.size xs ∧ xs.length ≤ cap := by
  obtain ⟨w', cap, h1, h2, h3⟩ := conv_bytes w xs hx 9 Tryz.underlying9
  have h4 := Lib.run_convert_string_bytes w 9 28 5 (strOfNums xs) Tryz.underlying9 Tryz.underlying28 Tryz.underlying5
  rw [h1] at h4
  simp only [Result.ok.injEq, Value.slice.injEq, true_and] at h4
  obtain ⟨⟨_, hc⟩, hw⟩ := h4
  have hge := grownCap_ge w (strOfNums xs).size 0 5
  refine ⟨w', cap, h1, h2, ⟨?_, fun i hi => ?_⟩, ?_⟩
  · rw [hw]
    exact (Array.getElem?_eq_some_iff.1 (Lib.bytesWorld_at_new w 5 (strOfNums xs))).1
  · obtain ⟨b, o, e, hcs⟩ := h3.bin (by omega)
    have e1 : b = w.heap.size := (congrArg Addr.block (Option.some.inj e)).symm
    have e2 : o = 0 := (congrArg Addr.off (Option.some.inj e)).symm
    have := hcs i hi
    rw [e1, e2, Nat.zero_add] at this
    exact this
  · rw [strOfNums_size] at hge hc; omega
set_option maxRecDepth 100000 in
theorem atomText_any {W0 : Bas} {w : World} {wb : Nat} {K : WK} {p : Option Addr} {n c : Nat} {R : List Int} {k : Nat} (h : WS W0 w wb K p n c R k) (xs : List Int) (hb : Byte xs) (hl : xs.length ≤ 100) (hT : Tab w) :
    Calls Tryz.prog 72 #[.pointer (some ⟨wb, 0, none⟩), .string (strOfNums xs)] w fun e w' => e = .returned (.string (strOfNums (atomW K.2.2.2.2 xs))) ∧ Below w.heap.size w w' := by
  have c4 := h.c4
  have HQ : Hid (∀ q, q = K.2.2.2.2 → atomW K.2.2.2.2 xs = if q then quoteB xs else xs) := fun q hq => by rw [hq]; rfl
  cases hq : K.2.2.2.2 with
  | false =>
    rw [hq] at c4
    have HA : Hid (atomW false xs = xs) := rfl
    rw [HA.out]
    clear h hb hl hT hq HQ
    generalize strOfNums xs = s
    go_enter Tryz.func72, Tryz.ntmps72
    go_wp2_with fail
    go_ret
    exact ⟨rfl, Below.refl _ _⟩
  | true =>
    rw [hq] at c4
    have HA : Hid (atomW true xs = quoteB xs) := rfl
    rw [HA.out]
    obtain ⟨w1, cap1, hcv, hb1, hrow, hcap⟩ := convW w xs hb
    have HQA := implQuote_any w.heap.size cap1 xs w1 hb (by omega) hcap hrow (hT.below hb1)
    obtain ⟨L, eL⟩ : ∃ L, L = xs.length := ⟨_, rfl⟩
    rw [← eL] at hcv HQA
    have HB1 : Hid (Below w.heap.size w w1) := hb1
    clear h hb hl hT hq HQ hb1 hrow hcap eL
    obtain ⟨s2, es2⟩ : ∃ s2, s2 = strOfNums (quoteB xs) := ⟨_, rfl⟩
    have HES : Hid (s2 = strOfNums (quoteB xs)) := es2
    rw [← es2]
    clear es2
    generalize strOfNums xs = s at hcv ⊢
    go_enter Tryz.func72, Tryz.ntmps72
    go_wp2_with fail
    refine HQA.mono ?_
    rintro e w2 ⟨p2, n2, c2, rfl, ho, hb2⟩
    have hcv2 := conv_str ho.bin n2 c2 ho.1 9 Tryz.underlying9
    have HB2 : Hid (Below w.heap.size w w2) := Below.on HB1.out hb2
    rw [← HES.out] at hcv2
    clear ho hb2 HQA hcv
    go_wp2_with fail
    go_ret
    exact ⟨rfl, HB2.out⟩
end Go.Proofs.YtjhbplgppakhoaaGreatDoor

namespace Go.Proofs.YtjhbplgppakhoaaGreatDoor
open Go Go.RowKit
set_option linter.unusedVariables false
set_option maxRecDepth 100000 in
theorem varText_any {W0 : Bas} {w : World} {wb : Nat} {K : WK} {p : Option Addr} {n c : Nat} {R : List Int} {k : Nat} (h : WS W0 w wb K p n c R k) (N : List (List Int)) (hN : NIn w K.2.1 N) (hNl : K.2.2.1 = N.length) (hN1 : N.length ≤ 1000000000) (hN2 : ∀ i, i < N.length → (N.getD i []).length ≤ 1000000000) (v : Int) (h0 : 0 ≤ v) (h1 : v ≤ 1000000) (hP : TabP w) :
    Calls Tryz.prog 70 #[.pointer (some ⟨wb, 0, none⟩), .int .i64 v] w fun e w' => e = .returned (.string (strOfNums (varW N v))) ∧ Below w.heap.size w w' := by
  have c3 := h.c3
  rw [hNl] at c3
  have HI := itoaW_any v (by omega) (by omega) w hP
  obtain ⟨m, rfl⟩ : ∃ m : Nat, v = m := ⟨v.toNat, by omega⟩
  have hcat : (⟨#[95]⟩ : ByteArray) ++ strOfNums (decW m) = strOfNums (95 :: decW m) := by
    apply ba_ext
    rw [str_list, ByteArray.toList_eq]
    simp [strOfNums]
  have hdl : (strOfNums (decW m)).size ≤ 1000 := by
    have h2 : (decW m).length ≤ 21 := dec_len 20 m
    have h3 : (strOfNums (decW m)).size = (decW m).length := by simp [strOfNums, ByteArray.size]
    omega
  by_cases hlt : m < N.length
  · obtain ⟨b, o, hp, hcs⟩ := hN (by omega)
    obtain ⟨q, qc, d0, d1⟩ := hcs m hlt
    rw [hp] at c3
    by_cases hpos : 0 < (N.getD m []).length
    · have hV : varW N m = N.getD m [] := by unfold varW; rw [if_pos ⟨by omega, by simpa using hpos⟩]; simp
      rw [hV]
      have hcv := conv_str d1 (N.getD m []).length qc rfl 9 Tryz.underlying9
      have hln := hN2 m hlt
      obtain ⟨L, eL⟩ : ∃ L, L = (N.getD m []).length := ⟨_, rfl⟩
      rw [← eL] at d0 hpos hcv hln
      obtain ⟨NL, eNL⟩ : ∃ L, L = N.length := ⟨_, rfl⟩
      rw [← eNL] at c3 hlt hN1
      clear h hN hNl hN2 h0 HI hcat hdl hp hcs d1 hV eL eNL hP
      generalize strOfNums (N.getD m []) = s at hcv ⊢
      have z1 : decide ((m : Int) < (NL : Int)) = true := by simp; omega
      have z2 : decide ((0 : Int) < (L : Int)) = true := by simp; omega
      have z3 : (m : Int) < (NL : Int) := by omega
      have z4 : (0 : Int) < (L : Int) := by omega
      go_enter Tryz.func70, Tryz.ntmps70
      go_wp2_with fail
      go_ret
      exact ⟨rfl, Below.refl _ _⟩
    · have hV : varW N m = 95 :: decW m := by unfold varW; rw [if_neg (fun hh => hpos (by simpa using hh.2))]
      rw [hV, ← hcat]
      have hz0 : (N.getD m []).length = 0 := by omega
      rw [hz0] at d0
      obtain ⟨NL, eNL⟩ : ∃ L, L = N.length := ⟨_, rfl⟩
      rw [← eNL] at c3 hlt hN1
      clear h hN hNl hN2 h0 hcat hp hcs d1 hV eNL hpos hz0 hP
      generalize strOfNums (decW m) = s at HI hdl ⊢
      have z1 : decide ((m : Int) < (NL : Int)) = true := by simp; omega
      have z3 : (m : Int) < (NL : Int) := by omega
      go_enter Tryz.func70, Tryz.ntmps70
      go_wp2_with fail
      refine HI.mono ?_
      rintro e w1 ⟨rfl, hb1⟩
      have HB : Hid (Below w.heap.size w w1) := hb1
      clear hb1 HI
      go_wp2_with fail
      go_ret
      exact ⟨rfl, HB.out⟩
  · have hV : varW N m = 95 :: decW m := by unfold varW; rw [if_neg (fun hh => hlt (by omega))]
    rw [hV, ← hcat]
    obtain ⟨NL, eNL⟩ : ∃ L, L = N.length := ⟨_, rfl⟩
    rw [← eNL] at c3 hlt hN1
    obtain ⟨pn, epn⟩ : ∃ pn, pn = K.2.1 := ⟨_, rfl⟩
    rw [← epn] at c3
    clear h hN hNl hN2 h0 hcat hV eNL hP epn
    generalize strOfNums (decW m) = s at HI hdl ⊢
    have z1 : decide ((m : Int) < (NL : Int)) = false := by simp; omega
    have z3 : ¬ (m : Int) < (NL : Int) := by omega
    go_enter Tryz.func70, Tryz.ntmps70
    go_wp2_with fail
    refine HI.mono ?_
    rintro e w1 ⟨rfl, hb1⟩
    have HB : Hid (Below w.heap.size w w1) := hb1
    clear hb1 HI
    go_wp2_with fail
    go_ret
    exact ⟨rfl, HB.out⟩
end Go.Proofs.YtjhbplgppakhoaaGreatDoor

