/- Texts of MarkG, Pure, Rd1, Str0. Own work of the verifier. -/
import Derived.Test.YtaakpdakeolgeaaGreatUqab
import Derived.WalkKit
import Derived.Laws.BytesArg
import Derived.Lib.SlBytesConst
import Derived.Lib.ConvBytes
import Derived.WideShapes
namespace Go.Proofs.YtaakpdakeolgeaaGreat
open Go Go.RowKit
set_option linter.unusedVariables false
structure Keep (B U : Nat) (w w' : World) : Prop where
  os : w'.os = w.os
  tape : w'.tape = w.tape
  output : w'.output = w.output
  size : w.heap.size ≤ w'.heap.size
  block : ∀ k, k < w.heap.size → (k < B ∨ U ≤ k) → w'.heap[k]? = w.heap[k]?
theorem Keep.refl (B U : Nat) (w : World) : Keep B U w w := ⟨rfl, rfl, rfl, Nat.le_refl _, fun _ _ _ => rfl⟩
theorem Keep.trans {B U : Nat} {a b c : World} (h : Keep B U a b) (k : Keep B U b c) : Keep B U a c :=
  ⟨k.os.trans h.os, k.tape.trans h.tape, k.output.trans h.output, Nat.le_trans h.size k.size, fun i hi hp => (k.block i (Nat.lt_of_lt_of_le hi h.size) hp).trans (h.block i hi hp)⟩
theorem Keep.below {B U : Nat} {w w' : World} (h : Keep B U w w') {A : Nat} (hA : A ≤ B) (hs : A ≤ w.heap.size) : Below A w w' := ⟨h.os, h.tape, h.output, h.size, fun k hk => h.block k (by omega) (.inl (by omega))⟩
theorem Keep.of_grown {B U : Nat} {w w' : World} {row : Option Nat} (h : w.grownBy w' row) (hr : ∀ k, row = some k → B ≤ k ∧ k < U) : Keep B U w w' :=
  ⟨h.os, h.tape, h.output, h.size, fun k hk hp => h.block k hk (fun e => by have := hr k e.symm; omega)⟩
theorem tb_of {g n : Nat} (h : 0 < n) : tb (some ⟨g, 0, none⟩) n = some g := by unfold tb; rw [if_neg (by omega)]; rfl
theorem tb_some {p : Option Addr} {n k : Nat} (h : tb p n = some k) : 0 < n ∧ ∃ a, p = some a ∧ a.block = k := by
  unfold tb at h
  split at h
  · cases h
  · cases p with
    | none => cases h
    | some a => exact ⟨by omega, a, rfl, Option.some.inj h⟩
theorem OwnT.tb {w : World} {B : Nat} {p : Option Addr} {n c : Nat} {ys : List Int} (h : OwnT w B p n c ys) {k : Nat} (e : tb p n = some k) : p = some ⟨k, 0, none⟩ ∧ B ≤ k ∧ k < w.heap.size := by
  obtain ⟨hn, a, rfl, rfl⟩ := tb_some e
  obtain ⟨g, e', h1, h2, _⟩ := h.2 hn
  obtain rfl := Option.some.inj e'
  exact ⟨rfl, h1, h2⟩
theorem cs_set_at (cs : List Cel) (i j : Nat) (r : Cel) (h : i < cs.length) : (cs.set i r).getD j Cel.none = if j = i then r else cs.getD j Cel.none := by
  simp only [List.getD, List.getElem?_set]
  by_cases e : j = i
  · subst e; simp [h]
  · have : ¬ i = j := fun x => e x.symm
    simp [this, e]
end Go.Proofs.YtaakpdakeolgeaaGreat

namespace Go.Proofs.YtaakpdakeolgeaaGreat
open Go
def Bytes (xs : List Int) : Prop := ∀ x ∈ xs, 0 ≤ x ∧ x < 256
theorem Bytes.at {xs : List Int} (h : Bytes xs) (i : Nat) : 0 ≤ xs.getD i 0 ∧ xs.getD i 0 < 256 := by
  by_cases hi : i < xs.length
  · have := h xs[i] (List.getElem_mem hi)
    simpa [List.getD, hi] using this
  · simp [List.getD, List.getElem?_eq_none (Nat.le_of_not_lt hi)]
theorem Bytes.at' {xs : List Int} (h : Bytes xs) (i : Nat) : 0 ≤ xs[i]?.getD 0 ∧ xs[i]?.getD 0 < 256 := by
  simpa [List.getD] using h.at i
theorem Bytes.take {xs : List Int} (h : Bytes xs) (n : Nat) : Bytes (xs.take n) := fun x hx => h x (List.mem_of_mem_take hx)
theorem Bytes.drop {xs : List Int} (h : Bytes xs) (n : Nat) : Bytes (xs.drop n) := fun x hx => h x (List.mem_of_mem_drop hx)
end Go.Proofs.YtaakpdakeolgeaaGreat

namespace Go.Proofs.YtaakpdakeolgeaaGreat
open Go Go.RowKit
set_option linter.unusedVariables false
def rdI (xs : List Int) (i : Nat) : Int := if i < xs.length then xs.getD i 0 else 0
def rdN (xs : List Int) (i : Nat) : Nat := if i < xs.length then i + 1 else i
theorem rdI_rng {xs : List Int} (hb : Bytes xs) (i : Nat) : 0 ≤ rdI xs i ∧ rdI xs i < 256 := by
  unfold rdI; split
  · have := hb.at i; omega
  · omega
theorem rdN_le {xs : List Int} {i : Nat} (h : i ≤ xs.length) : rdN xs i ≤ xs.length := by unfold rdN; split <;> omega
structure RdIn (w : World) (R : Nat) (p : Option Addr) (c : Nat) (xs : List Int) (i : Nat) : Prop where
  at0 : w.cell? ⟨R, 0, none⟩ = some (.slice p xs.length c)
  at1 : w.cell? ⟨R, 1, none⟩ = some (.int .i64 i)
  fz : w.frozen? ⟨R, 1, none⟩ = false
  lt : R < w.heap.size
  bytes : Bytes xs
  small : xs.length ≤ 500
  le : i ≤ xs.length
  text : BIn w p xs
  low : 0 < xs.length → ∀ a, p = some a → a.block < R
theorem RdIn.keep {w w' : World} {R : Nat} {p : Option Addr} {c : Nat} {xs : List Int} {i B U : Nat} (h : RdIn w R p c xs i) (k : Keep B U w w') (hR : R < B) : RdIn w' R p c xs i := by
  have hb : Below (R + 1) w w' := k.below hR (by have := h.lt; omega)
  refine ⟨(hb.cell (p := ⟨R, 0, none⟩) (Nat.lt_succ_self _)).trans h.at0, (hb.cell (p := ⟨R, 1, none⟩) (Nat.lt_succ_self _)).trans h.at1, (hb.frozen (p := ⟨R, 1, none⟩) (Nat.lt_succ_self _)).trans h.fz, Nat.lt_of_lt_of_le h.lt hb.size, h.bytes, h.small, h.le, ?_, h.low⟩
  intro hn
  obtain ⟨b, o, rfl, hc⟩ := h.text hn
  exact ⟨b, o, rfl, fun j hj => (hb.cell (p := ⟨b, o + j, none⟩) (Nat.lt_succ_of_lt (h.low hn ⟨b, o, none⟩ rfl))).trans (hc j hj)⟩
theorem RdIn.below {w w' : World} {R : Nat} {p : Option Addr} {c : Nat} {xs : List Int} {i B : Nat} (h : RdIn w R p c xs i) (k : Below B w w') (hR : R < B) : RdIn w' R p c xs i :=
  h.keep (B := B) (U := w.heap.size) ⟨k.os, k.tape, k.output, k.size, fun j hj hp => k.block j (by omega)⟩ hR
theorem next_any (R c i : Nat) (p : Option Addr) (xs : List Int) (w : World) (h : RdIn w R p c xs i) :
    Calls Tryz.prog 15 #[.pointer (some ⟨R, 0, none⟩)] w fun e w' => e = .returned (.int .i64 (rdI xs i)) ∧ Keep R (R + 1) w w' ∧ w'.heap.size = w.heap.size ∧ RdIn w' R p c xs (rdN xs i) := by
  have h0 := h.at0
  have h1 := h.at1
  have hf := h.fz
  have hs := h.small
  have HH : Hid (RdIn w R p c xs i) := h
  by_cases hlt : i < xs.length
  · rw [show rdI xs i = xs.getD i 0 by unfold rdI; rw [if_pos hlt], show rdN xs i = i + 1 by unfold rdN; rw [if_pos hlt]]
    obtain ⟨b, o, rfl, hc⟩ := h.text (by omega)
    have hx := hc i hlt
    have hr := h.bytes.at i
    obtain ⟨x, ex⟩ : ∃ x, x = xs.getD i 0 := ⟨_, rfl⟩
    rw [← ex] at hx hr ⊢
    obtain ⟨n, en⟩ : ∃ n, n = xs.length := ⟨_, rfl⟩
    rw [← en] at h0 hs hlt
    have HE : Hid (n = xs.length) := en
    have FIN : Hid (∀ k, Keep R (R + 1) w ((w.drewN k).setCell ⟨R, 1, none⟩ (.int .i64 (i + 1 : Nat))) ∧ ((w.drewN k).setCell ⟨R, 1, none⟩ (.int .i64 (i + 1 : Nat))).heap.size = w.heap.size ∧ RdIn ((w.drewN k).setCell ⟨R, 1, none⟩ (.int .i64 (i + 1 : Nat))) R (some ⟨b, o, none⟩) c xs (i + 1)) := by
      intro k
      have hk : Keep R (R + 1) w ((w.drewN k).setCell ⟨R, 1, none⟩ (.int .i64 (i + 1 : Nat))) := ⟨rfl, rfl, rfl, by simp, fun j _ hp => by rw [heap_setCell_other _ _ _ _ (by simp; omega)]; rfl⟩
      refine ⟨hk, by simp, ?_⟩
      refine ⟨?_, World.cell?_setCell_same' _ _ _ (by show (w.cell? _).isSome = true; rw [h1]; rfl), ?_, by have := HH.out.lt; simpa using this, HH.out.bytes, HH.out.small, by omega, ?_, HH.out.low⟩
      · rw [World.cell?_setCell_other _ _ _ _ (by intro e; simp only [Addr.mk.injEq] at e; omega)]; exact HH.out.at0
      · rw [World.frozen?_setCell]; exact hf
      · intro hn
        refine ⟨b, o, rfl, fun j hj => ?_⟩
        rw [World.cell?_setCell_other _ _ _ _ (by intro e; simp only [Addr.mk.injEq] at e; have := HH.out.low hn _ rfl; simp only at this; omega)]
        exact hc j hj
    clear ex hc h en
    go_enter Tryz.func15, Tryz.ntmps15
    go_wp2
    go_region
    all_goals go_wp2
    go_region
    all_goals go_wp2
    all_goals go_ret
    exact ⟨rfl, FIN.out 2⟩
  · rw [show rdI xs i = 0 by unfold rdI; rw [if_neg hlt], show rdN xs i = i by unfold rdN; rw [if_neg hlt]]
    have hi : i = xs.length := by have := h.le; omega
    obtain ⟨n, en⟩ : ∃ n, n = xs.length := ⟨_, rfl⟩
    rw [← en] at h0 hs hi
    subst hi
    have HE : Hid (i = xs.length) := en
    clear h en
    go_enter Tryz.func15, Tryz.ntmps15
    go_wp2
    go_region
    all_goals go_wp2
    all_goals go_ret
    exact ⟨rfl, Keep.of_grown (row := none) ⟨rfl, rfl, rfl, Nat.le_refl _, fun _ _ _ => rfl⟩ (by intro k e; cases e), rfl, HH.out.below (B := w.heap.size) (below_drewN (Below.refl _ _) 1) HH.out.lt⟩
theorem take_bin {w : World} {p : Option Addr} {xs : List Int} (h : BIn w p xs) (n : Nat) : BIn w p (xs.take n) := by
  intro hn
  rw [List.length_take] at hn
  obtain ⟨b, o, rfl, hc⟩ := h (by omega)
  refine ⟨b, o, rfl, fun i hi => ?_⟩
  rw [List.length_take] at hi
  rw [hc i (by omega), List.getD, List.getD, List.getElem?_take_of_lt (by omega)]
theorem l4open_any (p : Option Addr) (c : Nat) (xs : List Int) (w : World) (hb : Bytes xs) (hn : xs.length ≤ 1048576) (hc : xs.length ≤ c) (hx : BIn w p xs) :
    Calls Tryz.prog 14 #[.slice p xs.length c] w fun e w' => e = .returned (.pointer (some ⟨w.heap.size, 0, none⟩)) ∧ Below w.heap.size w w' ∧ w'.heap.size = w.heap.size + 1 ∧ RdIn w' w.heap.size p c (xs.take 500) 0 := by
  have R : ∀ m : Nat, m = (xs.take 500).length → Hid (Below w.heap.size w (w.alloc (Obj.cells #[.slice p m c, .int .i64 0] 79)) ∧ (w.alloc (Obj.cells #[.slice p m c, .int .i64 0] 79)).heap.size = w.heap.size + 1 ∧ RdIn (w.alloc (Obj.cells #[.slice p m c, .int .i64 0] 79)) w.heap.size p c (xs.take 500) 0) := by
    intro m hm
    have hbl := (Below.refl w.heap.size w).alloc (Nat.le_refl _) (Obj.cells #[.slice p m c, .int .i64 0] 79)
    have hnew := heap_alloc_new w (Obj.cells #[.slice p m c, .int .i64 0] 79)
    refine ⟨hbl, by simp, ?_⟩
    refine ⟨?_, ?_, ?_, by simp, fun x hx => hb x (List.mem_of_mem_take hx), by simp; omega, by omega, ?_, fun h0 a ea => ?_⟩
    · rw [← hm]; unfold World.cell?; simp only [hnew]; rfl
    · unfold World.cell?; simp only [hnew]; rfl
    · exact frozen_of_row _ _ _ _ _ hnew
    · intro h0
      obtain ⟨b, o, rfl, hh⟩ := take_bin hx 500 h0
      exact ⟨b, o, rfl, fun j hj => (hbl.cell (p := ⟨b, o + j, none⟩) (World.block_lt_of_cell? _ _ (hh j hj))).trans (hh j hj)⟩
    · obtain ⟨b, o, rfl, hh⟩ := take_bin hx 500 h0
      obtain rfl := Option.some.inj ea
      exact World.block_lt_of_cell? _ _ (hh 0 h0)
  by_cases h5 : 500 < xs.length
  · have RR := R 500 (by rw [List.length_take]; omega)
    clear R hx hb
    obtain ⟨n, en⟩ : ∃ n, n = xs.length := ⟨_, rfl⟩
    rw [← en] at hn hc h5 ⊢
    have HE : Hid (n = xs.length) := en
    clear en
    go_enter Tryz.func14, Tryz.ntmps14
    go_wp2
    go_ret
    exact ⟨rfl, RR.out⟩
  · have RR := R xs.length (by rw [List.length_take]; omega)
    clear R hx hb
    obtain ⟨n, en⟩ : ∃ n, n = xs.length := ⟨_, rfl⟩
    rw [← en] at hn hc h5 RR ⊢
    have HE : Hid (n = xs.length) := en
    clear en
    go_enter Tryz.func14, Tryz.ntmps14
    go_wp2
    go_ret
    exact ⟨rfl, RR.out⟩
end Go.Proofs.YtaakpdakeolgeaaGreat

namespace Go.Proofs.YtaakpdakeolgeaaGreat
open Go Go.RowKit
set_option linter.unusedVariables false
def Byte (xs : List Int) : Prop := ∀ x ∈ xs, 0 ≤ x ∧ x < 256
theorem u8_of {x : Int} (h0 : 0 ≤ x) (h1 : x < 256) : ((UInt8.ofNat x.toNat).toNat : Int) = x := by
  simp only [UInt8.toNat_ofNat']; omega
theorem str_list {xs : List Int} : (strOfNums xs).toList = xs.map fun n => UInt8.ofNat n.toNat := by
  rw [ByteArray.toList_eq]; rfl
theorem map_back : ∀ {xs : List Int}, Byte xs → (xs.map fun n => UInt8.ofNat n.toNat).map (fun u => (u.toNat : Int)) = xs
  | [], _ => rfl
  | x :: r, h => by
    have hx := h x (List.mem_cons_self ..)
    simp only [List.map_cons]
    rw [u8_of hx.1 hx.2, map_back (fun y hy => h y (List.mem_cons_of_mem _ hy))]
theorem map_forth (l : List UInt8) : ((l.map (fun u => (u.toNat : Int))).map fun n => UInt8.ofNat n.toNat) = l := by
  induction l with
  | nil => rfl
  | cons a r ih => simp only [List.map_cons, ih]; simp
theorem str_eq {xs : List Int} (hb : Byte xs) (l : List UInt8) : (strOfNums xs).toList = l ↔ xs = l.map (fun u => (u.toNat : Int)) := by
  rw [str_list]
  constructor
  · intro h; rw [← h, map_back hb]
  · intro h; rw [h, map_forth]
theorem str_beq {xs : List Int} (hb : Byte xs) (l : List UInt8) : (strOfNums xs == (⟨l.toArray⟩ : ByteArray)) = decide (xs = l.map (fun u => (u.toNat : Int))) := by
  have e : (strOfNums xs == (⟨l.toArray⟩ : ByteArray)) = ((strOfNums xs).data == l.toArray) := rfl
  rw [e, Bool.eq_iff_iff, beq_iff_eq, decide_eq_true_iff, ← str_eq hb, ByteArray.toList_eq]
  constructor
  · intro h; rw [h]
  · intro h; rw [← h]
theorem conv_str {w : World} {p : Option Addr} {xs : List Int} (h : BIn w p xs) (m cap : Nat) (hm : m = xs.length) (dst : TypeId) (hd : Tryz.prog.underlying dst = some .string) :
    (convert 22 dst (.slice p m cap)).run Tryz.prog w = .ok (.string (strOfNums xs)) w := by
  subst hm
  by_cases hn : 0 < xs.length
  · obtain ⟨b, o, rfl, hc⟩ := h hn
    exact run_convert_bytes_arg w 22 5 Tryz.underlying22 Tryz.underlying5 b o xs.length cap xs rfl hc dst hd
  · obtain rfl : xs = [] := by cases xs with | nil => rfl | cons a r => simp at hn
    rw [run_convert_bytes_string w 22 dst 5 _ _ cap Tryz.underlying22 Tryz.underlying5 hd]
    cases p with
    | none => simp [Conv.bytesToString, strOfNums]; rfl
    | some a => simp [Conv.bytesToString, strOfNums]; rfl
theorem conv_bytes (w : World) (xs : List Int) (hx : Byte xs) (src : TypeId) (hsrc : Tryz.prog.underlying src = some .string) :
    ∃ w' cap, (convert src 22 (.string (strOfNums xs))).run Tryz.prog w = .ok (.slice (some ⟨w.heap.size, 0, none⟩) xs.length cap) w' ∧ Below w.heap.size w w' ∧ OwnT w' w.heap.size (some ⟨w.heap.size, 0, none⟩) xs.length cap xs := by
  refine ⟨Lib.bytesWorld w 5 (strOfNums xs), grownCap w (strOfNums xs).size 0 5, ?_, ?_, rfl, fun hn => ⟨w.heap.size, rfl, Nat.le_refl _, ?_, fun i hi => ⟨?_, ?_⟩⟩⟩
  · rw [Lib.run_convert_string_bytes w src 22 5 (strOfNums xs) hsrc Tryz.underlying22 Tryz.underlying5, strOfNums_size]
  · exact ⟨rfl, rfl, rfl, by rw [Lib.bytesWorld_size]; omega, fun k hk => Lib.bytesWorld_at_old w 5 _ k hk⟩
  · rw [Lib.bytesWorld_size]; omega
  · rw [Lib.bytesWorld_cell w 5 _ i (by rw [strOfNums_size]; exact hi), strOfNums_data]
    have hb := hx (xs.getD i 0) (by simp [List.getD, hi])
    have e : (((xs.map fun n => UInt8.ofNat n.toNat).getD i 0).toNat : Int) = xs.getD i 0 := by
      simp only [List.getD, List.getElem?_map, List.getElem?_eq_getElem hi, Option.map_some, Option.getD_some] at hb ⊢
      simp only [UInt8.toNat_ofNat']; omega
    rw [e]
  · have hc : i < (Lib.bytesCells w 5 (strOfNums xs)).size := by
      have : (strOfNums xs).data.size = xs.length := strOfNums_size xs
      simp only [Lib.bytesCells, Array.size_append, Array.size_map, this]; omega
    simp only [World.frozen?, Lib.bytesWorld_at_new]
    simp; omega
theorem drop_at (cs : List Cel) (k : Nat) (h : k < cs.length) : cs.drop k = cs.getD k Cel.none :: cs.drop (k + 1) := by
  rw [List.drop_eq_getElem_cons h]
  congr 1
  rw [List.getD, List.getElem?_eq_getElem h]; rfl
theorem ba_ext {a b : ByteArray} (h : a.toList = b.toList) : a = b := by
  rw [ByteArray.toList_eq, ByteArray.toList_eq] at h
  cases a; cases b; simpa using h
end Go.Proofs.YtaakpdakeolgeaaGreat

