/- Texts of Str0, IntG, StH. Own work of the verifier. -/
import Derived.Test.YtedkkghekboahaaUqad
import Derived.Laws.BytesArg
import Derived.Lib.SlBytesConst
import Derived.Lib.ConvBytes
import Derived.WideShapes
import Derived.Deep.AppendLies
import Derived.Test.YtedkkghekboahaaUqae
namespace Go.Proofs.Ytedkkghekboahaa
open Go Go.RowKit
set_option linter.unusedVariables false

def Byte (xs : List Int) : Prop := ∀ x ∈ xs, 0 ≤ x ∧ x < 256
theorem u8_of {x : Int} (h0 : 0 ≤ x) (h1 : x < 256) : ((UInt8.ofNat x.toNat).toNat : Int) = x := by
  simp only [UInt8.toNat_ofNat']; omega
theorem str_list {xs : List Int} : (strOfNums xs).toList = xs.map fun n => UInt8.ofNat n.toNat := by
  rw [ByteArray.toList_eq]; rfl
theorem map_back : ∀ {xs : List Int}, Byte xs → (xs.map fun n => UInt8.ofNat n.toNat).map (fun u => (u.toNat : Int)) = xs
  | [], _ => rfl
  | x :: r, h => by
    have hx := h x (List.mem_cons_self ..)
    simp only [List.map_cons]
    rw [u8_of hx.1 hx.2, map_back (fun y hy => h y (List.mem_cons_of_mem _ hy))]
theorem map_forth (l : List UInt8) : ((l.map (fun u => (u.toNat : Int))).map fun n => UInt8.ofNat n.toNat) = l := by
  induction l with
  | nil => rfl
  | cons a r ih => simp only [List.map_cons, ih]; simp
theorem str_eq {xs : List Int} (hb : Byte xs) (l : List UInt8) : (strOfNums xs).toList = l ↔ xs = l.map (fun u => (u.toNat : Int)) := by
  rw [str_list]
  constructor
  · intro h; rw [← h, map_back hb]
  · intro h; rw [h, map_forth]
theorem str_beq {xs : List Int} (hb : Byte xs) (l : List UInt8) : (strOfNums xs == (⟨l.toArray⟩ : ByteArray)) = decide (xs = l.map (fun u => (u.toNat : Int))) := by
  have e : (strOfNums xs == (⟨l.toArray⟩ : ByteArray)) = ((strOfNums xs).data == l.toArray) := rfl
  rw [e, Bool.eq_iff_iff, beq_iff_eq, decide_eq_true_iff, ← str_eq hb, ByteArray.toList_eq]
  constructor
  · intro h; rw [h]
  · intro h; rw [← h]
theorem conv_str {w : World} {p : Option Addr} {xs : List Int} (h : BIn w p xs) (m cap : Nat) (hm : m = xs.length) (dst : TypeId) (hd : Try.prog.underlying dst = some .string) :
    (convert 26 dst (.slice p m cap)).run Try.prog w = .ok (.string (strOfNums xs)) w := by
  subst hm
  by_cases hn : 0 < xs.length
  · obtain ⟨b, o, rfl, hc⟩ := h hn
    exact run_convert_bytes_arg w 26 5 Try.underlying26 Try.underlying5 b o xs.length cap xs rfl hc dst hd
  · obtain rfl : xs = [] := by cases xs with | nil => rfl | cons a r => simp at hn
    rw [run_convert_bytes_string w 26 dst 5 _ _ cap Try.underlying26 Try.underlying5 hd]
    cases p with
    | none => simp [Conv.bytesToString, strOfNums]; rfl
    | some a => simp [Conv.bytesToString, strOfNums]; rfl
theorem conv_bytes (w : World) (xs : List Int) (hx : Byte xs) (src : TypeId) (hsrc : Try.prog.underlying src = some .string) :
    ∃ w' cap, (convert src 26 (.string (strOfNums xs))).run Try.prog w = .ok (.slice (some ⟨w.heap.size, 0, none⟩) xs.length cap) w' ∧ Below w.heap.size w w' ∧ OwnT w' w.heap.size (some ⟨w.heap.size, 0, none⟩) xs.length cap xs := by
  refine ⟨Lib.bytesWorld w 5 (strOfNums xs), grownCap w (strOfNums xs).size 0 5, ?_, ?_, rfl, fun hn => ⟨w.heap.size, rfl, Nat.le_refl _, ?_, fun i hi => ⟨?_, ?_⟩⟩⟩
  · rw [Lib.run_convert_string_bytes w src 26 5 (strOfNums xs) hsrc Try.underlying26 Try.underlying5, strOfNums_size]
  · exact ⟨rfl, rfl, rfl, by rw [Lib.bytesWorld_size]; omega, fun k hk => Lib.bytesWorld_at_old w 5 _ k hk⟩
  · rw [Lib.bytesWorld_size]; omega
  · rw [Lib.bytesWorld_cell w 5 _ i (by rw [strOfNums_size]; exact hi), strOfNums_data]
    have hb := hx (xs.getD i 0) (by simp [List.getD, hi])
    have e : (((xs.map fun n => UInt8.ofNat n.toNat).getD i 0).toNat : Int) = xs.getD i 0 := by
      simp only [List.getD, List.getElem?_map, List.getElem?_eq_getElem hi, Option.map_some, Option.getD_some] at hb ⊢
      simp only [UInt8.toNat_ofNat']; omega
    rw [e]
  · have hc : i < (Lib.bytesCells w 5 (strOfNums xs)).size := by
      have : (strOfNums xs).data.size = xs.length := strOfNums_size xs
      simp only [Lib.bytesCells, Array.size_append, Array.size_map, this]; omega
    simp only [World.frozen?, Lib.bytesWorld_at_new]
    simp; omega
theorem drop_at (cs : List Cel) (k : Nat) (h : k < cs.length) : cs.drop k = cs.getD k Cel.none :: cs.drop (k + 1) := by
  rw [List.drop_eq_getElem_cons h]
  congr 1
  rw [List.getD, List.getElem?_eq_getElem h]; rfl
theorem bl_irrefl : ∀ a : List UInt8, Op.bytesLess a a = false
  | [] => by simp [Op.bytesLess]
  | a :: r => by simp [Op.bytesLess, bl_irrefl r]
theorem u8_lt (a b : UInt8) : a < b ↔ a.toNat < b.toNat := UInt8.lt_iff_toNat_lt
theorem u8_eq (a b : UInt8) : a = b ↔ a.toNat = b.toNat := UInt8.toNat_inj.symm
theorem bl_trans : ∀ a b c : List UInt8, Op.bytesLess a b = true → Op.bytesLess b c = true → Op.bytesLess a c = true
  | _, [], _, h, _ => by simp [Op.bytesLess] at h
  | _, _ :: _, [], _, h => by simp [Op.bytesLess] at h
  | [], _ :: _, _ :: _, _, _ => by simp [Op.bytesLess]
  | a :: x, b :: y, c :: z, h1, h2 => by
    simp only [Op.bytesLess, Bool.or_eq_true, decide_eq_true_eq, Bool.and_eq_true, beq_iff_eq] at h1 h2 ⊢
    have ih := bl_trans x y z
    rw [u8_lt, u8_eq] at *
    rcases h1 with h1 | ⟨h1, h1'⟩ <;> rcases h2 with h2 | ⟨h2, h2'⟩
    · left; omega
    · left; omega
    · left; omega
    · right; exact ⟨by omega, ih h1' h2'⟩
theorem bl_tri : ∀ a b : List UInt8, Op.bytesLess a b = false → a ≠ b → Op.bytesLess b a = true
  | [], [], _, h => absurd rfl h
  | [], _ :: _, h, _ => by simp [Op.bytesLess] at h
  | _ :: _, [], _, _ => by simp [Op.bytesLess]
  | a :: x, b :: y, h, hne => by
    simp only [Op.bytesLess, Bool.or_eq_false_iff, decide_eq_false_iff_not, Bool.and_eq_false_iff] at h
    simp only [Op.bytesLess, Bool.or_eq_true, decide_eq_true_eq, Bool.and_eq_true, beq_iff_eq]
    by_cases e : a = b
    · subst e
      right
      refine ⟨rfl, bl_tri x y ?_ (fun e => hne (by rw [e]))⟩
      rcases h.2 with h2 | h2
      · simp at h2
      · exact h2
    · left
      have h1 := h.1
      rw [u8_lt] at h1 ⊢
      rw [u8_eq] at e
      omega
theorem ba_ext {a b : ByteArray} (h : a.toList = b.toList) : a = b := by
  rw [ByteArray.toList_eq, ByteArray.toList_eq] at h
  cases a; cases b; simpa using h
def cmpI (x y : Int) : Int := if x < y then -1 else if y < x then 1 else 0
def cmpS (x y : ByteArray) : Int := if Op.bytesLess x.toList y.toList then -1 else if x.toList == y.toList then 0 else 1

end Go.Proofs.Ytedkkghekboahaa

namespace Go.Proofs.Ytedkkghekboahaa
open Go Go.RowKit Go.Maps
set_option linter.unusedVariables false

theorem infoInt : (Try.prog.info? 3).map (fun i => (i.zero, i.size, i.bytes)) = some (some (.int .i64 0), 1, 8) := by kernel_rfl
/-- A slice of numbers of the call's own. -/
def OwnI (w : World) (B : Nat) (t : TypeId) (p : Option Addr) (n c : Nat) (zs : List Int) : Prop := n = zs.length ∧ w.ownsRow B t 1 (.slice p n c) n (zs.map (Value.int .i64))
/-- How a slice of numbers lies. -/
def IIn (w : World) (p : Option Addr) (zs : List Int) : Prop := 0 < zs.length → ∃ b o, p = some ⟨b, o, none⟩ ∧ ∀ i, i < zs.length → w.cell? ⟨b, o + i, none⟩ = some (.int .i64 (zs.getD i 0))
theorem OwnI.iin {w : World} {B : Nat} {t : TypeId} {p : Option Addr} {n c : Nat} {zs : List Int} (h : OwnI w B t p n c zs) : IIn w p zs := fun hn => by
  obtain ⟨rfl, hr⟩ := h
  obtain ⟨g, cap, hv, hb, hg⟩ := hr.form hn
  simp only [Value.slice.injEq, true_and] at hv
  obtain ⟨rfl, rfl⟩ := hv
  exact ⟨g, 0, rfl, fun i hi => by rw [Nat.zero_add, hr.cellAt i (by omega)]; simp [List.getD, hi]⟩
theorem IIn.below {W W' : World} {p : Option Addr} {zs : List Int} (h : IIn W p zs) (hb : Below W.heap.size W W') : IIn W' p zs := fun hn => by
  obtain ⟨b, o, rfl, hc⟩ := h hn
  exact ⟨b, o, rfl, fun i hi => (hb.cell (World.block_lt_of_cell? _ _ (hc i hi))).trans (hc i hi)⟩
theorem OwnI.nil (w : World) (B : Nat) (t : TypeId) : OwnI w B t none 0 0 [] := ⟨rfl, World.ownsRow_nil _ _ _ _⟩
theorem OwnI.below {w w' : World} {B : Nat} {t : TypeId} {p : Option Addr} {n c : Nat} {zs : List Int} (h : OwnI w B t p n c zs) (hb : Below w.heap.size w w') : OwnI w' B t p n c zs := ⟨h.1, row_below h.2 hb⟩
theorem OwnI.mono {w : World} {B B' : Nat} {t : TypeId} {p : Option Addr} {n c : Nat} {zs : List Int} (h : OwnI w B t p n c zs) (hB : B' ≤ B) : OwnI w B' t p n c zs := ⟨h.1, ownsRow_down h.2 hB⟩
/-- append of a number onto numbers of the call's own. -/
theorem app_int (w : World) {ops : Array Oper} {rest : List Oper} {o : Oper} {a : Act} {Q : Exit → Act → World → Prop} (hgd : o.guard = none) (s x : Operand)
    (ho : o.op = .call { callee := .builtin .append, args := #[s, x], argTypes := #[23, 23] }) (B : Nat) (p : Option Addr) (n c : Nat) (ys : List Int) (z : Int)
    (hs : a.eval s = .slice p n c) (hown : OwnI w B 3 p n c ys) (hx : a.eval x = .slice (some ⟨w.heap.size, 0, none⟩) 1 1)
    (hlen : n + 1 ≤ 1000000000) (hbase : B ≤ w.heap.size)
    (h : ∀ g n' cap w', OwnI w' B 3 (some ⟨g, 0, none⟩) n' cap (ys ++ [z]) → Below B (w.alloc (.cells #[.int .i64 z] 3)) w' → Hid (n' = n + 1) → wpList Try.prog ops Q rest (a.put o.dst (.slice (some ⟨g, 0, none⟩) n' cap)) w') : wpList Try.prog ops Q (o :: rest) a (w.alloc (.cells #[.int .i64 z] 3)) := by
  obtain ⟨i0, hi, hz0, hz1, hz2⟩ := info_parts infoInt
  refine wpList_append_lies _ hgd s x 23 ho B 3 i0 (.int .i64 0) 1 8 Try.underlying23 hi hz0 hz1 hz2 rfl (by decide) (.slice p n c) n (ys.map (Value.int .i64)) hs (hown.2.alloc _) ⟨w.heap.size, 0, none⟩ 1 1 [.int .i64 z] hx rfl (cell_one_new _ _ _) (ints_oneCell .i64 [z]) (by decide) (by unfold maxLen; omega) (by omega) (by simp; omega) _ rfl ?_
  intro g cap w' hown' hgrow hat hlt
  refine h g _ cap w' ⟨by have := hown.1; simp; omega, by rw [List.map_append]; exact hown'⟩ ((Below.refl _ _).grown hgrow (by simp; omega) (fun k hk => (hown.2.lt k hk).1)) rfl

end Go.Proofs.Ytedkkghekboahaa

namespace Go.Proofs.Ytedkkghekboahaa
open Go Go.RowKit
set_option linter.unusedVariables false

/-- A cell of a store as a word. -/
def wv (c : Cel) : Value :=
  if c.1 = 0 then .iface 100 (.int .i64 c.2.1) else if c.1 = 1 then .iface 121 (.int .i64 c.2.1) else if c.1 = 2 then .iface 122 (.string (strOfNums c.2.2))
  else if c.1 = 3 then .iface 131 (.agg #[.string (strOfNums c.2.2), .int .i64 c.2.1]) else .iface 123 (.int .i64 c.2.1)
/-- What the type switches say of a word. -/
structure IsW (v : Value) (c : Cel) : Prop where
  rf : ∀ W, (Instr.typeAssert v 70 100 true).run Try.prog W = .ok (.tuple #[.int .i64 (if c.1 = 0 then c.2.1 else 0), .bool (decide (c.1 = 0))]) W
  st : ∀ W, (Instr.typeAssert v 70 123 true).run Try.prog W = .ok (.tuple #[.int .i64 (if c.1 = 4 then c.2.1 else 0), .bool (decide (c.1 = 4))]) W
  fn : ∀ W, (Instr.typeAssert v 70 131 true).run Try.prog W = .ok (.tuple #[.agg #[.string (if c.1 = 3 then strOfNums c.2.2 else ⟨#[]⟩), .int .i64 (if c.1 = 3 then c.2.1 else 0)], .bool (decide (c.1 = 3))]) W
theorem isW (c : Cel) (h : c.1 = 0 ∨ c.1 = 1 ∨ c.1 = 2 ∨ c.1 = 3 ∨ c.1 = 4) : IsW (wv c) c := by
  obtain ⟨k, n, t⟩ := c
  rcases h with h | h | h | h | h <;> (simp only at h; subst h)
  · exact ⟨fun W => by kernel_rfl, fun W => by kernel_rfl, fun W => by kernel_rfl⟩
  · exact ⟨fun W => by kernel_rfl, fun W => by kernel_rfl, fun W => by kernel_rfl⟩
  · exact ⟨fun W => by kernel_rfl, fun W => by kernel_rfl, fun W => by kernel_rfl⟩
  · exact ⟨fun W => by kernel_rfl, fun W => by kernel_rfl, fun W => by kernel_rfl⟩
  · exact ⟨fun W => by kernel_rfl, fun W => by kernel_rfl, fun W => by kernel_rfl⟩
/-- Kinds that a heap has. -/
def Knds (xs : List Cel) : Prop := ∀ a, a < xs.length → kndA xs a = 0 ∨ kndA xs a = 1 ∨ kndA xs a = 2 ∨ kndA xs a = 3 ∨ kndA xs a = 4
/-- Words that lie at the head of a block. -/
def WIn (w : World) (p : Option Addr) (xs : List Cel) : Prop := 0 < xs.length → ∃ g, p = some ⟨g, 0, none⟩ ∧ ∀ i, i < xs.length → w.cell? ⟨g, i, none⟩ = some (wv (xs.getD i Cel.none))
theorem WIn.below {w w' : World} {p : Option Addr} {xs : List Cel} (h : WIn w p xs) (hb : Below w.heap.size w w') : WIn w' p xs := fun hn => by
  obtain ⟨g, rfl, hc⟩ := h hn
  exact ⟨g, rfl, fun i hi => (hb.cell (World.block_lt_of_cell? _ _ (hc i hi))).trans (hc i hi)⟩
/-- Block h is a heap with these words and this trail. -/
def HeapAt (w : World) (h : Nat) (xs : List Cel) (tr : List Int) : Prop :=
  ∃ pw cw pt ct, w.cell? ⟨h, 0, none⟩ = some (.slice pw xs.length cw) ∧ w.cell? ⟨h, 1, none⟩ = some (.slice pt tr.length ct) ∧ WIn w pw xs ∧ IIn w pt tr
theorem HeapAt.below {w w' : World} {h : Nat} {xs : List Cel} {tr : List Int} (H : HeapAt w h xs tr) (hb : Below w.heap.size w w') : HeapAt w' h xs tr := by
  obtain ⟨pw, cw, pt, ct, h0, h1, h2, h3⟩ := H
  exact ⟨pw, cw, pt, ct, (hb.cell (World.block_lt_of_cell? _ _ h0)).trans h0, (hb.cell (World.block_lt_of_cell? _ _ h1)).trans h1, h2.below hb, h3.below hb⟩

set_option maxRecDepth 100000 in
theorem isAddress_any (h : Nat) (a : Int) (xs : List Cel) (tr : List Int) (w : World) (hl : xs.length ≤ 20000) (H : HeapAt w h xs tr) :
    Calls Try.prog 89 #[.pointer (some ⟨h, 0, none⟩), .int .i64 a] w fun e w' => e = .returned (.bool (decide (0 ≤ a ∧ a < xs.length))) ∧ Below w.heap.size w w' := by
  obtain ⟨pw, cw, pt, ct, h0, _, _, _⟩ := H
  by_cases h1 : 0 ≤ a
  · by_cases h2 : a < xs.length
    · have e : decide (0 ≤ a ∧ a < xs.length) = true := by simp [h1, h2]
      rw [e]; clear e
      go_enter Try.func89, Try.ntmps89
      go_wp2
      go_ret
      exact ⟨ret_bool (by simp), Below.refl _ _⟩
    · have e : decide (0 ≤ a ∧ a < xs.length) = false := by simp [h2]
      rw [e]; clear e
      go_enter Try.func89, Try.ntmps89
      go_wp2
      go_ret
      exact ⟨ret_bool (by simp), Below.refl _ _⟩
  · have e : decide (0 ≤ a ∧ a < xs.length) = false := by simp [h1]
    rw [e]; clear e
    go_enter Try.func89, Try.ntmps89
    go_wp2
    go_ret
    exact ⟨ret_bool (by simp), Below.refl _ _⟩

set_option maxRecDepth 100000 in
theorem holdsFunctor_any (h : Nat) (a : Int) (xs : List Cel) (tr : List Int) (w : World) (hl : xs.length ≤ 20000) (hk : Knds xs) (H : HeapAt w h xs tr) :
    Calls Try.prog 105 #[.pointer (some ⟨h, 0, none⟩), .int .i64 a] w fun e w' => e = .returned (.bool (funB xs a)) ∧ Below w.heap.size w w' := by
  have HA := isAddress_any h a xs tr w hl H
  by_cases h1 : 0 ≤ a ∧ a < xs.length
  · rw [decide_eq_true h1] at HA
    obtain ⟨pw, cw, pt, ct, h0, _, hw, _⟩ := H
    obtain ⟨g, rfl, hc⟩ := hw (by omega)
    obtain ⟨j, rfl⟩ : ∃ j : Nat, a = j := ⟨a.toNat, by omega⟩
    have hj : j < xs.length := by omega
    have hv := hc j hj
    have I := (isW (xs.getD j Cel.none) (hk j hj)).fn
    have HF : Hid (funB xs j = decide ((xs.getD j Cel.none).1 = 3)) := by show _ = _; simp only [funB, kndA]; simp [hj]
    have HB0 : Hid (j < xs.length) := hj
    generalize wv (xs.getD j Cel.none) = v at hv I
    generalize decide ((xs.getD j Cel.none).1 = 3) = r at I HF
    generalize (if (xs.getD j Cel.none).1 = 3 then strOfNums (xs.getD j Cel.none).2.2 else ⟨#[]⟩) = s at I
    generalize (if (xs.getD j Cel.none).1 = 3 then (xs.getD j Cel.none).2.1 else 0) = n at I
    have hlt := World.block_lt_of_cell? _ _ h0
    have hlt' := World.block_lt_of_cell? _ _ hv
    clear hc hw h1
    go_enter Try.func105, Try.ntmps105
    go_wp2_with fail
    refine HA.mono ?_
    rintro e w1 ⟨rfl, hb⟩
    have h0' := (hb.cell hlt).trans h0
    have hv' := (hb.cell hlt').trans hv
    have HB : Hid (Below w.heap.size w w1) := hb
    clear hb h0 hv HA hlt hlt'
    go_wp2
    go_ret
    exact ⟨ret_bool HF.out.symm, HB.out.alloc HB.out.size _⟩
  · rw [decide_eq_false h1] at HA
    have HF : Hid (funB xs a = false) := by show _ = _; simp only [funB]; simp; intro a1 a2; exact absurd ⟨a1, a2⟩ h1
    clear h1 H
    go_enter Try.func105, Try.ntmps105
    go_wp2_with (go_at_call 89; refine HA.mono ?_; rintro e w1 ⟨rfl, hb⟩)
    go_ret
    exact ⟨ret_bool HF.out.symm, hb⟩

set_option maxRecDepth 100000 in
theorem holdsWord_any (h : Nat) (a : Int) (xs : List Cel) (tr : List Int) (w : World) (hl : xs.length ≤ 20000) (hk : Knds xs) (H : HeapAt w h xs tr) :
    Calls Try.prog 99 #[.pointer (some ⟨h, 0, none⟩), .int .i64 a] w fun e w' => e = .returned (.bool (isWB xs a)) ∧ Below w.heap.size w w' := by
  have HA := isAddress_any h a xs tr w hl H
  by_cases h1 : 0 ≤ a ∧ a < xs.length
  · rw [decide_eq_true h1] at HA
    have HC : Hid (∀ W, Below w.heap.size w W → Calls Try.prog 105 #[.pointer (some ⟨h, 0, none⟩), .int .i64 a] W fun e w' => e = .returned (.bool (funB xs a)) ∧ Below W.heap.size W w') := fun W hW => holdsFunctor_any h a xs tr W hl hk (H.below hW)
    have HF : Hid (isWB xs a = !funB xs a) := by show _ = _; simp only [funB, isWB]; simp [h1.1, h1.2]
    generalize funB xs a = r at HC HF
    clear h1 H
    go_enter Try.func99, Try.ntmps99
    go_wp2_with fail
    refine HA.mono ?_
    rintro e w1 ⟨rfl, hb⟩
    have HB : Hid (Below w.heap.size w w1) := hb
    clear hb HA
    go_wp2_with fail
    refine (HC.out w1 HB.out).mono ?_
    rintro e w2 ⟨rfl, hb⟩
    have HB2 : Hid (Below w.heap.size w w2) := Below.on HB.out hb
    clear hb HC
    go_wp2
    go_ret
    exact ⟨ret_bool HF.out.symm, HB2.out⟩
  · rw [decide_eq_false h1] at HA
    have HF : Hid (isWB xs a = false) := by show _ = _; simp only [isWB]; simp; intro a1 a2; exact absurd ⟨a1, a2⟩ h1
    clear h1 H
    go_enter Try.func99, Try.ntmps99
    go_wp2_with (go_at_call 89; refine HA.mono ?_; rintro e w1 ⟨rfl, hb⟩)
    go_ret
    exact ⟨ret_bool HF.out.symm, hb⟩

set_option maxRecDepth 100000 in
theorem holdsVariable_any (h : Nat) (a : Int) (xs : List Cel) (tr : List Int) (w : World) (hl : xs.length ≤ 20000) (hk : Knds xs) (H : HeapAt w h xs tr) :
    Calls Try.prog 64 #[.pointer (some ⟨h, 0, none⟩), .int .i64 a] w fun e w' => e = .returned (.bool (varB xs a)) ∧ Below w.heap.size w w' := by
  have HA := isAddress_any h a xs tr w hl H
  by_cases h1 : 0 ≤ a ∧ a < xs.length
  · rw [decide_eq_true h1] at HA
    obtain ⟨pw, cw, pt, ct, h0, _, hw, _⟩ := H
    obtain ⟨g, rfl, hc⟩ := hw (by omega)
    obtain ⟨j, rfl⟩ : ∃ j : Nat, a = j := ⟨a.toNat, by omega⟩
    have hj : j < xs.length := by omega
    have hv := hc j hj
    have I := (isW (xs.getD j Cel.none) (hk j hj)).rf
    have HF : Hid (varB xs j = (decide ((xs.getD j Cel.none).1 = 0) && (xs.getD j Cel.none).2.1 == j)) := by
      show _ = _
      rw [Bool.eq_iff_iff]
      simp only [varB, kndA, numA]; simp [hj]
    generalize wv (xs.getD j Cel.none) = v at hv I
    have hlt := World.block_lt_of_cell? _ _ h0
    have hlt' := World.block_lt_of_cell? _ _ hv
    clear hc hw h1
    by_cases k0 : (xs.getD j Cel.none).1 = 0
    · simp only [k0, if_true, decide_true, Bool.true_and] at I HF
      generalize (xs.getD j Cel.none).2.1 = n at I HF
      clear k0
      go_enter Try.func64, Try.ntmps64
      go_wp2_with fail
      refine HA.mono ?_
      rintro e w1 ⟨rfl, hb⟩
      have h0' := (hb.cell hlt).trans h0
      have hv' := (hb.cell hlt').trans hv
      have HB : Hid (Below w.heap.size w w1) := hb
      clear hb h0 hv HA hlt hlt'
      go_wp2
      go_ret
      exact ⟨ret_bool HF.out.symm, HB.out⟩
    · simp only [k0, if_false, decide_false, Bool.false_and] at I HF
      clear k0
      go_enter Try.func64, Try.ntmps64
      go_wp2_with fail
      refine HA.mono ?_
      rintro e w1 ⟨rfl, hb⟩
      have h0' := (hb.cell hlt).trans h0
      have hv' := (hb.cell hlt').trans hv
      have HB : Hid (Below w.heap.size w w1) := hb
      clear hb h0 hv HA hlt hlt'
      go_wp2
      go_ret
      exact ⟨ret_bool HF.out.symm, HB.out⟩
  · rw [decide_eq_false h1] at HA
    have HF : Hid (varB xs a = false) := by show _ = _; simp only [varB]; simp; intro a1 a2; exact absurd ⟨a1, a2⟩ h1
    clear h1 H
    go_enter Try.func64, Try.ntmps64
    go_wp2_with (go_at_call 89; refine HA.mono ?_; rintro e w1 ⟨rfl, hb⟩)
    go_ret
    exact ⟨ret_bool HF.out.symm, hb⟩

set_option maxRecDepth 100000 in
theorem functorAt_any (h j : Nat) (xs : List Cel) (tr : List Int) (w : World) (hl : xs.length ≤ 20000) (hj : j < xs.length) (h3 : kndA xs j = 3) (H : HeapAt w h xs tr) :
    Calls Try.prog 102 #[.pointer (some ⟨h, 0, none⟩), .int .i64 j] w fun e w' => e = .returned (.agg #[.string (strOfNums (xs.getD j Cel.none).2.2), .int .i64 (numA xs j)]) ∧ Below w.heap.size w w' := by
  obtain ⟨pw, cw, pt, ct, h0, _, hw, _⟩ := H
  obtain ⟨g, rfl, hc⟩ := hw (by omega)
  have hv := hc j hj
  have I := (isW (xs.getD j Cel.none) (.inr (.inr (.inr (.inl h3))))).fn
  have h3' : (xs.getD j Cel.none).1 = 3 := h3
  simp only [h3', if_true, decide_true] at I
  generalize wv (xs.getD j Cel.none) = v at hv I
  unfold numA
  generalize (xs.getD j Cel.none).2.1 = n at I ⊢
  generalize strOfNums (xs.getD j Cel.none).2.2 = s at I ⊢
  have hlt := World.block_lt_of_cell? _ _ h0
  have hlt' := World.block_lt_of_cell? _ _ hv
  have HB0 : Hid (Below w.heap.size w (w.alloc (Obj.cells #[.string ⟨#[]⟩, .int .i64 0] 131))) := (Below.refl _ _).alloc (Nat.le_refl _) _
  have h0' := (HB0.out.cell hlt).trans h0
  have hv' := (HB0.out.cell hlt').trans hv
  clear h3 h3' hc hw h0 hv
  go_enter Try.func102, Try.ntmps102
  go_wp2
  exact bodyPost_ret (v := .agg #[.string s, .int .i64 n]) (by simp [results, Try.results102, go_sem]) rfl ⟨rfl, ((Below.refl _ _).alloc (Nat.le_refl _) _).alloc (by simp) _⟩

end Go.Proofs.Ytedkkghekboahaa

