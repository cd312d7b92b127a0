/- Texts of TermG, FunG, IntG. Own work of the verifier. -/
import Derived.Test.YtedlcmkhbccjgaaUqah
import Derived.Test.YtedlcmkhbccjgaaUqad
import Derived.Deep.AppendLies
namespace Go.Proofs.Ytedlcmkhbccjgaa
open Go Go.RowKit
set_option linter.unusedVariables false

/-- What is valid is one tree. -/
theorem tree_of {cs : List Cel} (hb : ∀ i, i < cs.length → Byte (cs.getD i Cel.none).2.2) (hv : validB cs = true) : ∃ c k, cs = c :: k.cells ∧ (Fo.node c k .nil).ok ∧ cs.length ≤ 2000 := by
  simp only [validB, Bool.and_eq_true, decide_eq_true_eq] at hv
  obtain ⟨F, h1, h2, h3⟩ := forest_of cs 1 hb hv.2
  cases F with
  | nil => simp [Fo.count] at h1
  | node c k r =>
    cases r with
    | nil => exact ⟨c, k, by rw [← h2]; simp [Fo.cells], h3, hv.1⟩
    | node a b d => simp [Fo.count] at h1
set_option maxRecDepth 100000 in
theorem termOf_any (c : Cel) (k : Fo) (p : Option Addr) (n cap : Nat) (w : World) (hok : (Fo.node c k .nil).ok) (hn : n = k.cells.length + 1) (hc : n ≤ cap) (hm : cap ≤ 1000000000) (hin : CIn w p (c :: k.cells)) :
    Calls Try.prog 33 #[.slice p n cap] w fun e w' => ∃ v, e = .returned v ∧ FoIn w' w.heap.size (.node c k .nil) [v] ∧ Below w.heap.size w w' := by
  have HF : Calls Try.prog 65 #[.slice p n cap] w (FirstOut w w c k [] cap) := firstTerm_any k.cells.length c k p n cap [] w w (Below.refl _ _) (Nat.le_refl _) hok (by rw [hn]; rfl) hc hm (by rw [List.append_nil]; exact hin)
  clear hok hin hn
  go_enter Try.func33, Try.ntmps33
  go_wp2_with fail
  refine HF.mono ?_
  rintro e w1 ⟨v, q, l, cp, rfl, _, _, _, hfo, hb⟩
  obtain ⟨vt, vx, rfl⟩ := hfo.iface
  have HFO : Hid (FoIn w1 w.heap.size (.node c k .nil) [.iface vt vx]) := hfo
  have HB : Hid (Below w.heap.size w w1) := hb
  clear hfo hb HF
  go_wp2_with fail
  go_ret
  exact ⟨_, rfl, HFO.out, HB.out⟩

end Go.Proofs.Ytedlcmkhbccjgaa

namespace Go.Proofs.Ytedlcmkhbccjgaa
open Go Go.RowKit
set_option linter.unusedVariables false

theorem noAtom_comp (w : World) (x : Value) : (Instr.typeAssert (.iface 108 x) 53 140 true).run Try.prog w = .ok (.tuple #[.string ⟨#[]⟩, .bool false]) w := by kernel_rfl
theorem isAtom (w : World) (x : Value) : (Instr.typeAssert (.iface 140 x) 53 140 true).run Try.prog w = .ok (.tuple #[x, .bool true]) w := by kernel_rfl
set_option maxRecDepth 100000 in
theorem functor_any (b g q : Nat) (str : ByteArray) (w : World) (h0 : w.cell? ⟨b, 0, none⟩ = some (.string str)) (h1 : w.cell? ⟨b, 1, none⟩ = some (.slice (some ⟨g, 0, none⟩) q q)) :
    Calls Try.prog 85 #[.pointer (some ⟨b, 0, none⟩)] w fun e w' => e = .returned (.agg #[.string str, .int .i64 q]) ∧ Below w.heap.size w w' := by
  have a0 : ∀ x, (w.alloc x).cell? ⟨b, 0, none⟩ = some (.string str) := fun x => Lib.cell?_alloc_marked x h0
  have a1 : ∀ x, (w.alloc x).cell? ⟨b, 1, none⟩ = some (.slice (some ⟨g, 0, none⟩) q q) := fun x => Lib.cell?_alloc_marked x h1
  go_enter Try.func85, Try.ntmps85
  go_wp2_with fail
  go_region
  all_goals go_wp2_with fail
  all_goals exact bodyPost_ret (v := .agg #[.string str, .int .i64 q]) (by simp [results, Try.results85, go_sem]) rfl ⟨rfl, ((Below.refl _ _).alloc (Nat.le_refl _) _).drew⟩

end Go.Proofs.Ytedlcmkhbccjgaa

namespace Go.Proofs.Ytedlcmkhbccjgaa
open Go Go.RowKit Go.Maps
set_option linter.unusedVariables false

theorem infoInt : (Try.prog.info? 3).map (fun i => (i.zero, i.size, i.bytes)) = some (some (.int .i64 0), 1, 8) := by kernel_rfl
/-- A slice of numbers of the call's own. -/
def OwnI (w : World) (B : Nat) (t : TypeId) (p : Option Addr) (n c : Nat) (zs : List Int) : Prop := n = zs.length ∧ w.ownsRow B t 1 (.slice p n c) n (zs.map (Value.int .i64))
/-- How a slice of numbers lies. -/
def IIn (w : World) (p : Option Addr) (zs : List Int) : Prop := 0 < zs.length → ∃ b o, p = some ⟨b, o, none⟩ ∧ ∀ i, i < zs.length → w.cell? ⟨b, o + i, none⟩ = some (.int .i64 (zs.getD i 0))
theorem OwnI.iin {w : World} {B : Nat} {t : TypeId} {p : Option Addr} {n c : Nat} {zs : List Int} (h : OwnI w B t p n c zs) : IIn w p zs := fun hn => by
  obtain ⟨rfl, hr⟩ := h
  obtain ⟨g, cap, hv, hb, hg⟩ := hr.form hn
  simp only [Value.slice.injEq, true_and] at hv
  obtain ⟨rfl, rfl⟩ := hv
  exact ⟨g, 0, rfl, fun i hi => by rw [Nat.zero_add, hr.cellAt i (by omega)]; simp [List.getD, hi]⟩
theorem IIn.below {W W' : World} {p : Option Addr} {zs : List Int} (h : IIn W p zs) (hb : Below W.heap.size W W') : IIn W' p zs := fun hn => by
  obtain ⟨b, o, rfl, hc⟩ := h hn
  exact ⟨b, o, rfl, fun i hi => (hb.cell (World.block_lt_of_cell? _ _ (hc i hi))).trans (hc i hi)⟩
theorem OwnI.nil (w : World) (B : Nat) (t : TypeId) : OwnI w B t none 0 0 [] := ⟨rfl, World.ownsRow_nil _ _ _ _⟩
theorem OwnI.below {w w' : World} {B : Nat} {t : TypeId} {p : Option Addr} {n c : Nat} {zs : List Int} (h : OwnI w B t p n c zs) (hb : Below w.heap.size w w') : OwnI w' B t p n c zs := ⟨h.1, row_below h.2 hb⟩
theorem OwnI.mono {w : World} {B B' : Nat} {t : TypeId} {p : Option Addr} {n c : Nat} {zs : List Int} (h : OwnI w B t p n c zs) (hB : B' ≤ B) : OwnI w B' t p n c zs := ⟨h.1, ownsRow_down h.2 hB⟩
/-- append of a number onto numbers of the call's own. -/
theorem app_int (w : World) {ops : Array Oper} {rest : List Oper} {o : Oper} {a : Act} {Q : Exit → Act → World → Prop} (hgd : o.guard = none) (s x : Operand)
    (ho : o.op = .call { callee := .builtin .append, args := #[s, x], argTypes := #[45, 45] }) (B : Nat) (p : Option Addr) (n c : Nat) (ys : List Int) (z : Int)
    (hs : a.eval s = .slice p n c) (hown : OwnI w B 3 p n c ys) (hx : a.eval x = .slice (some ⟨w.heap.size, 0, none⟩) 1 1)
    (hlen : n + 1 ≤ 1000000000) (hbase : B ≤ w.heap.size)
    (h : ∀ g n' cap w', OwnI w' B 3 (some ⟨g, 0, none⟩) n' cap (ys ++ [z]) → Below B (w.alloc (.cells #[.int .i64 z] 3)) w' → Hid (n' = n + 1) → wpList Try.prog ops Q rest (a.put o.dst (.slice (some ⟨g, 0, none⟩) n' cap)) w') : wpList Try.prog ops Q (o :: rest) a (w.alloc (.cells #[.int .i64 z] 3)) := by
  obtain ⟨i0, hi, hz0, hz1, hz2⟩ := info_parts infoInt
  refine wpList_append_lies _ hgd s x 45 ho B 3 i0 (.int .i64 0) 1 8 Try.underlying45 hi hz0 hz1 hz2 rfl (by decide) (.slice p n c) n (ys.map (Value.int .i64)) hs (hown.2.alloc _) ⟨w.heap.size, 0, none⟩ 1 1 [.int .i64 z] hx rfl (cell_one_new _ _ _) (ints_oneCell .i64 [z]) (by decide) (by unfold maxLen; omega) (by omega) (by simp; omega) _ rfl ?_
  intro g cap w' hown' hgrow hat hlt
  refine h g _ cap w' ⟨by have := hown.1; simp; omega, by rw [List.map_append]; exact hown'⟩ ((Below.refl _ _).grown hgrow (by simp; omega) (fun k hk => (hown.2.lt k hk).1)) rfl

end Go.Proofs.Ytedlcmkhbccjgaa

