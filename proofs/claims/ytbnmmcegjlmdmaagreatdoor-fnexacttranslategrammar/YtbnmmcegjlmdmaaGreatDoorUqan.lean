/- Texts of Num, IntG, VarF, Vars1. Own work of the verifier. -/
import Derived.Test.YtbnmmcegjlmdmaaGreatDoorUqah
import Derived.Maps.OwnSet
import Derived.Maps.OwnOps
import Derived.Test.YtbnmmcegjlmdmaaGreatDoorUqad
import Derived.Deep.AppendLies
import Derived.Test.YtbnmmcegjlmdmaaGreatDoorUqal
import Derived.Test.YtbnmmcegjlmdmaaGreatDoorUqai
namespace Go.Proofs.YtbnmmcegjlmdmaaGreatDoor
open Go Go.RowKit Go.Maps
set_option linter.unusedVariables false
theorem lawVar : Keyed Tryz.prog 84 := int_keyed Tryz.underlying84
theorem zeroVar (w : World) : (zeroValue 84).run Tryz.prog w = .ok (.int .i64 0) w := by kernel_rfl
def putV (ks : List Int) (x : Int) : List Int := if x ∈ ks then ks else ks ++ [x]
def NumMap (w : World) (b : Nat) (ks : List Int) : Prop := ∃ D : DataW Unit, w.ownsMap Tryz.prog 84 (plainElem Tryz.prog 84) b ks.length D ∧ Maps.size D = ks.length ∧ (∀ x : Int, Maps.has D (.int .i64 x) = decide (x ∈ ks)) ∧
  (∀ x ∈ ks, D.atKey (.int .i64 x) (.lit (.int .i64 0)) = .lit (.int .i64 (ks.idxOf x)))
theorem NumMap.lt {w : World} {b : Nat} {ks : List Int} (h : NumMap w b ks) : b < w.heap.size := by obtain ⟨D, h, _⟩ := h; exact h.lt
theorem NumMap.of_block {w w' : World} {b : Nat} {ks : List Int} (h : NumMap w b ks) (hb : w'.heap[b]? = w.heap[b]?) : NumMap w' b ks := by
  obtain ⟨D, ⟨es, clock, h1, r⟩, h2⟩ := h
  exact ⟨D, ⟨es, clock, hb.trans h1, r⟩, h2⟩
theorem NumMap.made (w : World) : NumMap (w.alloc (.map #[] 0)) w.heap.size [] := ⟨_, World.ownsMap_made _ _ _ _, rfl, fun x => rfl, fun x hx => by cases hx⟩
end Go.Proofs.YtbnmmcegjlmdmaaGreatDoor

namespace Go.Proofs.YtbnmmcegjlmdmaaGreatDoor
open Go Go.RowKit Go.Maps
set_option linter.unusedVariables false
def OwnI (w : World) (B : Nat) (t : TypeId) (p : Option Addr) (n c : Nat) (zs : List Int) : Prop := n = zs.length ∧ w.ownsRow B t 1 (.slice p n c) n (zs.map (Value.int .i64))
def IIn (w : World) (p : Option Addr) (zs : List Int) : Prop := 0 < zs.length → ∃ b o, p = some ⟨b, o, none⟩ ∧ ∀ i, i < zs.length → w.cell? ⟨b, o + i, none⟩ = some (.int .i64 (zs.getD i 0))
theorem OwnI.iin {w : World} {B : Nat} {t : TypeId} {p : Option Addr} {n c : Nat} {zs : List Int} (h : OwnI w B t p n c zs) : IIn w p zs := fun hn => by
  obtain ⟨rfl, hr⟩ := h
  obtain ⟨g, cap, hv, hb, hg⟩ := hr.form hn
  simp only [Value.slice.injEq, true_and] at hv
  obtain ⟨rfl, rfl⟩ := hv
  exact ⟨g, 0, rfl, fun i hi => by rw [Nat.zero_add, hr.cellAt i (by omega)]; simp [List.getD, hi]⟩
theorem IIn.below {W W' : World} {p : Option Addr} {zs : List Int} (h : IIn W p zs) (hb : Below W.heap.size W W') : IIn W' p zs := fun hn => by
  obtain ⟨b, o, rfl, hc⟩ := h hn
  exact ⟨b, o, rfl, fun i hi => (hb.cell (World.block_lt_of_cell? _ _ (hc i hi))).trans (hc i hi)⟩
theorem OwnI.nil (w : World) (B : Nat) (t : TypeId) : OwnI w B t none 0 0 [] := ⟨rfl, World.ownsRow_nil _ _ _ _⟩
theorem OwnI.below {w w' : World} {B : Nat} {t : TypeId} {p : Option Addr} {n c : Nat} {zs : List Int} (h : OwnI w B t p n c zs) (hb : Below w.heap.size w w') : OwnI w' B t p n c zs := ⟨h.1, row_below h.2 hb⟩
theorem OwnI.mono {w : World} {B B' : Nat} {t : TypeId} {p : Option Addr} {n c : Nat} {zs : List Int} (h : OwnI w B t p n c zs) (hB : B' ≤ B) : OwnI w B' t p n c zs := ⟨h.1, ownsRow_down h.2 hB⟩
end Go.Proofs.YtbnmmcegjlmdmaaGreatDoor

namespace Go.Proofs.YtbnmmcegjlmdmaaGreatDoor
open Go Go.RowKit Go.Maps
set_option linter.unusedVariables false
theorem infoVar : (Tryz.prog.info? 84).map (fun i => (i.zero, i.size, i.bytes)) = some (some (.int .i64 0), 1, 8) := by kernel_rfl
def visitL (ks : List Int) (c : Cel) : List Int := if c.1 = 0 then putV ks c.2.1 else ks
theorem noVar_num (w : World) (x : Value) : (Instr.typeAssert (.iface 95 x) 49 84 true).run Tryz.prog w = .ok (.tuple #[.int .i64 0, .bool false]) w := by kernel_rfl
theorem noVar_atom (w : World) (x : Value) : (Instr.typeAssert (.iface 74 x) 49 84 true).run Tryz.prog w = .ok (.tuple #[.int .i64 0, .bool false]) w := by kernel_rfl
theorem noVar_comp (w : World) (x : Value) : (Instr.typeAssert (.iface 76 x) 49 84 true).run Tryz.prog w = .ok (.tuple #[.int .i64 0, .bool false]) w := by kernel_rfl
theorem isVar (w : World) (x : Value) : (Instr.typeAssert (.iface 84 x) 49 84 true).run Tryz.prog w = .ok (.tuple #[x, .bool true]) w := by kernel_rfl
theorem noComp_var (w : World) (x : Value) : (Instr.typeAssert (.iface 84 x) 49 76 true).run Tryz.prog w = .ok (.tuple #[.pointer none, .bool false]) w := by kernel_rfl
theorem noComp_num (w : World) (x : Value) : (Instr.typeAssert (.iface 95 x) 49 76 true).run Tryz.prog w = .ok (.tuple #[.pointer none, .bool false]) w := by kernel_rfl
theorem noComp_atom (w : World) (x : Value) : (Instr.typeAssert (.iface 74 x) 49 76 true).run Tryz.prog w = .ok (.tuple #[.pointer none, .bool false]) w := by kernel_rfl
theorem isComp (w : World) (x : Value) : (Instr.typeAssert (.iface 76 x) 49 76 true).run Tryz.prog w = .ok (.tuple #[x, .bool true]) w := by kernel_rfl
theorem blk_app {wc w2 : World} {X : Obj} {row : Option Nat} (h : (wc.alloc X).grownBy w2 row) {k : Nat} (h1 : k < wc.heap.size) (h2 : some k ≠ row) : w2.heap[k]? = wc.heap[k]? :=
  (h.block k (by simp; omega) h2).trans (Below.heap_alloc wc _ k h1)
theorem argsLeaf_any (t : TypeId) (x : Value) (w : World) (ht : t = 84 ∨ t = 95 ∨ t = 74) :
    Calls Tryz.prog 25 #[.iface t x] w fun e w' => e = .returned (.slice none 0 0) ∧ w' = w := by
  have n1 := noComp_var
  have n2 := noComp_num
  have n3 := noComp_atom
  rcases ht with rfl | rfl | rfl
  all_goals
    go_enter Tryz.func25, Tryz.ntmps25
    go_wp2_with fail
    go_ret
    exact ⟨rfl, rfl⟩
def visits (ks : List Int) (cs : List Cel) : List Int := cs.foldl visitL ks
theorem putV_len (ks : List Int) (x : Int) : (putV ks x).length ≤ ks.length + 1 := by unfold putV; split <;> simp
theorem visitL_len (ks : List Int) (c : Cel) : (visitL ks c).length ≤ ks.length + 1 := by unfold visitL; split; exact putV_len _ _; omega
theorem visits_len : ∀ (cs : List Cel) (ks : List Int), (visits ks cs).length ≤ ks.length + cs.length
  | [], ks => by simp [visits]
  | c :: r, ks => by have := visits_len r (visitL ks c); have := visitL_len ks c; simp only [visits, List.foldl_cons, List.length_cons] at *; omega
theorem visits_append (ks : List Int) (a b : List Cel) : visits ks (a ++ b) = visits (visits ks a) b := by simp [visits]
theorem visits_cons (ks : List Int) (c : Cel) (b : List Cel) : visits ks (c :: b) = visits (visitL ks c) b := rfl
end Go.Proofs.YtbnmmcegjlmdmaaGreatDoor

namespace Go.Proofs.YtbnmmcegjlmdmaaGreatDoor
open Go Go.RowKit Go.Maps
set_option linter.unusedVariables false
structure VState (w : World) (B vb nb mb : Nat) (ks : List Int) (p : Option Addr) (n c : Nat) : Prop where
  vcell : w.cell? ⟨vb, 0, none⟩ = some (.slice p n c)
  vfree : w.frozen? ⟨vb, 0, none⟩ = false
  ncell : w.cell? ⟨nb, 0, none⟩ = some (.map (some mb))
  len : n = ks.length
  row : w.ownsRow B 84 1 (.slice p n c) n (ks.map (Value.int .i64))
  map : NumMap w mb ks
  bv : B ≤ vb
  bn : B ≤ nb
  bm : B ≤ mb
  away : ∀ g, p = some ⟨g, 0, none⟩ → g ≠ vb ∧ g ≠ nb
theorem VState.map_ne {w : World} {B vb nb mb : Nat} {ks : List Int} {p : Option Addr} {n c : Nat} (h : VState w B vb nb mb ks p n c) : mb ≠ vb ∧ mb ≠ nb ∧ ∀ g, p = some ⟨g, 0, none⟩ → g ≠ mb := by
  obtain ⟨D, ⟨es, clock, hb, _⟩, _⟩ := h.map
  refine ⟨fun e => ?_, fun e => ?_, fun g e e' => ?_⟩
  · have := h.vcell; rw [← e] at this; simp [World.cell?, hb] at this
  · have := h.ncell; rw [← e] at this; simp [World.cell?, hb] at this
  · rcases h.row.2 with ⟨hv, _⟩ | ⟨g', cap, cur, hv, _, hg, _⟩
    · simp only [Value.slice.injEq] at hv; rw [e] at hv; cases hv.1
    · simp only [Value.slice.injEq] at hv
      rw [e] at hv
      have e2 : g = g' := congrArg Addr.block (Option.some.inj hv.1)
      rw [← e2, e', hb] at hg
      cases hg
theorem VState.vn {w : World} {B vb nb mb : Nat} {ks : List Int} {p : Option Addr} {n c : Nat} (h : VState w B vb nb mb ks p n c) : vb ≠ nb := fun e => by
  have h1 := h.vcell
  rw [e, h.ncell] at h1
  cases h1
theorem VState.drew {w : World} {B vb nb mb : Nat} {ks : List Int} {p : Option Addr} {n c : Nat} (h : VState w B vb nb mb ks p n c) : VState w.drew B vb nb mb ks p n c := ⟨h.1, h.2, h.3, h.4, h.5, h.6, h.7, h.8, h.9, h.10⟩
set_option maxRecDepth 100000 in
theorem visitOther_any (t : TypeId) (x : Value) (vb nb : Nat) (w : World) (ht : t = 95 ∨ t = 74 ∨ t = 76) :
    Calls Tryz.prog 76 #[.iface t x, .pointer (some ⟨nb, 0, none⟩), .pointer (some ⟨vb, 0, none⟩)] w fun e w' => e = .returned (.tuple #[]) ∧ ∃ m, w' = w.drewN m := by
  have n1 := noVar_num
  have n2 := noVar_atom
  have n3 := noVar_comp
  rcases ht with rfl | rfl | rfl
  all_goals
    go_enter Tryz.func76, Tryz.ntmps76
    go_wp2_with fail
    go_region
    all_goals go_wp2_with fail
    all_goals go_end0
    all_goals exact ⟨rfl, 1, rfl⟩
theorem VState.after {w w1 : World} {B vb nb mb : Nat} {ks ks' : List Int} {p : Option Addr} {n c : Nat} (h : VState w B vb nb mb ks p n c) (hm : NumMap w1 mb ks') (hg : w.grownBy w1 (some mb)) :
    w1.cell? ⟨vb, 0, none⟩ = some (.slice p n c) ∧ w1.frozen? ⟨vb, 0, none⟩ = false ∧ w1.cell? ⟨nb, 0, none⟩ = some (.map (some mb)) ∧ w1.ownsRow B 84 1 (.slice p n c) n (ks.map (Value.int .i64)) ∧ Below B w w1 := by
  have hne := h.map_ne
  have e1 := hg.block vb (World.block_lt_of_cell? _ _ h.vcell) (fun e => hne.1 (Option.some.inj e).symm)
  have e2 := hg.block nb (World.block_lt_of_cell? _ _ h.ncell) (fun e => hne.2.1 (Option.some.inj e).symm)
  refine ⟨(World.cell?_of_block (w := w) e1).trans h.vcell, (World.frozen?_of_block (w := w) e1).trans h.vfree, (World.cell?_of_block (w := w) e2).trans h.ncell, h.row.kept hg ?_, (Below.refl _ _).grown hg (by have := h.map.lt; have := h.bm; omega) (fun k e => by cases e; exact h.bm)⟩
  rcases h.row.2 with ⟨hv, _⟩ | ⟨g, cap, cur, hv, _⟩
  · simp only [Value.slice.injEq] at hv; rw [hv.1]; exact .inl rfl
  · simp only [Value.slice.injEq] at hv
    rw [hv.1]
    exact .inr (fun e => hne.2.2 g hv.1 (Option.some.inj e))
end Go.Proofs.YtbnmmcegjlmdmaaGreatDoor

