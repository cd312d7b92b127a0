/- place. Own work of the verifier. -/
import Derived.Test.YtopdhjnpcpkmlaaCmp6
namespace Go.Proofs.Ytopdhjnpcpkmlaa
open Go Go.RowKit Go.Maps
set_option linter.unusedVariables false

theorem zeroInt (w : World) : (zeroValue 3).run Try.prog w = .ok (.int .i64 0) w := by kernel_rfl
theorem FunMap.look {W : World} {b N : Nat} {ks : List Fun} {rk : Fun → Int} (h : FunMap W b N ks rk) (f : Fun) (hf : f ∈ ks) : (Instr.lookup 88 (.map (some b)) (.agg #[.string f.1, .int .i64 f.2]) false).run Try.prog W = .ok (.int .i64 (rk f)) W := by
  obtain ⟨D, hown, hok, hsz, hhas, hat⟩ := h
  have ho := hok f hf
  obtain ⟨c, hrun, hc, _⟩ := hown.lookup_int lawFun Try.underlying88 Try.underlying3 (zeroInt W) (keyFun f ho.1 ho.2.1 ho.2.2)
  rw [hat f hf] at hc
  cases hc
  exact hrun
/-- Where a term stands, apart from its arguments. -/
def rankOf (rk : Fun → Int) (c : Cel) : Int := if c.1 = 2 ∨ c.1 = 3 then rk (strOfNums c.2.2, c.2.1) else c.2.1
def PlaceOut (w : World) (k v : Int) (e : Ending) (w' : World) : Prop := e = .returned (.tuple #[.int .i64 k, .int .i64 v]) ∧ Below w.heap.size w w'
theorem noNum_atom (w : World) (x : Value) : (Instr.typeAssert (.iface 76 x) 59 107 true).run Try.prog w = .ok (.tuple #[.int .i64 0, .bool false]) w := by kernel_rfl
theorem noNum_comp (w : World) (x : Value) : (Instr.typeAssert (.iface 100 x) 59 107 true).run Try.prog w = .ok (.tuple #[.int .i64 0, .bool false]) w := by kernel_rfl
theorem isNum (w : World) (x : Value) : (Instr.typeAssert (.iface 107 x) 59 107 true).run Try.prog w = .ok (.tuple #[x, .bool true]) w := by kernel_rfl

theorem placeVar_any (x : Int) (b : Nat) (w : World) : Calls Try.prog 78 #[.map (some b), .iface 67 (.int .i64 x)] w (PlaceOut w 0 x) := by
  have a1 := isVar
  have HF : Hid (PlaceOut w 0 x (.returned (.tuple #[.int .i64 0, .int .i64 x])) w) := ⟨rfl, Below.refl _ _⟩
  go_enter Try.func78, Try.ntmps78
  go_wp2_with fail
  go_ret2
  exact HF.out
theorem placeNum_any (x : Int) (b : Nat) (w : World) : Calls Try.prog 78 #[.map (some b), .iface 107 (.int .i64 x)] w (PlaceOut w 1 x) := by
  have a1 := noVar_num
  have a2 := isNum
  have HF : Hid (PlaceOut w 1 x (.returned (.tuple #[.int .i64 1, .int .i64 x])) w) := ⟨rfl, Below.refl _ _⟩
  go_enter Try.func78, Try.ntmps78
  go_wp2_with fail
  go_ret2
  exact HF.out
set_option maxRecDepth 100000 in
theorem placeAtom_any (str : ByteArray) (b N : Nat) (ks : List Fun) (rk : Fun → Int) (w : World) (hm : FunMap w b N ks rk) (hf : (str, (0 : Int)) ∈ ks) : Calls Try.prog 78 #[.map (some b), .iface 76 (.string str)] w (PlaceOut w 2 (rk (str, 0))) := by
  have a1 := noVar_atom
  have a2 := noNum_atom
  have a3 := isAtom
  have HA := fun W => atomFun_any str W
  have HL : Hid (∀ W, Below w.heap.size w W → (Instr.lookup 88 (.map (some b)) (.agg #[.string str, .int .i64 0]) false).run Try.prog W = .ok (.int .i64 (rk (str, 0))) W) := fun W hW => (hm.below hW).look (str, 0) hf
  generalize rk (str, 0) = r at *
  clear hm hf
  go_enter Try.func78, Try.ntmps78
  go_wp2_with fail
  go_region_held3 (fun _ => True) (trivial)
    ((go_at_call 75; refine (HA _).mono ?_; rintro e w1 ⟨rfl, hb1⟩; have hl := HL.out w1 (by first | exact hb1 | exact (Below.refl _ w).drew.trans hb1); have hl2 := HL.out w1.drew (by first | exact hb1.drew | exact ((Below.refl _ w).drew.trans hb1).drew)))
  all_goals go_wp2_with fail
  go_ret2
  exact ⟨rfl, (Below.refl _ w).drew.trans hb1⟩
set_option maxRecDepth 100000 in
theorem placeComp_any (cb g q : Nat) (str : ByteArray) (b N : Nat) (ks : List Fun) (rk : Fun → Int) (w : World) (h0 : w.cell? ⟨cb, 0, none⟩ = some (.string str)) (h1 : w.cell? ⟨cb, 1, none⟩ = some (.slice (some ⟨g, 0, none⟩) q q)) (hm : FunMap w b N ks rk) (hf : (str, (q : Int)) ∈ ks) :
    Calls Try.prog 78 #[.map (some b), .iface 100 (.pointer (some ⟨cb, 0, none⟩))] w (PlaceOut w 3 (rk (str, q))) := by
  have a1 := noVar_comp
  have a2 := noNum_comp
  have a3 := noAtom_comp
  have a4 := isComp
  have HA : ∀ W, Below w.heap.size w W → Calls Try.prog 73 #[.pointer (some ⟨cb, 0, none⟩)] W fun e w' => e = .returned (.agg #[.string str, .int .i64 q]) ∧ Below W.heap.size W w' := fun W hW => functor_any cb g q str W ((hW.cell (World.block_lt_of_cell? _ _ h0)).trans h0) ((hW.cell (World.block_lt_of_cell? _ _ h1)).trans h1)
  have HL : Hid (∀ W, Below w.heap.size w W → (Instr.lookup 88 (.map (some b)) (.agg #[.string str, .int .i64 q]) false).run Try.prog W = .ok (.int .i64 (rk (str, q))) W) := fun W hW => (hm.below hW).look (str, q) hf
  generalize rk (str, q) = r at *
  clear hm hf h0 h1
  go_enter Try.func78, Try.ntmps78
  go_wp2_with fail
  go_region_held3 (fun _ => True) (trivial)
    ((go_at_call 73; refine (HA _ (by first | exact Below.refl _ _ | exact (Below.refl _ w).drew)).mono ?_; rintro e w1 ⟨rfl, hb1⟩; have hl := HL.out w1 (by first | exact hb1 | exact (Below.refl _ w).drew.trans hb1); have hl2 := HL.out w1.drew (by first | exact hb1.drew | exact ((Below.refl _ w).drew.trans hb1).drew)))
  all_goals go_wp2_with fail
  go_ret2
  exact ⟨rfl, (Below.refl _ w).drew.trans hb1⟩

/-- place at whatever node. -/
theorem place_any (c : Cel) (k : Fo) (v : Value) (Bt b N : Nat) (ks : List Fun) (rk : Fun → Int) (w0 w : World) (hok : (Fo.node c k .nil).ok) (hw : Below w0.heap.size w0 w) (hm : FunMap w b N ks rk) (hf : c.1 = 2 ∨ c.1 = 3 → (strOfNums c.2.2, c.2.1) ∈ ks) (hn : NodeIn w0 Bt c (fun kv => FoIn w0 Bt k kv) v) :
    Calls Try.prog 78 #[.map (some b), v] w (PlaceOut w c.1 (rankOf rk c)) := by
  rcases hn with ⟨h0, rfl⟩ | ⟨h0, rfl⟩ | ⟨h0, rfl⟩ | ⟨h0, cb, g, vs, rfl, _, _, c0, c1, _, _, hk⟩
  · rw [rankOf, if_neg (by rw [h0]; decide), h0]
    exact placeVar_any _ b w
  · rw [rankOf, if_neg (by rw [h0]; decide), h0]
    exact placeNum_any _ b w
  · have hc1 : c.2.1 = 0 := by have := hok.1; rw [h0] at this; simp [cellB] at this; exact this.2
    have hf' := hf (.inl h0)
    rw [hc1] at hf'
    rw [rankOf, if_pos (.inl h0), h0, hc1]
    exact placeAtom_any _ b N ks rk w hm hf'
  · have hc1 : c.2.1 = (vs.length : Int) := by rw [FoIn.count _ _ hk]; exact hok.2.2.1 h0
    have hf' := hf (.inr h0)
    rw [hc1] at hf'
    rw [rankOf, if_pos (.inr h0), h0, hc1]
    exact placeComp_any cb g vs.length _ b N ks rk w ((hw.cell (World.block_lt_of_cell? _ _ c0)).trans c0) ((hw.cell (World.block_lt_of_cell? _ _ c1)).trans c1) hm hf'

end Go.Proofs.Ytopdhjnpcpkmlaa
