/- Texts of ProofCommon, WiA, Own, WiB. Own work of the verifier. -/
import Derived.Test.YtfgmenkoeflhaaaGreatDoorRows
import Derived.Test.YtfgmenkoeflhaaaGreatDoorTie
import Derived.Test.YtfgmenkoeflhaaaGreatDoorCards
import Derived.Test.YtfgmenkoeflhaaaGreatDoorUqac
import Derived.ProofKit
import Derived.OpenShut
import Derived.Stop.Joined
import Derived.Lib.LaidTab
import Derived.Carry
import Derived.SevenTiedAt
import Derived.LaidMore
import Derived.WalkSmall
import Derived.Deep.AppendLies
import Derived.Deep.RegionHeld3
namespace Go.Proofs.YtfgmenkoeflhaaaGreatDoor
section
open Go Go.ChangeShapes Go.WideShapes Go.ChangeAt Go.WideMaps Go.WideElems Go.RowKit
theorem own : ownKnob Tryz.prog.godebug = none := by kernel_rfl
theorem laidOut : laidOutB Tryz.prog = true := by kernel_rfl
theorem cellsByte : Tryz.prog.cellsOf 5 = 1 := by kernel_rfl
theorem gTab : Tryz.prog.globalNamed "loop.example/s00095/impl.charKinds" = some 1 := by kernel_rfl
theorem tTab : (Tryz.prog.globals[1]?).map (·.type) = some 115 := by kernel_rfl
theorem cellsKind : Tryz.prog.cellsOf 70 = 1 := by kernel_rfl
theorem cellsTab : Tryz.prog.cellsOf 115 = 128 := by kernel_rfl
theorem datumTab : (Rows.laid_loop_example_s00095_impl_charKinds : DataW Unit) = Lib.tabData .u8 tab := by rfl
abbrev laid1 : List (String × DataW Unit) := [("loop.example/s00095/impl.charKinds", Rows.laid_loop_example_s00095_impl_charKinds)]
theorem tab_of {W : World} (h : laidMetH Tryz.prog laid1 W) : Tab W := by
 rw [MakeChecks.laidMetH_plain _ _ _ (by kernel_rfl)] at h
 have h' : laidMet Tryz.prog [("loop.example/s00095/impl.charKinds", Lib.tabData .u8 tab)] W := by rw [← datumTab]; exact h
 have hT := Lib.tabIs_of_head (k := .u8) (zs := tab) gTab tTab Tryz.underlying115 Tryz.underlying70 cellsKind cellsTab h'
 exact fun i hi => hT.cell gTab i hi
theorem vars_again {H : Type} {enc : TypeId × Value → H} {W W' : World} {gs : List (DataW H)} {q : List MemPlace} (hT : Tab W) (hB : Below W.heap.size W W') (hlt : ∀ x ∈ q, x.block < W.heap.size)
 (hV : DataW.TrodVars enc Tryz.prog W (fun _ => true) ["loop.example/s00095/impl.charKinds"] gs q) :
 ∃ d pv, gs = [d] ∧ DataW.TrodVars enc Tryz.prog W' (fun b => decide (b < W.heap.size)) ["loop.example/s00095/impl.charKinds"] [d] pv := by
 obtain ⟨g, t, cs, fuel, d, p, rfl, hg, ht, hv, hd, rfl⟩ := trodVars_one hV; obtain rfl := Option.some.inj (gTab.symm.trans hg); obtain rfl := Option.some.inj (tTab.symm.trans ht); have hg0 : 1 < W.heap.size := World.block_lt_of_cell? _ _ (hT 0 (by decide)); have hv' := var?_below hB hg hg0 hv
 have h0 : DataW.Trod enc Tryz.prog W 0 (fun _ => true) true 115 (.agg cs) d p := ⟨fuel, by simpa [Value.cells] using hd⟩
 obtain ⟨fuel', h1⟩ := Below.trod laidOut (by kernel_rfl) (of_decide_eq_true (by kernel_rfl)) h0 hB (fun x hx => hlt x (List.mem_append_right _ hx)); exact ⟨d, _, rfl, trodVars_mk1 hg ht hv' (by simpa [Value.cells] using h1)⟩
end
section
open Go Go.RowKit
set_option linter.unusedVariables false
def OwnS (w : World) (B : Nat) (p : Option Addr) (n c : Nat) (ys : List Int) : Prop := n = ys.length ∧ w.ownsRow B 5 1 (.slice p n c) n (ys.map (Value.int .u8))
theorem OwnS.len {w : World} {B : Nat} {p : Option Addr} {n c : Nat} {ys : List Int} (h : OwnS w B p n c ys) : n = ys.length := h.1
theorem OwnS.nil (w : World) (B : Nat) : OwnS w B none 0 0 [] := ⟨rfl, World.ownsRow_nil _ _ _ _⟩
theorem OwnS.bin {w : World} {B : Nat} {p : Option Addr} {n c : Nat} {ys : List Int} (h : OwnS w B p n c ys) : BIn w p ys := fun hn => by
 obtain ⟨rfl, hr⟩ := h; obtain ⟨g, cap, hv, hb, hg⟩ := hr.form hn; simp only [Value.slice.injEq, true_and] at hv; obtain ⟨rfl, rfl⟩ := hv; exact ⟨g, 0, rfl, fun i hi => by rw [Nat.zero_add, hr.cellAt i (by omega)]; simp [List.getD, hi]⟩
theorem OwnS.form {w : World} {B : Nat} {p : Option Addr} {n c : Nat} {ys : List Int} (h : OwnS w B p n c ys) : (p = none ∧ n = 0 ∧ c = 0) ∨ ∃ g, p = some ⟨g, 0, none⟩ ∧ B ≤ g ∧ g < w.heap.size := by
 obtain ⟨rfl, hr⟩ := h
 rcases hr.2 with ⟨hv, h0⟩ | ⟨g, cap, cur, hv, hb, hg, _⟩
 ·simp only [Value.slice.injEq] at hv
  exact .inl hv
 ·simp only [Value.slice.injEq, true_and] at hv
  exact .inr ⟨g, hv.1, hb, (Array.getElem?_eq_some_iff.1 hg).1⟩
theorem OwnS.below {w w' : World} {B : Nat} {p : Option Addr} {n c : Nat} {ys : List Int} (h : OwnS w B p n c ys) (hb : Below w.heap.size w w') : OwnS w' B p n c ys := by
 obtain ⟨rfl, hr⟩ := h; refine ⟨rfl, hr.1, ?_⟩
 rcases hr.2 with h' | ⟨g, cap, cur, hv, hB, hg, r⟩
 ·exact .inl h'
 ·exact .inr ⟨g, cap, cur, hv, hB, (hb.block g (Array.getElem?_eq_some_iff.1 hg).1).trans hg, r⟩
theorem OwnS.alloc {w : World} {B : Nat} {p : Option Addr} {n c : Nat} {ys : List Int} (h : OwnS w B p n c ys) (o : Obj) : OwnS (w.alloc o) B p n c ys := ⟨h.1, h.2.alloc o⟩
theorem OwnS.row {w : World} {B g n c : Nat} {ys : List Int} (h : OwnS w B (some ⟨g, 0, none⟩) n c ys) : Row w g ys := by obtain ⟨rfl, hr⟩ := h; exact row_of_owns hr
theorem oneCells (zs : List Int) : ∀ u ∈ zs.map (Value.int .u8), u.oneCell' = true := fun u hu => by
 obtain ⟨z, _, rfl⟩ := List.mem_map.1 hu; rfl
theorem app_bytes (w : World) {ops : Array Oper} {rest : List Oper} {o : Oper} {a : Act} {Q : Exit → Act → World → Prop} (hgd : o.guard = none) (s x : Operand)
 (ho : o.op = .call { callee := .builtin .append, args := #[s, x], argTypes := #[22, 22] }) (B : Nat) (p : Option Addr) (n c : Nat) (ys zs : List Int) (m : Nat) (hmz : m = zs.length)
 (hs : a.eval s = .slice p n c) (hown : OwnS w B p n c ys) (ad : Addr) (c' : Nat) (hx : a.eval x = .slice (some ad) m c') (hnews : ∀ j u, (zs.map (Value.int .u8))[j]? = some u → w.cell? (ad.add j) = some u)
 (hm : 0 < m) (hlen : n + m ≤ 1000000000000) (hbase : B ≤ w.heap.size)
 (h : ∀ g n' cap w', OwnS w' B (some ⟨g, 0, none⟩) n' cap (ys ++ zs) → Below B w w' → Hid (n' = n + m) → wpList Tryz.prog ops Q rest (a.put o.dst (.slice (some ⟨g, 0, none⟩) n' cap)) w') : wpList Tryz.prog ops Q (o :: rest) a w := by
 obtain ⟨i0, hi, hz0, hz1, hz2⟩ := info_parts infoByte; subst hmz; obtain ⟨rfl, hr⟩ := hown; refine wpList_append_lies w hgd s x 22 ho B 5 i0 (.int .u8 0) 1 1 Tryz.underlying22 hi hz0 hz1 hz2 rfl (by decide) (.slice p ys.length c) ys.length (ys.map (Value.int .u8)) hs hr ad zs.length c' (zs.map (Value.int .u8)) hx (by simp) hnews (oneCells zs) hm (by unfold maxLen; omega) (by omega) hbase w.heap.size rfl ?_
 intro g cap w' hown' hgrow hat hlt
 refine h g _ cap w' ⟨by simp, by rw [List.map_append]; exact hown'⟩ ((Below.refl _ _).grown hgrow hbase (fun k hk => ?_)) rfl
 rcases OwnS.form (ys := ys) ⟨rfl, hr⟩ with ⟨rfl, _⟩ | ⟨g', rfl, hB, _⟩
 ·simp [Value.ownBlock] at hk
 ·simp [Value.ownBlock] at hk; omega
theorem step_app_bytes (w : World) {ops : Array Oper} {o : Oper} {a : Act} {K : Act → World → Prop} {Q : Exit → Act → World → Prop} {E : Prop} (hgd : o.guard = none) (s x : Operand)
 (ho : o.op = .call { callee := .builtin .append, args := #[s, x], argTypes := #[22, 22] }) (B : Nat) (p : Option Addr) (n c : Nat) (ys zs : List Int) (m : Nat) (hmz : m = zs.length)
 (hs : a.eval s = .slice p n c) (hown : OwnS w B p n c ys) (ad : Addr) (c' : Nat) (hx : a.eval x = .slice (some ad) m c') (hnews : ∀ j u, (zs.map (Value.int .u8))[j]? = some u → w.cell? (ad.add j) = some u)
 (hm : 0 < m) (hlen : n + m ≤ 1000000000000) (hbase : B ≤ w.heap.size)
 (h : ∀ g n' cap w', OwnS w' B (some ⟨g, 0, none⟩) n' cap (ys ++ zs) → Below B w w' → Hid (n' = n + m) → K (a.put o.dst (.slice (some ⟨g, 0, none⟩) n' cap)) w') :
 if Region.wanted o (yielded ops a.tmps) = true then Oper.wp Tryz.prog o a w K Q else E := by
 obtain ⟨i0, hi, hz0, hz1, hz2⟩ := info_parts infoByte; subst hmz; obtain ⟨rfl, hr⟩ := hown; refine step_append_lies w hgd s x 22 ho B 5 i0 (.int .u8 0) 1 1 Tryz.underlying22 hi hz0 hz1 hz2 rfl (by decide) (.slice p ys.length c) ys.length (ys.map (Value.int .u8)) hs hr ad zs.length c' (zs.map (Value.int .u8)) hx (by simp) hnews (oneCells zs) hm (by unfold maxLen; omega) (by omega) hbase w.heap.size rfl ?_
 intro g cap w' hown' hgrow hat hlt
 refine h g _ cap w' ⟨by simp, by rw [List.map_append]; exact hown'⟩ ((Below.refl _ _).grown hgrow hbase (fun k hk => ?_)) rfl
 rcases OwnS.form (ys := ys) ⟨rfl, hr⟩ with ⟨rfl, _⟩ | ⟨g', rfl, hB, _⟩
 ·simp [Value.ownBlock] at hk
 ·simp [Value.ownBlock] at hk; omega
end
end Go.Proofs.YtfgmenkoeflhaaaGreatDoor
