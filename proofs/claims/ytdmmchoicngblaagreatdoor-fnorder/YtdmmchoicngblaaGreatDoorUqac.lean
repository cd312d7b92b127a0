/- Texts of IntG, KeyP, FunK, Or0, MarkA, Mark, MarkT, MarkG, MarkC, MarkH, SSG, CArg, L1c, IntM, EvA, Lay3, Pure, RegK, RegK2, StrI, RegA, ErrIs, StrU, IbM, Rd1, Rd2. Own work of the verifier. -/
import Derived.Test.YtdmmchoicngblaaGreatDoorUqaa
import Derived.Maps.OwnSet
import Derived.Maps.OwnOps
import Derived.Maps.RangeWalk
import Derived.DeepKeys4
import Derived.LoopN
import Derived.Deep.Upon
import Derived.Below
import Derived.Orders
import Derived.Shelf.Abstract
import Derived.LaidEql
import Derived.Stop.Asserts
import Derived.RowKitTokens
namespace Go.Proofs.YtdmmchoicngblaaGreatDoor
set_option linter.unusedVariables false
set_option maxRecDepth 100000
section
open Go Go.RowKit Go.Maps
theorem infoInt : (Tryz.prog.info? 3).map (fun i => (i.zero, i.size, i.bytes)) = some (some (.int .i64 0), 1, 8) := by kernel_rfl
def OwnI (w : World) (B : Nat) (t : TypeId) (p : Option Addr) (n c : Nat) (zs : List Int) : Prop := n = zs.length ∧ w.ownsRow B t 1 (.slice p n c) n (zs.map (Value.int .i64))
def IIn (w : World) (p : Option Addr) (zs : List Int) : Prop := 0 < zs.length → ∃ b o, p = some ⟨b, o, none⟩ ∧ ∀ i, i < zs.length → w.cell? ⟨b, o + i, none⟩ = some (.int .i64 (zs.getD i 0))
theorem OwnI.iin {w : World} {B : Nat} {t : TypeId} {p : Option Addr} {n c : Nat} {zs : List Int} (h : OwnI w B t p n c zs) : IIn w p zs := fun hn => by
 obtain ⟨rfl, hr⟩ := h; obtain ⟨g, cap, hv, hb, hg⟩ := hr.form hn; simp only [Value.slice.injEq, true_and] at hv; obtain ⟨rfl, rfl⟩ := hv; exact ⟨g, 0, rfl, fun i hi => by rw [Nat.zero_add, hr.cellAt i (by omega)]; simp [List.getD, hi]⟩
theorem IIn.below {W W' : World} {p : Option Addr} {zs : List Int} (h : IIn W p zs) (hb : Below W.heap.size W W') : IIn W' p zs := fun hn => by
 obtain ⟨b, o, rfl, hc⟩ := h hn; exact ⟨b, o, rfl, fun i hi => (hb.cell (World.block_lt_of_cell? _ _ (hc i hi))).trans (hc i hi)⟩
theorem OwnI.nil (w : World) (B : Nat) (t : TypeId) : OwnI w B t none 0 0 [] := ⟨rfl, World.ownsRow_nil _ _ _ _⟩
theorem OwnI.below {w w' : World} {B : Nat} {t : TypeId} {p : Option Addr} {n c : Nat} {zs : List Int} (h : OwnI w B t p n c zs) (hb : Below w.heap.size w w') : OwnI w' B t p n c zs := ⟨h.1, row_below h.2 hb⟩
theorem OwnI.mono {w : World} {B B' : Nat} {t : TypeId} {p : Option Addr} {n c : Nat} {zs : List Int} (h : OwnI w B t p n c zs) (hB : B' ≤ B) : OwnI w B' t p n c zs := ⟨h.1, ownsRow_down h.2 hB⟩
theorem app_int (w : World) {ops : Array Oper} {rest : List Oper} {o : Oper} {a : Act} {Q : Exit → Act → World → Prop} (hgd : o.guard = none) (s x : Operand)
  (ho : o.op = .call { callee := .builtin .append, args := #[s, x], argTypes := #[34, 34] }) (B : Nat) (p : Option Addr) (n c : Nat) (ys : List Int) (z : Int)
  (hs : a.eval s = .slice p n c) (hown : OwnI w B 3 p n c ys) (hx : a.eval x = .slice (some ⟨w.heap.size, 0, none⟩) 1 1)
  (hlen : n + 1 ≤ 1000000000) (hbase : B ≤ w.heap.size)
  (h : ∀ g n' cap w', OwnI w' B 3 (some ⟨g, 0, none⟩) n' cap (ys ++ [z]) → Below B (w.alloc (.cells #[.int .i64 z] 3)) w' → Hid (n' = n + 1) → wpList Tryz.prog ops Q rest (a.put o.dst (.slice (some ⟨g, 0, none⟩) n' cap)) w') : wpList Tryz.prog ops Q (o :: rest) a (w.alloc (.cells #[.int .i64 z] 3)) := by
 obtain ⟨i0, hi, hz0, hz1, hz2⟩ := info_parts infoInt; refine wpList_append_lies _ hgd s x 34 ho B 3 i0 (.int .i64 0) 1 8 Tryz.underlying34 hi hz0 hz1 hz2 rfl (by decide) (.slice p n c) n (ys.map (Value.int .i64)) hs (hown.2.alloc _) ⟨w.heap.size, 0, none⟩ 1 1 [.int .i64 z] hx rfl (cell_one_new _ _ _) (ints_oneCell .i64 [z]) (by decide) (by unfold maxLen; omega) (by omega) (by simp; omega) _ rfl ?_
 intro g cap w' hown' hgrow hat hlt
 refine h g _ cap w' ⟨by have := hown.1; simp; omega, by rw [List.map_append]; exact hown'⟩ ((Below.refl _ _).grown hgrow (by simp; omega) (fun k hk => (hown.2.lt k hk).1)) rfl
theorem keyPair (P : Program) (k s i : TypeId) (F : Array Field) (f0 f1 : Field) (hF : F = #[f0, f1]) (hu : P.underlying k = some (.struct F)) (t0 : f0.type = s) (o0 : f0.offset = 0) (t1 : f1.type = i) (o1 : f1.offset = 1) (n0 : (f0.name != "_") = true) (n1 : (f1.name != "_") = true)
  (hs : P.underlying s = some .string) (hi : P.underlying i = some (.int .i64)) (ck : P.cellsOf k = 2) (cs : P.cellsOf s = 1) (ci : P.cellsOf i = 1) (ht : P.keyType k = true) (n : Nat) (hn : P.types.size = n + 1) (x : ByteArray) (y : Int) (hx : x.size ≤ maxLen) (hw : (Lit.int .i64 y).wf = true) :
  keyOf P k (.agg #[.string x, .int .i64 y]) = some (.string (keyBytes [.string x.data.toList, .int .i64 y])) := by
 subst hF
 have e0 : P.keyLits (n + 1) s [.string x] = some [.string x.data.toList] := by unfold Program.keyLits; rw [hs]; simp [hx]
 have e1 : P.keyLits (n + 1) i [.int .i64 y] = some [.int .i64 y] := by unfold Program.keyLits; rw [hi]; simp [hw]
 have e2 : P.keyLits (P.types.size + 1) k [.string x, .int .i64 y] = some [.string x.data.toList, .int .i64 y] := by
  rw [hn]
  unfold Program.keyLits
  rw [hu]
  simp [ck, n0, n1, t0, t1, o0, o1, cs, ci, e0, e1]
 have e3 : (Value.agg #[.string x, .int .i64 y]).formed P k = true := by simp [Value.formed, hu, ck]
 unfold keyOf
 rw [hu]; simp only [ht, e3, Bool.and_self, if_true]
 have e4 : (Value.agg #[.string x, .int .i64 y]).cells.toList = [.string x, .int .i64 y] := by simp [Value.cells]
 rw [e4, e2]
 rfl
theorem keyStr_inv {P : Program} {s : TypeId} (hs : P.underlying s = some .string) {n : Nat} {cs : List Value} {L : List Lit} (h : P.keyLits (n + 1) s cs = some L) : ∃ x, cs = [.string x] := by
 unfold Program.keyLits at h
 rw [hs] at h
 match cs, h with
 | [.string x], _ => exact ⟨x, rfl⟩
theorem keyInt_inv {P : Program} {s : TypeId} (hs : P.underlying s = some (.int .i64)) {n : Nat} {cs : List Value} {L : List Lit} (h : P.keyLits (n + 1) s cs = some L) : ∃ x, cs = [.int .i64 x] := by
 unfold Program.keyLits at h
 rw [hs] at h
 match cs, h with
 | [.int q x], h =>
   simp only at h
   split at h
   ·rename_i hq; exact ⟨x, by rw [hq.1]⟩
   ·cases h
theorem keyPair_inv (P : Program) (k s i : TypeId) (F : Array Field) (f0 f1 : Field) (hF : F = #[f0, f1]) (hu : P.underlying k = some (.struct F)) (t0 : f0.type = s) (o0 : f0.offset = 0) (t1 : f1.type = i) (o1 : f1.offset = 1) (n0 : (f0.name != "_") = true) (n1 : (f1.name != "_") = true)
  (hs : P.underlying s = some .string) (hi : P.underlying i = some (.int .i64)) (ck : P.cellsOf k = 2) (cs : P.cellsOf s = 1) (ci : P.cellsOf i = 1) (n : Nat) (hn : P.types.size = n + 1) {v : Value} {l : Lit} (h : keyOf P k v = some l) :
  ∃ (x : ByteArray) (y : Int), v = .agg #[.string x, .int .i64 y] := by
 subst hF
 have hwide : (match P.underlying k with | some (.array _ _) | some (.struct _) => true | _ => false) = true := by rw [hu]
 obtain ⟨xs, L, rfl, h1, _⟩ := keyOf_top hwide h; obtain ⟨xl⟩ := xs; rw [hn] at h1
 unfold Program.keyLits at h1
 rw [hu] at h1; simp only [ck] at h1
 split at h1
 ·rename_i hl
  obtain ⟨a, b, rfl⟩ : ∃ a b, xl = [a, b] := by
   match xl, hl.1 with
   | [a, b], _ => exact ⟨a, b, rfl⟩
  simp only [t0, t1, o0, o1, cs, ci, List.drop_zero, List.take_succ_cons, List.take_zero, List.drop_succ_cons, List.mapM_cons, List.mapM_nil, Option.pure_def, Option.bind_eq_bind] at h1
  cases e0 : P.keyLits (n + 1) s [a] with
  | none => simp [e0] at h1
  | some L0 =>
    cases e1 : P.keyLits (n + 1) i [b] with
    | none => simp [e0, e1] at h1
    | some L1 =>
      obtain ⟨x, hx⟩ := keyStr_inv hs e0; obtain ⟨y, hy⟩ := keyInt_inv hi e1; simp only [List.cons.injEq, and_true] at hx hy; exact ⟨x, y, by rw [hx, hy]⟩
 ·cases h1
abbrev Fun := ByteArray × Int
theorem laidFun : laidOutB Tryz.prog = true := by kernel_rfl
theorem rowFun : (78 : TypeId) < Tryz.prog.types.size := of_decide_eq_true (by kernel_rfl)
theorem keyAtFun : Tryz.prog.keyTypeAt 3 78 = true := by kernel_rfl
theorem lawFunK : WideMaps.KeyLaw Tryz.prog 78 := deep_law_laid laidFun (m := 3) (by decide) rowFun keyAtFun (by kernel_rfl)
theorem lawFun : Keyed Tryz.prog 78 := Keyed.of_law lawFunK
theorem typFun : Tryz.prog.keyType 78 = true := by kernel_rfl
theorem cellsFun : Tryz.prog.cellsOf 78 = 2 := by kernel_rfl
theorem cellsStr : Tryz.prog.cellsOf 9 = 1 := by kernel_rfl
theorem cellsIn : Tryz.prog.cellsOf 3 = 1 := by kernel_rfl
def fk (f : Fun) : Lit := .string (keyBytes [.string f.1.data.toList, .int .i64 f.2])
theorem nTypes : ∃ n, Tryz.prog.types.size = n + 1 := by
 have h : 78 < Tryz.prog.types.size := rowFun
 generalize Tryz.prog.types.size = m at h
 exact ⟨m - 1, by omega⟩
theorem keyFun (f : Fun) (hs : f.1.size ≤ 1000000) (h0 : 0 ≤ f.2) (h1 : f.2 ≤ 1000000) : keyOf Tryz.prog 78 (.agg #[.string f.1, .int .i64 f.2]) = some (fk f) := by
 obtain ⟨n, hn⟩ := nTypes
 have hx : f.1.size ≤ maxLen := by unfold maxLen; omega
 have hw : (Lit.int .i64 f.2).wf = true := WalkArith.wf_i64 (by omega); exact keyPair Tryz.prog 78 9 3 _ _ _ rfl Tryz.underlying78 rfl rfl rfl rfl (by decide) (by decide) Tryz.underlying9 Tryz.underlying3 cellsFun cellsStr cellsIn typFun n hn f.1 f.2 hx hw
theorem fk_inj {f g : Fun} (hf : f.1.size ≤ 1000000 ∧ 0 ≤ f.2 ∧ f.2 ≤ 1000000) (hg : g.1.size ≤ 1000000 ∧ 0 ≤ g.2 ∧ g.2 ≤ 1000000) (h : fk f = fk g) : f = g := by
 have h1 := keyFun f hf.1 hf.2.1 hf.2.2; have h2 := keyFun g hg.1 hg.2.1 hg.2.2; rw [← h] at h2; have := lawFun.inj h1 h2; obtain ⟨f1, f2⟩ := f; obtain ⟨g1, g2⟩ := g
 simpa using this
end
section
open Go Go.RowKit
def orI (x y : Int) : Int := if x ≠ 0 then x else y
theorem or_any (b : Nat) (x y : Int) (w : World) (h0 : w.cell? ⟨b, 0, none⟩ = some (.int .i64 x)) (h1 : w.cell? ⟨b, 1, none⟩ = some (.int .i64 y)) : Calls Tryz.prog 121 #[.slice (some ⟨b, 0, none⟩) 2 2] w fun e w' => e = .returned (.int .i64 (orI x y)) ∧ w' = w := by
 have FIN : Hid (∀ c, c = orI x y → Ending.returned (.int .i64 c) = .returned (.int .i64 (orI x y))) := fun c h => ret_int h
 go_enter Tryz.func121, Tryz.ntmps121
 go_wp2_with fail
 go_loop [8] (fun i => i = .int .i64 0 ∨ (i = .int .i64 1 ∧ x = 0) ∨ (i = .int .i64 2 ∧ x = 0 ∧ y = 0)) (fun i => 2 - (intOf i).toNat)
 case atStart => exact .inl rfl
 case round =>
  rcases hrel with rfl | ⟨rfl, rfl⟩ | ⟨rfl, rfl, rfl⟩
  ·by_cases hx : x = 0
   ·subst hx
    go_wp2_with fail; go_roundw
    case rel => exact .inr (.inl ⟨by go_num, by simp⟩)
    case measure => simp [intOf]
   ·have HF : Hid _ := FIN.out x (by rw [orI, if_pos hx])
    go_wp2_with fail; go_ret; exact ⟨HF.out, rfl⟩
  ·by_cases hx : y = 0
   ·subst hx
    go_wp2_with fail; go_roundw
    case rel => exact .inr (.inr ⟨by go_num, by simp⟩)
    case measure => simp [intOf]
   ·have HF : Hid _ := FIN.out y (by rw [orI, if_neg (by simp)])
    go_wp2_with fail; go_ret; exact ⟨HF.out, rfl⟩
  ·go_wp2_with fail
   go_ret; exact ⟨rfl, rfl⟩
theorem pair_new (W : World) (a b : Value) (t : TypeId) : (W.alloc (.cells #[a, b] t)).cell? ⟨W.heap.size, 0, none⟩ = some a ∧ (W.alloc (.cells #[a, b] t)).cell? ⟨W.heap.size, 1, none⟩ = some b :=
 ⟨by simp [World.cell?_alloc_new], by simp [World.cell?_alloc_new]⟩
def marks (k : Int) : Nat → List Int
 | 0 => []
 | n + 1 => (k % 256) :: marks (k + 1) n
theorem OwnS.kept {w w' : World} {B : Nat} {p : Option Addr} {n c : Nat} {ys : List Int} {row : Option Nat} (h : OwnS w B p n c ys) (hg : w.grownBy w' row) (hne : ∀ g, p = some ⟨g, 0, none⟩ → row ≠ some g) : OwnS w' B p n c ys := by
 obtain ⟨rfl, hr⟩ := h; refine ⟨rfl, hr.1, ?_⟩
 rcases hr.2 with h' | ⟨g, cap, cur, hv, hB, hg', r⟩
 ·exact .inl h'
 ·have hp : p = some ⟨g, 0, none⟩ := by simp only [Value.slice.injEq] at hv; exact hv.1
  exact .inr ⟨g, cap, cur, hv, hB, (hg.block g (Array.getElem?_eq_some_iff.1 hg').1 (fun e => hne g hp e.symm)).trans hg', r⟩
theorem OwnS.drewN {w : World} {B : Nat} {p : Option Addr} {n c : Nat} {ys : List Int} (h : OwnS w B p n c ys) (m : Nat) : OwnS (w.drewN m) B p n c ys := ⟨h.1, h.2⟩
def tb (p : Option Addr) (n : Nat) : Option Nat := if n = 0 then none else p.map Addr.block
structure Keep (B U : Nat) (w w' : World) : Prop where
 os : w'.os = w.os
 tape : w'.tape = w.tape
 output : w'.output = w.output
 size : w.heap.size ≤ w'.heap.size
 block : ∀ k, k < w.heap.size → (k < B ∨ U ≤ k) → w'.heap[k]? = w.heap[k]?
theorem Keep.refl (B U : Nat) (w : World) : Keep B U w w := ⟨rfl, rfl, rfl, Nat.le_refl _, fun _ _ _ => rfl⟩
theorem Keep.trans {B U : Nat} {a b c : World} (h : Keep B U a b) (k : Keep B U b c) : Keep B U a c :=
 ⟨k.os.trans h.os, k.tape.trans h.tape, k.output.trans h.output, Nat.le_trans h.size k.size, fun i hi hp => (k.block i (Nat.lt_of_lt_of_le hi h.size) hp).trans (h.block i hi hp)⟩
theorem Keep.below {B U : Nat} {w w' : World} (h : Keep B U w w') {A : Nat} (hA : A ≤ B) (hs : A ≤ w.heap.size) : Below A w w' := ⟨h.os, h.tape, h.output, h.size, fun k hk => h.block k (by omega) (.inl (by omega))⟩
theorem Keep.of_grown {B U : Nat} {w w' : World} {row : Option Nat} (h : w.grownBy w' row) (hr : ∀ k, row = some k → B ≤ k ∧ k < U) : Keep B U w w' :=
 ⟨h.os, h.tape, h.output, h.size, fun k hk hp => h.block k hk (fun e => by have := hr k e.symm; omega)⟩
theorem tb_of {g n : Nat} (h : 0 < n) : tb (some ⟨g, 0, none⟩) n = some g := by unfold tb; rw [if_neg (by omega)]; rfl
theorem tb_some {p : Option Addr} {n k : Nat} (h : tb p n = some k) : 0 < n ∧ ∃ a, p = some a ∧ a.block = k := by
 unfold tb at h
 split at h
 ·cases h
 ·cases p with
  | none => cases h
  | some a => exact ⟨by omega, a, rfl, Option.some.inj h⟩
theorem OwnT.tb {w : World} {B : Nat} {p : Option Addr} {n c : Nat} {ys : List Int} (h : OwnT w B p n c ys) {k : Nat} (e : tb p n = some k) : p = some ⟨k, 0, none⟩ ∧ B ≤ k ∧ k < w.heap.size := by
 obtain ⟨hn, a, rfl, rfl⟩ := tb_some e; obtain ⟨g, e', h1, h2, _⟩ := h.2 hn; obtain rfl := Option.some.inj e'; exact ⟨rfl, h1, h2⟩
theorem cs_set_at (cs : List Cel) (i j : Nat) (r : Cel) (h : i < cs.length) : (cs.set i r).getD j Cel.none = if j = i then r else cs.getD j Cel.none := by
 simp only [List.getD, List.getElem?_set]
 by_cases e : j = i
 ·subst e; simp [h]
 ·have : ¬ i = j := fun x => e x.symm
  simp [this, e]
def OwnCU (w : World) (B U : Nat) (p : Option Addr) (n c : Nat) (cs : List Cel) : Prop :=
 n = cs.length ∧ ∃ rs : List RC, rs.length = cs.length ∧ w.ownsRow B 55 3 (.slice p n c) n (flat rs) ∧ (∀ i, i < cs.length → Fits w B (rs.getD i RC.zero) (cs.getD i Cel.none)) ∧ ApartC p rs ∧
   (∀ k, Value.ownBlock (.slice p n c) = some k → k < U) ∧ (∀ i, i < cs.length → ∀ k, tb (rs.getD i RC.zero).2.2.1 (rs.getD i RC.zero).2.2.2.1 = some k → k < U)
theorem OwnCU.toC {w : World} {B U : Nat} {p : Option Addr} {n c : Nat} {cs : List Cel} (h : OwnCU w B U p n c cs) : OwnC w B p n c cs := by
 obtain ⟨hn, rs, hl, hr, hf, ha, _⟩ := h; exact ⟨hn, rs, hl, hr, hf, ha⟩
theorem OwnC.up {w : World} {B : Nat} {p : Option Addr} {n c : Nat} {cs : List Cel} (h : OwnC w B p n c cs) : OwnCU w B w.heap.size p n c cs := by
 obtain ⟨hn, rs, hl, hr, hf, ha⟩ := h; exact ⟨hn, rs, hl, hr, hf, ha, fun k hk => (hr.lt k hk).2, fun i hi k hk => ((hf i hi).2.2.tb hk).2.2⟩
theorem OwnCU.other {w w' : World} {B U : Nat} {p : Option Addr} {n c : Nat} {cs : List Cel} (h : OwnCU w B U p n c cs) (hs : w.heap.size ≤ w'.heap.size) (hb : ∀ k, k < w.heap.size → B ≤ k → k < U → w'.heap[k]? = w.heap[k]?) : OwnCU w' B U p n c cs := by
 obtain ⟨hn, rs, hl, hr, hf, ha, hu, ht⟩ := h; refine ⟨hn, rs, hl, ⟨hr.1, ?_⟩, fun i hi => ⟨(hf i hi).1, (hf i hi).2.1, (hf i hi).2.2.other hs (fun g hn0 e => ?_)⟩, ha, hu, ht⟩
 ·rcases hr.2 with h' | ⟨g, cap, cur, hv, hB, hg, r⟩
  ·exact .inl h'
  ·refine .inr ⟨g, cap, cur, hv, hB, (hb g (Array.getElem?_eq_some_iff.1 hg).1 hB (hu g ?_)).trans hg, r⟩
   simp only [Value.slice.injEq] at hv; rw [hv.1]; rfl
 ·have e' : Go.Proofs.YtdmmchoicngblaaGreatDoor.tb (rs.getD i RC.zero).2.2.1 (rs.getD i RC.zero).2.2.2.1 = some g := by rw [e]; exact tb_of hn0
  have := (hf i hi).2.2.tb e'; exact hb g this.2.2 this.2.1 (ht i hi g e')
theorem OwnCU.below {w w' : World} {B U : Nat} {p : Option Addr} {n c : Nat} {cs : List Cel} (h : OwnCU w B U p n c cs) (hb : Below w.heap.size w w') : OwnCU w' B U p n c cs := h.other hb.size (fun k hk _ _ => hb.block k hk)
theorem OwnCU.keep {w w' : World} {B U B' U' : Nat} {p : Option Addr} {n c : Nat} {cs : List Cel} (h : OwnCU w B U p n c cs) (hk : Keep B' U' w w') (ho : U ≤ B' ∨ U' ≤ B) : OwnCU w' B U p n c cs := h.other hk.size (fun k h1 h2 h3 => hk.block k h1 (by omega))
theorem infoCells : (Tryz.prog.info? 23).map (fun i => (i.zero, i.size, i.bytes)) = some (some (.slice none 0 0), 1, 24) := by kernel_rfl
abbrev It := Option Addr × Nat × Nat × Nat
def It.zero : It := (none, 0, 0, 0)
theorem ds_append_at (ds : List It) (r : It) (i : Nat) (h : i ≤ ds.length) : (ds ++ [r]).getD i It.zero = if i = ds.length then r else ds.getD i It.zero := by
 by_cases e : i = ds.length
 ·subst e; simp [List.getD]
 ·rw [if_neg e, List.getD, List.getD, List.getElem?_append_left (by omega)]
def tll : List (List Cel) → Nat
 | [] => 0
 | c :: r => c.length + tl c + tll r
theorem tll_at : ∀ (css : List (List Cel)) (i : Nat), i < css.length → (css.getD i []).length + tl (css.getD i []) ≤ tll css
 | [], i, h => by simp at h
 | c :: r, 0, _ => by simp [tll]
 | c :: r, i + 1, h => by have := tll_at r i (by simpa using h); simp only [tll, List.getD_cons_succ]; omega
theorem news_of {w : World} {b o : Nat} {xs : List Int} (hc : ∀ i, i < xs.length → w.cell? ⟨b, o + i, none⟩ = some (.int .u8 (xs.getD i 0))) : ∀ j u, (xs.map (Value.int .u8))[j]? = some u → w.cell? ((⟨b, o, none⟩ : Addr).add j) = some u := fun j u hu => by
 have hj : j < xs.length := by
  rcases Nat.lt_or_ge j xs.length with h | h
  ·exact h
  ·simp [List.getElem?_eq_none h] at hu
 have e : (⟨b, o, none⟩ : Addr).add j = ⟨b, o + j, none⟩ := by unfold Addr.add; split <;> simp_all
 rw [e, hc j hj, ← hu]
 simp [List.getD, hj]
theorem app_nothing (w : World) {ops : Array Oper} {rest : List Oper} {o : Oper} {a : Act} {Q : Exit → Act → World → Prop} (hgd : o.guard = none) (s x : Operand)
  (ho : o.op = .call { callee := .builtin .append, args := #[s, x], argTypes := #[22, 22] }) (p : Option Addr) (n c : Nat) (hnc : n ≤ c) (hs : a.eval s = .slice p n c) (q : Option Addr) (c' : Nat) (hx : a.eval x = .slice q 0 c')
  (h : wpList Tryz.prog ops Q rest (a.put o.dst (.slice p n c)) w) : wpList Tryz.prog ops Q (o :: rest) a w := by
 obtain ⟨i0, hi, hz0, hz1, hz2⟩ := info_parts infoByte
 refine wpList_plain hgd fun K hK => ?_
 have hsrc : Src Tryz.prog i0.size 22 (.slice q 0 c') 0 [] w := by
  cases q with
  | none => exact Src.ofNil w Tryz.underlying22 c'
  | some ad => exact Src.ofSlice w Tryz.underlying22 ad 0 c' [] (by simp) (fun j u h => by simp at h) (fun u h => by cases h)
 have hr := fun ty => run_append_nothing (P := Tryz.prog) w 22 22 ty 5 i0 Tryz.underlying22 hi p n c hnc _ hsrc
 unfold Oper.wp
 simp [execOp, ho, resolve, invoke, builtin, hs, hx, hr, Result.andThen]
 exact hK _ _ h
theorem l1copy_all (p : Option Addr) (n c : Nat) (xs : List Int) (w : World) (hn : n = xs.length) (hm : n ≤ 10000000) (hc : BIn w p xs) :
  Calls Tryz.prog 41 #[.slice p n c] w fun e w' => ∃ p' n' c', e = .returned (.slice p' n' c') ∧ OwnS w' w.heap.size p' n' c' xs ∧ Below w.heap.size w w' := by
 by_cases h0 : 0 < n
 ·obtain ⟨b, o, rfl, hcc⟩ := hc (by omega)
  have HC : Hid (∀ i, i < xs.length → w.cell? ⟨b, o + i, none⟩ = some (.int .u8 (xs.getD i 0))) := hcc; have HN : Hid (n = xs.length) := hn; clear hc hn hcc
  go_enter Tryz.func41, Tryz.ntmps41
  go_wp2_with (at_builtin; refine app_bytes _ rfl _ _ rfl w.heap.size none 0 0 [] xs n HN.out rfl (OwnS.nil _ _) _ c rfl (news_of HC.out) h0 (by omega) (Nat.le_refl _) ?_; intro g n' cap w1 hown1 hb1 hn1); go_ret; exact ⟨_, _, _, rfl, hown1, hb1⟩
 ·obtain rfl : n = 0 := by omega
  obtain rfl : xs = [] := List.length_eq_zero_iff.1 hn.symm; clear hc hn
  go_enter Tryz.func41, Tryz.ntmps41
  go_wp2_with (at_builtin; refine app_nothing _ rfl _ _ rfl none 0 0 (Nat.le_refl _) rfl p c rfl ?_); go_ret; exact ⟨_, _, _, rfl, OwnS.nil _ _, Below.refl _ _⟩
end
section
open Go Go.RowKit Go.Maps
end
section
open Go Go.RowKit
def InB (v : Int) : Prop := -1000000000000000 ≤ v ∧ v ≤ 1000000000000000
instance (v : Int) : Decidable (InB v) := inferInstanceAs (Decidable (_ ∧ _))
end
section
open Go
def tab : List Int := [0, 0, 0, 0, 0, 0, 0, 0, 0, 16, 16, 0, 0, 16, 0, 0, 0, 0, 0, 0, 0, 0, 0, 0, 0, 0, 0, 0, 0, 0, 0, 0,
 16, 32, 0, 8, 8, 0, 8, 0, 64, 64, 8, 8, 64, 8, 8, 8, 4, 4, 4, 4, 4, 4, 4, 4, 4, 4, 8, 32, 8, 8, 8, 8,
 8, 2, 2, 2, 2, 2, 2, 2, 2, 2, 2, 2, 2, 2, 2, 2, 2, 2, 2, 2, 2, 2, 2, 2, 2, 2, 2, 64, 8, 64, 8, 2,
 0, 1, 1, 1, 1, 1, 1, 1, 1, 1, 1, 1, 1, 1, 1, 1, 1, 1, 1, 1, 1, 1, 1, 1, 1, 1, 1, 64, 64, 64, 8, 0]
def Bytes (xs : List Int) : Prop := ∀ x ∈ xs, 0 ≤ x ∧ x < 256
theorem Bytes.at {xs : List Int} (h : Bytes xs) (i : Nat) : 0 ≤ xs.getD i 0 ∧ xs.getD i 0 < 256 := by
 by_cases hi : i < xs.length
 ·have := h xs[i] (List.getElem_mem hi)
  simpa [List.getD, hi] using this
 ·simp [List.getD, List.getElem?_eq_none (Nat.le_of_not_lt hi)]
theorem Bytes.take {xs : List Int} (h : Bytes xs) (n : Nat) : Bytes (xs.take n) := fun x hx => h x (List.mem_of_mem_take hx)
theorem Bytes.drop {xs : List Int} (h : Bytes xs) (n : Nat) : Bytes (xs.drop n) := fun x hx => h x (List.mem_of_mem_drop hx)
section
variable {P : Program} {ops : Array Oper} {Q : Exit → Act → World → Prop} {md : Region.Mode} {S : World → Prop}
theorem hTake {i : Nat} {v : Value} {fuel : Nat} {listed : Array Bool} {a : Act} {w : World} (d : Option Tmp) (hd : (ops[i]?).map (·.dst) = some d)
  (hs : Region.noSelect ops = true) (hf : Region.free md ops listed i = true) (hr : (Region.ready md ops listed).contains i = true) (hw : (ops[i]?).map (fun o => Region.wanted o (yielded ops a.tmps)) = some true)
  (hQ : ∀ c a w, Q (.panic c) (a.put d v) w → Q (.panic c) a w) (hrun : ∀ o, ops[i]? = some o → ∀ w, S w → (execOp a.eval o).run P w = .ok (.value v) w) (hS : S w)
  (h : wpAnyH P md ops Q S fuel (listed.setIfInBounds i true) (a.put d v) w) : wpAnyH P md ops Q S (fuel + 1) listed a w := by
 cases hi : ops[i]? with
 | none => simp [hi] at hd
 | some o =>
   have hd' : o.dst = d := by simpa [hi] using hd
   have hw' : Region.wanted o (yielded ops a.tmps) = true := by simpa [hi] using hw
   subst hd'; exact wpAnyH_take hi hs hf hr hQ (.inl ⟨hw', hrun o hi⟩) hS h
theorem hSkip {i : Nat} {fuel : Nat} {listed : Array Bool} {a : Act} {w : World} (d : Option Tmp) (hd : (ops[i]?).map (·.dst) = some d)
  (hs : Region.noSelect ops = true) (hf : Region.free md ops listed i = true) (hr : (Region.ready md ops listed).contains i = true) (hw : (ops[i]?).map (fun o => Region.wanted o (yielded ops a.tmps)) = some false)
  (hQ : ∀ c a w, Q (.panic c) (a.put d undef) w → Q (.panic c) a w) (hS : S w)
  (h : wpAnyH P md ops Q S fuel (listed.setIfInBounds i true) (a.put d undef) w) : wpAnyH P md ops Q S (fuel + 1) listed a w := by
 cases hi : ops[i]? with
 | none => simp [hi] at hd
 | some o =>
   have hd' : o.dst = d := by simpa [hi] using hd
   have hw' : Region.wanted o (yielded ops a.tmps) = false := by simpa [hi] using hw
   subst hd'; exact wpAnyH_take hi hs hf hr hQ (.inr ⟨hw', rfl⟩) hS h
theorem hTk {i : Nat} {v : Value} {fuel : Nat} {listed : Array Bool} {a : Act} {w : World} (d : Option Tmp) (hrun : ∀ o, ops[i]? = some o → ∀ w, S w → (execOp a.eval o).run P w = .ok (.value v) w) (hS : S w)
  (h : wpAnyH P md ops Q S fuel (listed.setIfInBounds i true) (a.put d v) w) (hQ : ∀ c a w, Q (.panic c) (a.put d v) w → Q (.panic c) a w := by exact fun _ _ _ h => h) (hd : (ops[i]?).map (·.dst) = some d := by kernel_rfl)
  (hs : Region.noSelect ops = true := by kernel_rfl) (hf : Region.free md ops listed i = true := by kernel_rfl) (hr : (Region.ready md ops listed).contains i = true := by kernel_rfl) (hw : (ops[i]?).map (fun o => Region.wanted o (yielded ops a.tmps)) = some true := by kernel_rfl) : wpAnyH P md ops Q S (fuel + 1) listed a w := hTake d hd hs hf hr hw hQ hrun hS h
theorem hSk {i : Nat} {fuel : Nat} {listed : Array Bool} {a : Act} {w : World} (d : Option Tmp) (hS : S w)
  (h : wpAnyH P md ops Q S fuel (listed.setIfInBounds i true) (a.put d undef) w) (hQ : ∀ c a w, Q (.panic c) (a.put d undef) w → Q (.panic c) a w := by exact fun _ _ _ h => h) (hd : (ops[i]?).map (·.dst) = some d := by kernel_rfl)
  (hs : Region.noSelect ops = true := by kernel_rfl) (hf : Region.free md ops listed i = true := by kernel_rfl) (hr : (Region.ready md ops listed).contains i = true := by kernel_rfl) (hw : (ops[i]?).map (fun o => Region.wanted o (yielded ops a.tmps)) = some false := by kernel_rfl) : wpAnyH P md ops Q S (fuel + 1) listed a w := hSkip d hd hs hf hr hw hQ hS h
theorem hCall {i : Nat} {f : FuncId} {args : Array Value} {v : Value} {T : World → Prop} {fuel : Nat} {listed : Array Bool} {a : Act} {w : World} (d : Option Tmp) (hd : (ops[i]?).map (·.dst) = some d)
  (hr : Region.ready md ops listed = [i]) (hw : (ops[i]?).map (fun o => Region.wanted o (yielded ops a.tmps)) = some true)
  (hrun : ∀ o, ops[i]? = some o → (execOp a.eval o).run P w = .ok (.enter f args) w) (hC : Calls P f args w fun e w' => e = .returned v ∧ T w')
  (hK : ∀ w', T w' → S w' ∧ wpAnyH P md ops Q S fuel (listed.setIfInBounds i true) (a.put d v) w') : wpAnyH P md ops Q S (fuel + 1) listed a w := by
 refine wpAnyH_all hr (by simp) ?_
 intro j hj
 obtain rfl : j = i := by simpa using hj
 cases hi : ops[j]? with
 | none => simp [hi] at hd
 | some o =>
   have hd' : o.dst = d := by simpa [hi] using hd
   have hw' : Region.wanted o (yielded ops a.tmps) = true := by simpa [hi] using hw
   subst hd'
   unfold wpOp
   simp only [hi, hw', if_true, Oper.wp, hrun o hi, Oper.upon]; refine .inl (hC.mono fun e w'' he => ?_); obtain ⟨rfl, ht⟩ := he; exact hK _ ht
end
theorem hStep {P : Program} {ops : Array Oper} {Q : Exit → Act → World → Prop} {md : Region.Mode} {S : World → Prop} {i : Nat} {v : Value} {fuel : Nat} {listed : Array Bool} {a : Act} {w w' : World} (d : Option Tmp) (hd : (ops[i]?).map (·.dst) = some d)
  (hr : Region.ready md ops listed = [i]) (hw : (ops[i]?).map (fun o => Region.wanted o (yielded ops a.tmps)) = some true)
  (hrun : ∀ o, ops[i]? = some o → (execOp a.eval o).run P w = .ok (.value v) w') (hS : S w') (h : wpAnyH P md ops Q S fuel (listed.setIfInBounds i true) (a.put d v) w') : wpAnyH P md ops Q S (fuel + 1) listed a w := by
 refine wpAnyH_all hr (by simp) ?_
 intro j hj
 obtain rfl : j = i := by simpa using hj
 cases hi : ops[j]? with
 | none => simp [hi] at hd
 | some o =>
   have hd' : o.dst = d := by simpa [hi] using hd
   have hw' : Region.wanted o (yielded ops a.tmps) = true := by simpa [hi] using hw
   subst hd'
   unfold wpOp
   simp only [hi, hw', if_true, Oper.wp, hrun o hi, Oper.upon]; exact .inl ⟨hS, h⟩
theorem hCallE {P : Program} {ops : Array Oper} {Q : Exit → Act → World → Prop} {md : Region.Mode} {S : World → Prop} {i : Nat} {f : FuncId} {args : Array Value} {R : Ending → World → Prop} {fuel : Nat} {listed : Array Bool} {a : Act} {w : World} (d : Option Tmp) (hd : (ops[i]?).map (·.dst) = some d)
  (hr : Region.ready md ops listed = [i]) (hw : (ops[i]?).map (fun o => Region.wanted o (yielded ops a.tmps)) = some true)
  (hrun : ∀ o, ops[i]? = some o → (execOp a.eval o).run P w = .ok (.enter f args) w) (hC : Calls P f args w R) (hK : ∀ u w', R (.returned u) w' → S w' ∧ wpAnyH P md ops Q S fuel (listed.setIfInBounds i true) (a.put d u) w')
  (hP : ∀ ch w', ¬ R (.panicked ch) w') (hO : ∀ w', ¬ R .outgrown w') : wpAnyH P md ops Q S (fuel + 1) listed a w := by
 refine wpAnyH_all hr (by simp) ?_
 intro j hj
 obtain rfl : j = i := by simpa using hj
 cases hi : ops[j]? with
 | none => simp [hi] at hd
 | some o =>
   have hd' : o.dst = d := by simpa [hi] using hd
   have hw' : Region.wanted o (yielded ops a.tmps) = true := by simpa [hi] using hw
   subst hd'
   unfold wpOp
   simp only [hi, hw', if_true, Oper.wp, hrun o hi, Oper.upon]; refine .inl (hC.mono fun e w'' he => ?_)
   cases e with
   | returned u => exact hK u w'' he
   | panicked ch => exact absurd he (hP ch w'')
   | outgrown => exact absurd he (hO w'')
end
section
open Go Go.RowKit
theorem str_inj {xs ys : List Int} (hx : Byte xs) (hy : Byte ys) : (strOfNums xs == strOfNums ys) = decide (xs = ys) := by
 have h1 := str_beq hx (strOfNums ys).toList; have h2 := (str_eq hy (strOfNums ys).toList).1 rfl; rw [← h2] at h1; rw [← h1]
 congr 1
 rw [ByteArray.toList_eq]
end
section
open Go Go.RowKit Go.Maps Go.Shelf
set_option linter.unusedSimpArgs false
def unl (L : Array Bool) : Nat := (L.toList.filter (fun b => !b)).length
theorem unl_list : ∀ (l : List Bool) (i : Nat), l[i]? = some false → ((l.set i true).filter (fun b => !b)).length + 1 = (l.filter (fun b => !b)).length
 | [], i, h => by simp at h
 | b :: r, 0, h => by
   simp only [List.getElem?_cons_zero, Option.some.injEq] at h; subst h
   simp
 | b :: r, i + 1, h => by
   have := unl_list r i (by simpa using h)
   cases b <;> simp [List.set_cons_succ, List.filter_cons] <;> omega
theorem getD_list {L : Array Bool} {i : Nat} (h : L.getD i true = false) : L.toList[i]? = some false := by
 simp only [Array.getD_eq_getD_getElem?] at h; rw [Array.getElem?_toList]
 cases he : L[i]? with
 | none => rw [he] at h; cases h
 | some b => rw [he] at h; simp at h; rw [h]
theorem unl_set {L : Array Bool} {i : Nat} (h : L.getD i true = false) : unl (L.setIfInBounds i true) + 1 = unl L := by
 unfold unl
 rw [Array.toList_setIfInBounds]; exact unl_list _ _ (getD_list h)
theorem unl_zero {L : Array Bool} (h : unl L = 0) (i : Nat) : L.getD i true ≠ false := fun e => by
 have := unl_set e
 omega
section
variable {P : Program} {ops : Array Oper} {Q : Exit → Act → World → Prop} {md : Region.Mode}
theorem wpAny_inv (I : Array Bool → Act → World → Prop) (hS : ∀ L a w, I L a w → ∀ i ∈ Region.ready md ops L, wpOp P ops Q i (fun a' w' => I (L.setIfInBounds i true) a' w') a w)
  (hE : ∀ L a w, I L a w → Region.ready md ops L = [] → Q .normal a w) : ∀ (fuel : Nat) (L : Array Bool) (a : Act) (w : World), I L a w → unl L ≤ fuel → wpAny P md ops Q fuel L a w
 | 0, L, a, w, h, hu => by
   have hr : Region.ready md ops L = [] := by
    cases hh : Region.ready md ops L with
    | nil => rfl
    | cons i r =>
      have : i ∈ Region.ready md ops L := by rw [hh]; simp
      exact absurd (mem_ready.1 this).1 (unl_zero (by omega) i)
   exact ⟨hr, hE L a w h hr⟩
 | fuel + 1, L, a, w, h, hu => by
   refine ⟨fun hr => hE L a w h hr, fun i hi => ?_⟩; have h1 := unl_set (mem_ready.1 hi).1; exact wpOp_mono (fun a' w' h' => wpAny_inv I hS hE fuel _ a' w' h' (by omega)) (hS L a w h i hi)
theorem op_value {i : Nat} {o : Oper} {a : Act} {w w' : World} {v : Value} {K : Act → World → Prop} (hi : ops[i]? = some o) (hg : o.guard = none) (hr : (execOp a.eval o).run P w = .ok (.value v) w') (h : K (a.put o.dst v) w') : wpOp P ops Q i K a w := by
 unfold wpOp
 simp only [hi, Region.wanted, hg, if_true, Oper.wp, hr, Oper.upon]; exact .inl h
end
theorem put_other {a : Act} {d p : Nat} {v : Value} (h : d ≠ p) : (a.put (some d) v).tmps[p]? = a.tmps[p]? := by simp [Act.put, Array.getElem?_setIfInBounds_ne h]
theorem put_same {a : Act} {d : Nat} {v : Value} (h : d < a.tmps.size) : (a.put (some d) v).tmps[d]? = some v := by simp [Act.put, h]
theorem put_size {a : Act} {d : Option Nat} {v : Value} : (a.put d v).tmps.size = a.tmps.size := by cases d <;> simp [Act.put]
theorem put_defs {a : Act} {d : Option Nat} {v : Value} : (a.put d v).defers = a.defers := by cases d <;> rfl
theorem set_at {L : Array Bool} {i p : Nat} (h : (L.setIfInBounds i true).getD p false = true) (hne : i ≠ p) : L.getD p false = true := by rwa [getD_set_ne false hne] at h
theorem dep_of {o : Oper} {i : Nat} {L : Array Bool} (h : (o.after.toList.any fun e => (e.on == i) && Region.binds .any e) = true) (hr : ∀ e ∈ o.after, Region.binds .any e = true → L.getD e.on false = true) : L.getD i false = true := by
 obtain ⟨e, he, h2⟩ := List.any_eq_true.1 h; simp only [Bool.and_eq_true, beq_iff_eq] at h2; rw [← h2.1]; exact hr e (by simpa using he) h2.2
theorem unl_le (L : Array Bool) : unl L ≤ L.size := by
 unfold unl
 have := List.length_filter_le (fun b => !b) L.toList
 simpa using this
theorem eval_tmp {a : Act} {p : Nat} {v : Value} (h : a.tmps[p]? = some v) : a.eval (.tmp p) = v := by simp [Act.eval, h]
theorem getD_false {L : Array Bool} {i : Nat} (h : L.getD i true = false) : L.getD i false = false := by
 simp only [Array.getD_eq_getD_getElem?] at h ⊢
 cases he : L[i]? with
 | none => rfl
 | some b => rw [he] at h; exact h
theorem set_self {L : Array Bool} {i : Nat} (h : i < L.size) : (L.setIfInBounds i true).getD i false = true := by simp [h]
end
section
open Go Go.RowKit Go.Extern
end
section
open Go Go.RowKit
def bOf (l : List UInt8) : ByteArray := ⟨l.toArray⟩
theorem bOf_size (l : List UInt8) : (bOf l).size = l.length := by simp [bOf, ByteArray.size]
theorem bOf_list (l : List UInt8) : (bOf l).toList = l := by rw [ByteArray.toList_eq]; rfl
def strV (x : List UInt8) : Value := .string (bOf x)
def numsU (l : List UInt8) : List Int := l.map (fun u => (u.toNat : Int))
theorem strOf_numsU (l : List UInt8) : strOfNums (numsU l) = bOf l := by
 apply ba_ext
 rw [str_list, numsU, map_forth, ByteArray.toList_eq]; rfl
theorem byte_numsU (l : List UInt8) : Byte (numsU l) := fun x hx => by
 simp only [numsU, List.mem_map] at hx; obtain ⟨u, _, rfl⟩ := hx; have := u.toNat_lt
 omega
theorem cell_lit (w : World) (vs : List Value) (t : TypeId) (i : Nat) (h : i < vs.length) : (w.alloc (.cells vs.toArray t)).cell? ⟨w.heap.size, i, none⟩ = some vs[i] := by
 rw [World.cell?_alloc_new]
 simp [h]
end
section
open Go Go.RowKit Go.Maps
def okN (f : Fun) : Prop := f.1.size ≤ 2000000 ∧ (Lit.int .i64 f.2).wf = true
theorem keyFunN (f : Fun) (h : okN f) : keyOf Tryz.prog 78 (.agg #[.string f.1, .int .i64 f.2]) = some (fk f) := by
 obtain ⟨n, hn⟩ := nTypes
 have hx : f.1.size ≤ maxLen := by have := h.1; unfold maxLen; omega
 exact keyPair Tryz.prog 78 9 3 _ _ _ rfl Tryz.underlying78 rfl rfl rfl rfl (by decide) (by decide) Tryz.underlying9 Tryz.underlying3 cellsFun cellsStr cellsIn typFun n hn f.1 f.2 hx h.2
theorem fk_injN {f g : Fun} (hf : okN f) (hg : okN g) (h : fk f = fk g) : f = g := by
 have h1 := keyFunN f hf; have h2 := keyFunN g hg; rw [← h] at h2; have := lawFun.inj h1 h2; obtain ⟨f1, f2⟩ := f; obtain ⟨g1, g2⟩ := g
 simpa using this
def heldN (v : Value) : Option (DataW Value × List MemPlace) := some (.held v, [])
def BuIn (w : World) (b N : Nat) (T : Fun → Option Nat) : Prop := ∃ D : DataW Value, w.ownsMap Tryz.prog 78 heldN b N D ∧
 ∀ f, okN f → match T f with
   | none => has D (fk f) = false ∧ ∀ z, D.atKey (fk f) z = z
   | some K => has D (fk f) = true ∧ ∀ z, D.atKey (fk f) z = .held (.func (.func K) #[] #[])
theorem BuIn.lt {w : World} {b N : Nat} {T : Fun → Option Nat} (h : BuIn w b N T) : b < w.heap.size := by obtain ⟨D, h, _⟩ := h; exact h.lt
theorem BuIn.of {w w' : World} {b N : Nat} {T : Fun → Option Nat} (h : BuIn w b N T) (hb : w'.heap[b]? = w.heap[b]?) : BuIn w' b N T := by
 obtain ⟨D, ⟨es, clock, h1, r⟩, h2⟩ := h; exact ⟨D, ⟨es, clock, hb.trans h1, r⟩, h2⟩
theorem BuIn.below {w w' : World} {b N : Nat} {T : Fun → Option Nat} (h : BuIn w b N T) (hb : Below w.heap.size w w') : BuIn w' b N T := h.of (hb.block _ h.lt)
theorem BuIn.made (w : World) : BuIn (w.alloc (.map #[] 0)) w.heap.size 0 (fun _ => none) := ⟨_, World.ownsMap_made _ _ _ _, fun f _ => ⟨rfl, fun z => rfl⟩⟩
theorem zeroBu (w : World) : (zeroValue 80).run Tryz.prog w = .ok .nilFunc w := by kernel_rfl
theorem BuIn.look {w : World} {b N : Nat} {T : Fun → Option Nat} (h : BuIn w b N T) (f : Fun) (hf : okN f) :
  (Instr.lookup 75 (.map (some b)) (.agg #[.string f.1, .int .i64 f.2]) true).run Tryz.prog w = .ok (.tuple #[(match T f with | none => .nilFunc | some K => .func (.func K) #[] #[]), .bool (T f).isSome]) w := by
 obtain ⟨D, hown, hT⟩ := h; obtain ⟨v, ps, hrun, hv⟩ := hown.look_ok lawFun Tryz.underlying75 (zeroBu w) (zd := .held .nilFunc) (zp := []) rfl (keyFunN f hf); have h1 := hT f hf; simp only [heldN, Option.some.injEq, Prod.mk.injEq] at hv; have hv := hv.1
 cases e : T f with
 | none =>
   rw [e] at h1; rw [h1.2] at hv; rw [hrun, h1.1]
   cases hv
   rfl
 | some c =>
   rw [e] at h1; rw [h1.2] at hv; rw [hrun, h1.1]
   cases hv
   rfl
theorem BuIn.put {w : World} {b N : Nat} {T : Fun → Option Nat} (h : BuIn w b N T) (hN : N ≤ 1000000) (f : Fun) (hf : okN f) (K : Nat) :
  ∃ w', (Instr.mapUpdate 75 (.map (some b)) (.agg #[.string f.1, .int .i64 f.2]) (.func (.func K) #[] #[])).run Tryz.prog w = .ok () w' ∧ BuIn w' b (N + 1) (fun g => if g = f then some K else T g) ∧ w.grownBy w' (some b) := by
 obtain ⟨D, hown, hT⟩ := h; have hown0 := hown; obtain ⟨es, clock, hb, _⟩ := hown; obtain ⟨w', hrun, hown', hg⟩ := hown0.update lawFun Tryz.underlying75 (by unfold maxLen; omega) (keyFunN f hf) (show heldN (.func (.func K) #[] #[]) = some (.held _, []) from rfl); have hm := hown0.isMap; have hkl : WideAt.IsKeyLit (fk f) := trivial; refine ⟨w', hrun, ⟨_, hown', fun g hgk => ?_⟩, hg⟩
 by_cases e : g = f
 ·subst e
  simp only [if_true]; exact ⟨has_put_same hm hkl _, fun z => atKey_put_same hm hkl _ z⟩
 ·simp only [if_neg e]
  have hne : fk g ≠ fk f := fun e' => e (fk_injN hgk hf e')
  have h1 := hT g hgk
  cases hTg : T g with
  | none =>
    rw [hTg] at h1; exact ⟨by rw [has_put_other hne]; exact h1.1, fun z => by rw [atKey_put_other hne]; exact h1.2 z⟩
  | some c' =>
    rw [hTg] at h1; exact ⟨by rw [has_put_other hne]; exact h1.1, fun z => by rw [atKey_put_other hne]; exact h1.2 z⟩
end
section
open Go Go.RowKit
def rdI (xs : List Int) (i : Nat) : Int := if i < xs.length then xs.getD i 0 else 0
def rdN (xs : List Int) (i : Nat) : Nat := if i < xs.length then i + 1 else i
theorem rdI_rng {xs : List Int} (hb : Bytes xs) (i : Nat) : 0 ≤ rdI xs i ∧ rdI xs i < 256 := by
 unfold rdI; split
 ·have := hb.at i; omega
 ·omega
theorem rdN_le {xs : List Int} {i : Nat} (h : i ≤ xs.length) : rdN xs i ≤ xs.length := by unfold rdN; split <;> omega
structure RdIn (w : World) (R : Nat) (p : Option Addr) (c : Nat) (xs : List Int) (i : Nat) : Prop where
 at0 : w.cell? ⟨R, 0, none⟩ = some (.slice p xs.length c)
 at1 : w.cell? ⟨R, 1, none⟩ = some (.int .i64 i)
 fz : w.frozen? ⟨R, 1, none⟩ = false
 lt : R < w.heap.size
 bytes : Bytes xs
 small : xs.length ≤ 500
 le : i ≤ xs.length
 text : BIn w p xs
 low : 0 < xs.length → ∀ a, p = some a → a.block < R
theorem RdIn.keep {w w' : World} {R : Nat} {p : Option Addr} {c : Nat} {xs : List Int} {i B U : Nat} (h : RdIn w R p c xs i) (k : Keep B U w w') (hR : R < B) : RdIn w' R p c xs i := by
 have hb : Below (R + 1) w w' := k.below hR (by have := h.lt; omega); refine ⟨(hb.cell (p := ⟨R, 0, none⟩) (Nat.lt_succ_self _)).trans h.at0, (hb.cell (p := ⟨R, 1, none⟩) (Nat.lt_succ_self _)).trans h.at1, (hb.frozen (p := ⟨R, 1, none⟩) (Nat.lt_succ_self _)).trans h.fz, Nat.lt_of_lt_of_le h.lt hb.size, h.bytes, h.small, h.le, ?_, h.low⟩
 intro hn
 obtain ⟨b, o, rfl, hc⟩ := h.text hn; exact ⟨b, o, rfl, fun j hj => (hb.cell (p := ⟨b, o + j, none⟩) (Nat.lt_succ_of_lt (h.low hn ⟨b, o, none⟩ rfl))).trans (hc j hj)⟩
theorem RdIn.below {w w' : World} {R : Nat} {p : Option Addr} {c : Nat} {xs : List Int} {i B : Nat} (h : RdIn w R p c xs i) (k : Below B w w') (hR : R < B) : RdIn w' R p c xs i :=
 h.keep (B := B) (U := w.heap.size) ⟨k.os, k.tape, k.output, k.size, fun j hj hp => k.block j (by omega)⟩ hR
theorem next_any (R c i : Nat) (p : Option Addr) (xs : List Int) (w : World) (h : RdIn w R p c xs i) :
  Calls Tryz.prog 19 #[.pointer (some ⟨R, 0, none⟩)] w fun e w' => e = .returned (.int .i64 (rdI xs i)) ∧ Keep R (R + 1) w w' ∧ w'.heap.size = w.heap.size ∧ RdIn w' R p c xs (rdN xs i) := by
 have h0 := h.at0; have h1 := h.at1; have hf := h.fz; have hs := h.small; have HH : Hid (RdIn w R p c xs i) := h
 by_cases hlt : i < xs.length
 ·rw [show rdI xs i = xs.getD i 0 by unfold rdI; rw [if_pos hlt], show rdN xs i = i + 1 by unfold rdN; rw [if_pos hlt]]
  obtain ⟨b, o, rfl, hc⟩ := h.text (by omega); have hx := hc i hlt; have hr := h.bytes.at i
  obtain ⟨x, ex⟩ : ∃ x, x = xs.getD i 0 := ⟨_, rfl⟩
  rw [← ex] at hx hr ⊢
  obtain ⟨n, en⟩ : ∃ n, n = xs.length := ⟨_, rfl⟩
  rw [← en] at h0 hs hlt; have HE : Hid (n = xs.length) := en
  have FIN : Hid (∀ k, Keep R (R + 1) w ((w.drewN k).setCell ⟨R, 1, none⟩ (.int .i64 (i + 1 : Nat))) ∧ ((w.drewN k).setCell ⟨R, 1, none⟩ (.int .i64 (i + 1 : Nat))).heap.size = w.heap.size ∧ RdIn ((w.drewN k).setCell ⟨R, 1, none⟩ (.int .i64 (i + 1 : Nat))) R (some ⟨b, o, none⟩) c xs (i + 1)) := by
   intro k
   have hk : Keep R (R + 1) w ((w.drewN k).setCell ⟨R, 1, none⟩ (.int .i64 (i + 1 : Nat))) := ⟨rfl, rfl, rfl, by simp, fun j _ hp => by rw [heap_setCell_other _ _ _ _ (by simp; omega)]; rfl⟩
   refine ⟨hk, by simp, ?_⟩; refine ⟨?_, World.cell?_setCell_same' _ _ _ (by show (w.cell? _).isSome = true; rw [h1]; rfl), ?_, by have := HH.out.lt; simpa using this, HH.out.bytes, HH.out.small, by omega, ?_, HH.out.low⟩
   ·rw [World.cell?_setCell_other _ _ _ _ (by intro e; simp only [Addr.mk.injEq] at e; omega)]; exact HH.out.at0
   ·rw [World.frozen?_setCell]; exact hf
   ·intro hn
    refine ⟨b, o, rfl, fun j hj => ?_⟩; rw [World.cell?_setCell_other _ _ _ _ (by intro e; simp only [Addr.mk.injEq] at e; have := HH.out.low hn _ rfl; simp only at this; omega)]; exact hc j hj
  clear ex hc h en
  go_enter Tryz.func19, Tryz.ntmps19
  go_wp2
  go_region
  all_goals go_wp2
  go_region
  all_goals go_wp2
  all_goals go_ret
  exact ⟨rfl, FIN.out 2⟩
 ·rw [show rdI xs i = 0 by unfold rdI; rw [if_neg hlt], show rdN xs i = i by unfold rdN; rw [if_neg hlt]]
  have hi : i = xs.length := by have := h.le; omega
  obtain ⟨n, en⟩ : ∃ n, n = xs.length := ⟨_, rfl⟩
  rw [← en] at h0 hs hi; subst hi; have HE : Hid (i = xs.length) := en; clear h en
  go_enter Tryz.func19, Tryz.ntmps19
  go_wp2
  go_region
  all_goals go_wp2
  all_goals go_ret
  exact ⟨rfl, Keep.of_grown (row := none) ⟨rfl, rfl, rfl, Nat.le_refl _, fun _ _ _ => rfl⟩ (by intro k e; cases e), rfl, HH.out.below (B := w.heap.size) (below_drewN (Below.refl _ _) 1) HH.out.lt⟩
theorem take_bin {w : World} {p : Option Addr} {xs : List Int} (h : BIn w p xs) (n : Nat) : BIn w p (xs.take n) := by
 intro hn
 rw [List.length_take] at hn; obtain ⟨b, o, rfl, hc⟩ := h (by omega); refine ⟨b, o, rfl, fun i hi => ?_⟩; rw [List.length_take] at hi; rw [hc i (by omega), List.getD, List.getD, List.getElem?_take_of_lt (by omega)]
theorem l4open_any (p : Option Addr) (c : Nat) (xs : List Int) (w : World) (hb : Bytes xs) (hn : xs.length ≤ 1048576) (hc : xs.length ≤ c) (hx : BIn w p xs) :
  Calls Tryz.prog 18 #[.slice p xs.length c] w fun e w' => e = .returned (.pointer (some ⟨w.heap.size, 0, none⟩)) ∧ Below w.heap.size w w' ∧ w'.heap.size = w.heap.size + 1 ∧ RdIn w' w.heap.size p c (xs.take 500) 0 := by
 have R : ∀ m : Nat, m = (xs.take 500).length → Hid (Below w.heap.size w (w.alloc (Obj.cells #[.slice p m c, .int .i64 0] 98)) ∧ (w.alloc (Obj.cells #[.slice p m c, .int .i64 0] 98)).heap.size = w.heap.size + 1 ∧ RdIn (w.alloc (Obj.cells #[.slice p m c, .int .i64 0] 98)) w.heap.size p c (xs.take 500) 0) := by
  intro m hm
  have hbl := (Below.refl w.heap.size w).alloc (Nat.le_refl _) (Obj.cells #[.slice p m c, .int .i64 0] 98); have hnew := heap_alloc_new w (Obj.cells #[.slice p m c, .int .i64 0] 98); refine ⟨hbl, by simp, ?_⟩; refine ⟨?_, ?_, ?_, by simp, fun x hx => hb x (List.mem_of_mem_take hx), by simp; omega, by omega, ?_, fun h0 a ea => ?_⟩
  ·rw [← hm]; unfold World.cell?; simp only [hnew]; rfl
  ·unfold World.cell?; simp only [hnew]; rfl
  ·exact frozen_of_row _ _ _ _ _ hnew
  ·intro h0
   obtain ⟨b, o, rfl, hh⟩ := take_bin hx 500 h0; exact ⟨b, o, rfl, fun j hj => (hbl.cell (p := ⟨b, o + j, none⟩) (World.block_lt_of_cell? _ _ (hh j hj))).trans (hh j hj)⟩
  ·obtain ⟨b, o, rfl, hh⟩ := take_bin hx 500 h0
   obtain rfl := Option.some.inj ea; exact World.block_lt_of_cell? _ _ (hh 0 h0)
 by_cases h5 : 500 < xs.length
 ·have RR := R 500 (by rw [List.length_take]; omega)
  clear R hx hb
  obtain ⟨n, en⟩ : ∃ n, n = xs.length := ⟨_, rfl⟩
  rw [← en] at hn hc h5 ⊢; have HE : Hid (n = xs.length) := en; clear en
  go_enter Tryz.func18, Tryz.ntmps18
  go_wp2
  go_ret; exact ⟨rfl, RR.out⟩
 ·have RR := R xs.length (by rw [List.length_take]; omega)
  clear R hx hb
  obtain ⟨n, en⟩ : ∃ n, n = xs.length := ⟨_, rfl⟩
  rw [← en] at hn hc h5 RR ⊢; have HE : Hid (n = xs.length) := en; clear en
  go_enter Tryz.func18, Tryz.ntmps18
  go_wp2
  go_ret; exact ⟨rfl, RR.out⟩
theorem Keep.cell {B U : Nat} {w w' : World} (h : Keep B U w w') {a : Addr} {v : Value} (hc : w.cell? a = some v) (ha : a.block < B ∨ U ≤ a.block) : w'.cell? a = some v := by
 have hb := h.block a.block (World.block_lt_of_cell? _ _ hc) ha
 unfold World.cell? at hc ⊢
 rw [hb]; exact hc
theorem Keep.of_below {B U : Nat} {w w' : World} (h : Below w.heap.size w w') : Keep B U w w' := ⟨h.os, h.tape, h.output, h.size, fun k hk _ => h.block k hk⟩
def nmU : List (List UInt8) := [[97], [102, 111, 111], [98, 49], [91, 93], [45], [43], [61], [58, 45], [44], [105, 115], [], [88, 32, 121], [92, 43], [123, 125], [33], [59], [46], [47, 42], [105, 116, 39, 115], [10, 128], [120, 111, 114], [109, 111, 100], [124], [42], [100, 121, 110, 97, 109, 105, 99], [64], [64, 64], [104, 101, 108, 108, 111, 95, 87, 111, 114, 108, 100]]
def nmV : List Value := nmU.map strV
theorem nm_made (w : World) (t : TypeId) (i : Nat) (h : i < 28) : (w.alloc (.cells nmV.toArray t)).cell? ⟨w.heap.size, i, none⟩ = some (.string (bOf (nmU.getD i []))) := by
 rw [cell_lit w nmV t i h]; simp only [nmV, List.getElem_map, List.getD, List.getElem?_eq_getElem (show i < nmU.length from h)]; rfl
def nameAt (x : Nat) : List UInt8 := nmU.getD (if x < 180 then x % 6 else x % 28) []
def NameOut (w : World) (R : Nat) (p : Option Addr) (c : Nat) (xs : List Int) (i : Nat) (e : Ending) (w' : World) : Prop :=
 ∃ g n cap, e = .returned (.slice (some ⟨g, 0, none⟩) n cap) ∧ n = (numsU (nameAt (rdI xs i).toNat)).length ∧ Keep R (R + 1) w w' ∧ RdIn w' R p c xs (rdN xs i) ∧ w.heap.size ≤ g ∧ OwnT w' w.heap.size (some ⟨g, 0, none⟩) n cap (numsU (nameAt (rdI xs i).toNat))
set_option maxHeartbeats 2000000 in
theorem l4name_any (R c i : Nat) (p : Option Addr) (xs : List Int) (w : World) (h : RdIn w R p c xs i) :
  Calls Tryz.prog 110 #[.pointer (some ⟨R, 0, none⟩)] w (NameOut w R p c xs i) := by
 have HH : Hid (RdIn w R p c xs i) := h; have hr := rdI_rng h.bytes i
 obtain ⟨wA, eA⟩ : ∃ wA, wA = w.alloc (.cells nmV.toArray 9) := ⟨_, rfl⟩
 have HNM : Hid (∀ j, j < 28 → wA.cell? ⟨w.heap.size, j, none⟩ = some (.string (bOf (nmU.getD j [])))) := fun j hj => by rw [eA]; exact nm_made w _ j hj
 have HBA : Hid (Below w.heap.size w wA) := by rw [eA]; exact (Below.refl _ _).alloc (Nat.le_refl _) _
 have HSA : Hid (w.heap.size < wA.heap.size) := by show _ < _; rw [eA]; simp
 clear h
 go_enter Tryz.func110, Tryz.ntmps110
 go_wp2_with fail
 have eA' : wA = w.alloc (Obj.cells #[.string ⟨#[97]⟩, .string ⟨#[102, 111, 111]⟩, .string ⟨#[98, 49]⟩, .string ⟨#[91, 93]⟩, .string ⟨#[45]⟩, .string ⟨#[43]⟩, .string ⟨#[61]⟩, .string ⟨#[58, 45]⟩, .string ⟨#[44]⟩, .string ⟨#[105, 115]⟩, .string ⟨#[]⟩, .string ⟨#[88, 32, 121]⟩, .string ⟨#[92, 43]⟩, .string ⟨#[123, 125]⟩, .string ⟨#[33]⟩, .string ⟨#[59]⟩, .string ⟨#[46]⟩, .string ⟨#[47, 42]⟩, .string ⟨#[105, 116, 39, 115]⟩, .string ⟨#[10, 128]⟩, .string ⟨#[120, 111, 114]⟩, .string ⟨#[109, 111, 100]⟩, .string ⟨#[124]⟩, .string ⟨#[42]⟩, .string ⟨#[100, 121, 110, 97, 109, 105, 99]⟩, .string ⟨#[64]⟩, .string ⟨#[64, 64]⟩, .string ⟨#[104, 101, 108, 108, 111, 95, 87, 111, 114, 108, 100]⟩] 9) := by rw [eA]; rfl
 rw [← eA']; clear eA eA'; have HRA := HH.out.below HBA.out HH.out.lt; refine (next_any R c i p xs wA HRA).mono ?_; rintro e w2 ⟨rfl, hk2, hs2, hR2⟩; have HR2 : Hid (RdIn w2 R p c xs (rdN xs i)) := hR2; have HK2 : Hid (Keep R (R + 1) w w2) := (Keep.of_below HBA.out).trans hk2
 obtain ⟨x, ex⟩ : ∃ x : Nat, rdI xs i = x := ⟨(rdI xs i).toNat, by omega⟩
 rw [ex] at hr ⊢
 have HXE : Hid ((rdI xs i).toNat = x) := by show _ = _; rw [ex]; rfl
 have FIN : Hid (∀ j s, nameAt x = nmU.getD j [] → j < 28 → s = bOf (nmU.getD j []) → w2.cell? ⟨w.heap.size, j, none⟩ = some (.string s) ∧ ∃ w3 n cap, (convert 9 22 (.string s)).run Tryz.prog w2 = .ok (.slice (some ⟨w2.heap.size, 0, none⟩) n cap) w3 ∧ NameOut w R p c xs i (.returned (.slice (some ⟨w2.heap.size, 0, none⟩) n cap)) w3) := by
  intro j s hj hj28 rfl
  refine ⟨hk2.cell (HNM.out j hj28) (.inr HH.out.lt), ?_⟩; obtain ⟨w3, cap, hcv, hb3, hot⟩ := conv_bytes w2 (numsU (nmU.getD j [])) (byte_numsU _) 9 Tryz.underlying9; rw [strOf_numsU] at hcv; have hsz : w.heap.size ≤ w2.heap.size := HK2.out.size; refine ⟨w3, _, cap, hcv, w2.heap.size, _, cap, rfl, by rw [HXE.out, hj], Keep.trans HK2.out ⟨hb3.os, hb3.tape, hb3.output, hb3.size, fun k hk _ => hb3.block k hk⟩, HR2.out.below hb3 HR2.out.lt, hsz, ?_⟩; rw [HXE.out, hj]; refine ⟨hot.1, fun hn => ?_⟩; obtain ⟨g, eg, h1, h2⟩ := hot.2 hn; exact ⟨g, eg, Nat.le_trans hsz h1, h2⟩
 clear hR2 hk2 HNM ex HRA hs2
 by_cases hlt : x < 180
 ·obtain ⟨j, ej⟩ : ∃ j, j = x % 6 := ⟨_, rfl⟩
  have hj6 : j < 6 := by omega
  obtain ⟨s, es⟩ : ∃ s, s = bOf (nmU.getD j []) := ⟨_, rfl⟩
  obtain ⟨hcell, w3, n, cap, hcv, hout⟩ := FIN.out j s (by unfold nameAt; rw [if_pos hlt, ej]) (by omega) es; have HO : Hid _ := hout
  have hmod : (x : Int).tmod 6 = (j : Int) := by rw [ej, Int.tmod_eq_emod_of_nonneg (by omega)]; rfl
  clear FIN es ej hout; go_wp2_with fail; go_ret; exact HO.out
 ·obtain ⟨j, ej⟩ : ∃ j, j = x % 28 := ⟨_, rfl⟩
  have hj6 : j < 28 := by omega
  obtain ⟨s, es⟩ : ∃ s, s = bOf (nmU.getD j []) := ⟨_, rfl⟩
  obtain ⟨hcell, w3, n, cap, hcv, hout⟩ := FIN.out j s (by unfold nameAt; rw [if_neg hlt, ej]) (by omega) es; have HO : Hid _ := hout
  have hmod : (x : Int).tmod 28 = (j : Int) := by rw [ej, Int.tmod_eq_emod_of_nonneg (by omega)]; rfl
  clear FIN es ej hout; go_wp2_with fail; go_ret; exact HO.out
end
end Go.Proofs.YtdmmchoicngblaaGreatDoor
