/- Texts of Mark, WiD, WiE, KeyP. Own work of the verifier. -/
import Derived.Test.YtjhbplgppakhoaaGreatDoorUqaf
import Derived.Test.YtjhbplgppakhoaaGreatDoorUqae
import Derived.Test.YtjhbplgppakhoaaGreatDoorUqad
import Derived.Shelf.Abstract
import Derived.Maps.OwnSet
import Derived.Maps.OwnOps
import Derived.Maps.RangeWalk
import Derived.DeepKeys4
import Derived.Test.YtjhbplgppakhoaaGreatDoorPre
namespace Go.Proofs.YtjhbplgppakhoaaGreatDoor
open Go Go.RowKit
set_option linter.unusedVariables false
end Go.Proofs.YtjhbplgppakhoaaGreatDoor

namespace Go.Proofs.YtjhbplgppakhoaaGreatDoor
open Go Go.RowKit
set_option linter.unusedVariables false
def gV : Nat → Value
  | 0 => .nilFunc
  | 1 => .func (.func 148) #[] #[]
  | 2 => .func (.func 159) #[] #[]
  | _ => .func (.func 158) #[] #[]
def gR (k : Nat) (x y : Int) : Bool := match k with
  | 0 => false
  | 1 => gap1 x y
  | 2 => gap2 x y
  | _ => gap3 x y
def putR (R : List Int) (k : Nat) (X : List Int) : List Int := if X = [] then R else if gR k (endI R) (X.getD 0 0) = true then R ++ 32 :: X else R ++ X
def putG (k : Nat) (X : List Int) : Nat := if X = [] then k else 0
abbrev WK := Nat × Option Addr × Nat × Nat × Bool
structure Bas where
  t : World
  lo : Nat
  g : Option Nat
  x : Nat → Option Value
structure Bas.grownBy (B : Bas) (W : World) (o : Option Nat) : Prop where
  os : W.os = B.t.os
  tape : W.tape = B.t.tape
  output : W.output = B.t.output
  size : B.lo ≤ W.heap.size
  tsize : B.t.heap.size ≤ W.heap.size
  block : ∀ k, k < B.t.heap.size → some k ≠ o → some k ≠ B.g → W.heap[k]? = B.t.heap[k]?
def Bas.may (B : Bas) (wb : Nat) : Nat → Prop := fun a => a = wb ∨ some a = B.g
structure WS (W0 : Bas) (W : World) (wb : Nat) (K : WK) (p : Option Addr) (n c : Nat) (R : List Int) (k : Nat) : Prop where
  gr : W0.grownBy W (some wb)
  hwb : wb < W0.lo
  blk : ∃ cur t fr, W.heap[wb]? = some (.cells cur t fr)
  c0 : W.cell? ⟨wb, 0, none⟩ = some (.slice p n c)
  c1 : W.cell? ⟨wb, 1, none⟩ = some (gV k)
  c2 : W.cell? ⟨wb, 2, none⟩ = some (.map (some K.1))
  c3 : W.cell? ⟨wb, 3, none⟩ = some (.slice K.2.1 K.2.2.1 K.2.2.2.1)
  c4 : W.cell? ⟨wb, 4, none⟩ = some (.bool K.2.2.2.2)
  fr : ∀ o, W.frozen? ⟨wb, o, none⟩ = false
  own : OwnS W W0.lo p n c R
  apart : ∀ k, Value.ownBlock (.slice p n c) = some k → some k = W0.g ∨ W0.t.heap.size ≤ k
  cx : ∀ o, 5 ≤ o → W.cell? ⟨wb, o, none⟩ = W0.x o
structure Kept (w w' : World) (wb : Nat) : Prop where
  size : w.heap.size ≤ w'.heap.size
  blk : ∀ b o, w.heap[b]? = some o → b ≠ wb → (∀ cur fr, o ≠ .cells cur 5 fr) → w'.heap[b]? = some o
theorem Kept.refl (w : World) (wb : Nat) : Kept w w wb := ⟨Nat.le_refl _, fun b o h _ _ => h⟩
theorem Kept.trans {w w' w'' : World} {wb : Nat} (h : Kept w w' wb) (h' : Kept w' w'' wb) : Kept w w'' wb := ⟨Nat.le_trans h.size h'.size, fun b o h1 h2 h3 => h'.blk b o (h.blk b o h1 h2 h3) h2 h3⟩
theorem Kept.drewN (w : World) (wb m : Nat) : Kept w (w.drewN m) wb := ⟨Nat.le_refl _, fun b o h _ _ => h⟩
theorem Kept.setCell (w : World) (wb o : Nat) (v : Value) : Kept w (w.setCell ⟨wb, o, none⟩ v) wb := ⟨by simp, fun b ob h h2 _ => by rw [Below.heap_setCell _ _ _ _ h2]; exact h⟩
theorem Kept.below {w w' : World} {wb : Nat} (h : Below w.heap.size w w') : Kept w w' wb := ⟨h.size, fun b o h1 _ _ => by rw [h.block b (Array.getElem?_eq_some_iff.1 h1).1]; exact h1⟩
theorem Kept.row {w w' : World} {wb B : Nat} {p : Option Addr} {n c : Nat} {R : List Int} (ho : OwnS w B p n c R) (hg : w.grownBy w' (Value.ownBlock (.slice p n c))) : Kept w w' wb := by
  refine ⟨hg.size, fun b o h1 _ h3 => ?_⟩
  rw [hg.block b (Array.getElem?_eq_some_iff.1 h1).1 (fun e => ?_)]
  · exact h1
  · rcases ho.2.2 with ⟨e1, _⟩ | ⟨g, cap, cur, hv, _, hh, _⟩
    · simp only [Value.slice.injEq] at e1
      rw [e1.1] at e
      cases e
    · simp only [Value.slice.injEq] at hv
      rw [hv.1] at e
      have e2 : b = g := Option.some.inj e
      rw [e2, hh] at h1
      exact h3 _ _ (Option.some.inj h1).symm
theorem grown_set {W0 : Bas} {W : World} {wb : Nat} (h : W0.grownBy W (some wb)) (o : Nat) (v : Value) : W0.grownBy (W.setCell ⟨wb, o, none⟩ v) (some wb) :=
  ⟨h.os, h.tape, h.output, by have := h.size; simpa using this, by have := h.tsize; simpa using this, fun k hk hne hg => (Below.heap_setCell _ _ _ _ (fun e => hne (by rw [e]))).trans (h.block k hk hne hg)⟩
theorem grown_row {W0 : Bas} {W W' : World} {wb : Nat} {row : Option Nat} (h : W0.grownBy W (some wb)) (hg : W.grownBy W' row) (hr : ∀ k, row = some k → some k = W0.g ∨ W0.t.heap.size ≤ k) : W0.grownBy W' (some wb) :=
  ⟨hg.os.trans h.os, hg.tape.trans h.tape, hg.output.trans h.output, Nat.le_trans h.size hg.size, Nat.le_trans h.tsize hg.size, fun k hk hne hng => (hg.block k (Nat.lt_of_lt_of_le hk h.tsize) (fun e => (hr k e.symm).elim hng (fun h1 => by omega))).trans (h.block k hk hne hng)⟩
theorem own_set {W : World} {B : Nat} {p : Option Addr} {n c : Nat} {R : List Int} (h : OwnS W B p n c R) {wb o : Nat} (hw : wb < B) (v : Value) : OwnS (W.setCell ⟨wb, o, none⟩ v) B p n c R := by
  refine h.kept (row := some wb) ⟨rfl, rfl, rfl, by simp, fun k hk hne => Below.heap_setCell _ _ _ _ (fun e => hne (by rw [e]))⟩ (fun g hg e => ?_)
  rcases h.form with ⟨h1, _⟩ | ⟨g', h1, h2, _⟩
  · rw [h1] at hg; cases hg
  · rw [h1] at hg
    have : g' = g := by simpa using hg
    have := Option.some.inj e
    omega
section
variable {W0 : Bas} {W : World} {wb : Nat} {K : WK} {p : Option Addr} {n c : Nat} {R : List Int} {k : Nat}
theorem WS.drewN (h : WS W0 W wb K p n c R k) (m : Nat) : WS W0 (W.drewN m) wb K p n c R k := ⟨⟨h.gr.os, h.gr.tape, h.gr.output, h.gr.size, h.gr.tsize, h.gr.block⟩, h.hwb, h.blk, h.c0, h.c1, h.c2, h.c3, h.c4, h.fr, h.own.drewN m, h.apart, h.cx⟩
theorem WS.below {W' : World} (h : WS W0 W wb K p n c R k) (hb : Below W.heap.size W W') : WS W0 W' wb K p n c R k := by
  have hlt : wb < W.heap.size := Nat.lt_of_lt_of_le h.hwb h.gr.size
  obtain ⟨cur, t9, fr, hblk⟩ := h.blk
  exact ⟨⟨hb.os.trans h.gr.os, hb.tape.trans h.gr.tape, hb.output.trans h.gr.output, Nat.le_trans h.gr.size hb.size, Nat.le_trans h.gr.tsize hb.size, fun k hk hne hng => (hb.block k (Nat.lt_of_lt_of_le hk h.gr.tsize)).trans (h.gr.block k hk hne hng)⟩, h.hwb, ⟨cur, t9, fr, (hb.block _ hlt).trans hblk⟩, (hb.cell (p := ⟨wb, 0, none⟩) hlt).trans h.c0, (hb.cell (p := ⟨wb, 1, none⟩) hlt).trans h.c1, (hb.cell (p := ⟨wb, 2, none⟩) hlt).trans h.c2, (hb.cell (p := ⟨wb, 3, none⟩) hlt).trans h.c3, (hb.cell (p := ⟨wb, 4, none⟩) hlt).trans h.c4, fun o => (hb.frozen (p := ⟨wb, o, none⟩) hlt).trans (h.fr o), h.own.below hb, h.apart, fun o ho => (hb.cell (p := ⟨wb, o, none⟩) hlt).trans (h.cx o ho)⟩
theorem blk_set (h : ∃ cur t fr, W.heap[wb]? = some (.cells cur t fr)) (o : Nat) (v : Value) : ∃ cur t fr, (W.setCell ⟨wb, o, none⟩ v).heap[wb]? = some (.cells cur t fr) := by
  obtain ⟨cur, t9, fr, h⟩ := h
  refine ⟨cur.setIfInBounds o v, t9, fr, ?_⟩
  simp only [World.setCell]
  rw [Array.getElem?_modify, if_pos rfl, h]
  rfl
theorem WS.gap (h : WS W0 W wb K p n c R k) (j : Nat) : WS W0 (W.setCell ⟨wb, 1, none⟩ (gV j)) wb K p n c R j :=
  ⟨grown_set h.gr 1 _, h.hwb, blk_set h.blk 1 _, (World.cell?_setCell_other _ _ _ _ (by simp)).trans h.c0, World.cell?_setCell_same' _ _ _ (by rw [h.c1]; rfl), (World.cell?_setCell_other _ _ _ _ (by simp)).trans h.c2, (World.cell?_setCell_other _ _ _ _ (by simp)).trans h.c3, (World.cell?_setCell_other _ _ _ _ (by simp)).trans h.c4, fun o => by rw [World.frozen?_setCell]; exact h.fr o, own_set h.own h.hwb _, h.apart, fun o ho => (World.cell?_setCell_other _ _ _ _ (by simp <;> omega)).trans (h.cx o ho)⟩
theorem WS.text {W' : World} {g n' c' : Nat} {R' : List Int} (h : WS W0 W wb K p n c R k) (hg : W.grownBy W' (Value.ownBlock (.slice p n c))) (ho : OwnS W' W0.lo (some ⟨g, 0, none⟩) n' c' R') (hat : Value.ownBlock (.slice p n c) = some g ∨ W.heap.size ≤ g) :
    WS W0 (W'.setCell ⟨wb, 0, none⟩ (.slice (some ⟨g, 0, none⟩) n' c')) wb K (some ⟨g, 0, none⟩) n' c' R' k := by
  have hrow : ∀ k, Value.ownBlock (.slice p n c) = some k → W0.lo ≤ k := fun k hk => (h.own.2.lt k hk).1
  have hlt : wb < W.heap.size := Nat.lt_of_lt_of_le h.hwb h.gr.size
  have hb : W'.heap[wb]? = W.heap[wb]? := hg.block wb hlt (fun e => by have := hrow wb e.symm; have := h.hwb; omega)
  have hc : ∀ o, W'.cell? ⟨wb, o, none⟩ = W.cell? ⟨wb, o, none⟩ := fun o => World.cell?_of_block (w := W) (a := ⟨wb, o, none⟩) hb
  have hf : ∀ o, W'.frozen? ⟨wb, o, none⟩ = W.frozen? ⟨wb, o, none⟩ := fun o => World.frozen?_of_block (w := W) (a := ⟨wb, o, none⟩) hb
  have hbk : ∃ cur t fr, W'.heap[wb]? = some (.cells cur t fr) := by rw [hb]; exact h.blk
  exact ⟨grown_set (grown_row h.gr hg h.apart) 0 _, h.hwb, blk_set hbk 0 _, World.cell?_setCell_same' _ _ _ (by rw [hc, h.c0]; rfl), (World.cell?_setCell_other _ _ _ _ (by simp)).trans ((hc 1).trans h.c1), (World.cell?_setCell_other _ _ _ _ (by simp)).trans ((hc 2).trans h.c2), (World.cell?_setCell_other _ _ _ _ (by simp)).trans ((hc 3).trans h.c3), (World.cell?_setCell_other _ _ _ _ (by simp)).trans ((hc 4).trans h.c4), fun o => by rw [World.frozen?_setCell, hf]; exact h.fr o, own_set ho h.hwb _, fun k hk => by
    have e : g = k := Option.some.inj hk
    rcases hat with h1 | h1
    · exact h.apart k (by rw [h1, e])
    · exact .inr (by have := h.gr.tsize; omega),
    fun o ho => (World.cell?_setCell_other _ _ _ _ (by simp <;> omega)).trans ((hc o).trans (h.cx o ho))⟩
theorem WS.keptText {W' : World} {g n' c' : Nat} (h : WS W0 W wb K p n c R k) (hg : W.grownBy W' (Value.ownBlock (.slice p n c))) : Kept W (W'.setCell ⟨wb, 0, none⟩ (.slice (some ⟨g, 0, none⟩) n' c')) wb :=
  (Kept.row h.own hg).trans (Kept.setCell _ _ _ _)
end
end Go.Proofs.YtjhbplgppakhoaaGreatDoor

namespace Go.Proofs.YtjhbplgppakhoaaGreatDoor
open Go Go.RowKit
set_option linter.unusedVariables false
theorem neq_none (w : World) : (binOp .neq 78 .nilFunc .nilFunc).run Tryz.prog w = .ok (.bool false) w := by kernel_rfl
theorem neq_some (K : Nat) (w : World) : (binOp .neq 78 (.func (.func K) #[] #[]) .nilFunc).run Tryz.prog w = .ok (.bool true) w := by kernel_rfl
def PutOut (W0 : Bas) (w : World) (wb : Nat) (K : WK) (R : List Int) (k : Nat) (e : Ending) (w' : World) : Prop :=
  e = .returned (.tuple #[]) ∧ (∃ p n c, WS W0 w' wb K p n c R k) ∧ Kept w w' wb
theorem byte_head {X : List Int} (h : Byte X) (hp : 0 < X.length) : 0 ≤ X.getD 0 0 ∧ X.getD 0 0 < 256 := by
  cases X with
  | nil => simp at hp
  | cons x r => exact h x (by simp)
theorem drewN_add (w : World) (a b : Nat) : (w.drewN a).drewN b = w.drewN (a + b) := by simp [World.drewN]; omega
theorem gR_any (k : Nat) (x y : Int) (w : World) (hx0 : -9223372036854775808 ≤ x) (hx1 : x ≤ 9223372036854775807) (hy0 : -9223372036854775808 ≤ y) (hy1 : y ≤ 9223372036854775807) (hT : Tab w) (F : Nat) (hF : gV k = .func (.func F) #[] #[]) :
    Calls Tryz.prog F #[.int .i64 x, .int .i64 y] w fun e w' => e = .returned (.bool (gR k x y)) ∧ w' = w := by
  match k with
  | 0 => cases hF
  | 1 => cases hF; exact gap1_any x y w hx0 hx1 hy0 hy1 hT
  | 2 => cases hF; exact gap2_any x y w hx0 hx1 hy0 hy1 hT
  | m + 3 => cases hF; exact gap3_any x y w hx0 hx1 hy0 hy1 hT
theorem gV_enters (k F : Nat) (hF : gV k = .func (.func F) #[] #[]) : ∀ args w, (callFunc F args).run Tryz.prog w = .ok (.enter F args) w := by
  match k with
  | 0 => cases hF
  | 1 => cases hF; exact enters_of Tryz.func148 (by kernel_rfl) rfl
  | 2 => cases hF; exact enters_of Tryz.func159 (by kernel_rfl) rfl
  | m + 3 => cases hF; exact enters_of Tryz.func158 (by kernel_rfl) rfl
theorem endI_range {R : List Int} (h : Byte R) : -1 ≤ endI R ∧ endI R < 256 := by
  unfold endI
  split
  · omega
  · rename_i hR
    have hl : 0 < R.length := by cases R with | nil => exact absurd rfl hR | cons _ _ => simp
    have := h (R.getD (R.length - 1) 0) (by simp [List.getD, show R.length - 1 < R.length by omega])
    omega
set_option maxRecDepth 100000 in
set_option maxHeartbeats 1000000 in
theorem put_empty (W0 : Bas) (w : World) (wb : Nat) (K : WK) (p : Option Addr) (n c : Nat) (R : List Int) (k : Nat) (h : WS W0 w wb K p n c R k) :
    Calls Tryz.prog 69 #[.pointer (some ⟨wb, 0, none⟩), .string ⟨#[]⟩] w (PutOut W0 w wb K R k) := by
  have HS : Hid (WS W0 w wb K p n c R k) := h
  clear h
  go_enter Tryz.func69, Tryz.ntmps69
  go_wp2_with fail
  exact bodyPost_end (v := .tuple #[]) (by simp [results, Tryz.results69, go_sem]) rfl ⟨rfl, ⟨p, n, c, HS.out⟩, Kept.refl _ _⟩
theorem one_newB (w : World) (u : Value) (t : TypeId) : ∀ j x, [u][j]? = some x → (w.alloc (.cells #[u] t)).cell? ((⟨w.heap.size, 0, none⟩ : Addr).add j) = some x := fun j x hx => by
  match j, hx with
  | 0, hx => simp at hx; rw [← hx]; simp [Addr.add, World.cell?_alloc_new]
  | j + 1, hx => simp at hx
theorem app_bytesG (w : World) {ops : Array Oper} {rest : List Oper} {o : Oper} {a : Act} {Q : Exit → Act → World → Prop} (hgd : o.guard = none) (s x : Operand)
    (ho : o.op = .call { callee := .builtin .append, args := #[s, x], argTypes := #[28, 28] }) (B : Nat) (p : Option Addr) (n c : Nat) (ys : List Int) (z : Int)
    (hs : a.eval s = .slice p n c) (hown : OwnS w B p n c ys) (hx : a.eval x = .slice (some ⟨w.heap.size, 0, none⟩) 1 1) (hlen : n + 1 ≤ 1000000000000) (hbase : B ≤ w.heap.size)
    (h : ∀ g n' cap w', OwnS w' B (some ⟨g, 0, none⟩) n' cap (ys ++ [z]) → (w.alloc (.cells #[.int .u8 z] 5)).grownBy w' (Value.ownBlock (.slice p n c)) → Hid (Value.ownBlock (.slice p n c) = some g ∨ (w.alloc (.cells #[.int .u8 z] 5)).heap.size ≤ g) → wpList Tryz.prog ops Q rest (a.put o.dst (.slice (some ⟨g, 0, none⟩) n' cap)) w') : wpList Tryz.prog ops Q (o :: rest) a (w.alloc (.cells #[.int .u8 z] 5)) := by
  obtain ⟨i0, hi, hz0, hz1, hz2⟩ := info_parts infoByte
  obtain ⟨rfl, hr⟩ := hown
  refine wpList_append_lies _ hgd s x 28 ho B 5 i0 (.int .u8 0) 1 1 Tryz.underlying28 hi hz0 hz1 hz2 rfl (by decide) (.slice p ys.length c) ys.length (ys.map (Value.int .u8)) hs (hr.alloc _) ⟨w.heap.size, 0, none⟩ 1 1 [.int .u8 z] hx rfl (one_newB _ _ _) (oneCells [z]) (by decide) (by unfold maxLen; omega) (by omega) (by simp; omega) _ rfl ?_
  intro g cap w' hown' hgrow hat hlt
  exact h g _ cap w' ⟨by simp, by rw [List.map_append]; exact hown'⟩ hgrow (hat.imp id (fun e => Nat.le_of_eq e.symm))
theorem put_left {W0 : Bas} {w W1 W2 : World} {wb : Nat} {K : WK} {p : Option Addr} {n c : Nat} {R Y : List Int} {k : Nat} {g2 n2 c2 : Nat} (h : WS W0 w wb K p n c R k) (hg : (w.setCell ⟨wb, 1, none⟩ .nilFunc).grownBy W2 (Value.ownBlock (.slice p n c))) (ho : OwnS W2 W0.lo (some ⟨g2, 0, none⟩) n2 c2 Y) (hat : Value.ownBlock (.slice p n c) = some g2 ∨ (w.setCell ⟨wb, 1, none⟩ .nilFunc).heap.size ≤ g2) :
    (∃ p n c, WS W0 (W2.setCell ⟨wb, 0, none⟩ (.slice (some ⟨g2, 0, none⟩) n2 c2)) wb K p n c Y 0) ∧ Kept w (W2.setCell ⟨wb, 0, none⟩ (.slice (some ⟨g2, 0, none⟩) n2 c2)) wb :=
  ⟨⟨_, _, _, (h.gap 0).text hg ho hat⟩, (Kept.setCell _ _ _ _).trans ((h.gap 0).keptText hg)⟩
set_option maxRecDepth 100000 in
set_option maxHeartbeats 2000000 in
theorem put_none (W0 : Bas) (w : World) (wb : Nat) (K : WK) (p : Option Addr) (n c : Nat) (R X : List Int) (hX : Byte X) (hp : 0 < X.length) (hl : R.length + X.length ≤ 100000000000) (h : WS W0 w wb K p n c R 0) :
    Calls Tryz.prog 69 #[.pointer (some ⟨wb, 0, none⟩), .string (strOfNums X)] w (PutOut W0 w wb K (putR R 0 X) (putG 0 X)) := by
  have HPR : Hid (putR R 0 X = R ++ X) := by show _ = _; unfold putR; rw [if_neg (fun e => by rw [e] at hp; simp at hp), if_neg (by simp [gR])]
  have HPG : Hid (putG 0 X = 0) := by show _ = _; unfold putG; split <;> rfl
  obtain ⟨s, es⟩ : ∃ s, s = strOfNums X := ⟨_, rfl⟩
  have i1 : s.toList.isEmpty = false := by rw [es, str_list]; cases X with | nil => simp at hp | cons _ _ => rfl
  rw [← es]
  have HS : Hid (WS W0 w wb K p n c R 0) := h
  have HX : Hid ((Byte X ∧ 0 < X.length) ∧ R.length + X.length ≤ 100000000000 ∧ s = strOfNums X) := ⟨⟨hX, hp⟩, hl, es⟩
  have c1 : w.cell? ⟨wb, 1, none⟩ = some .nilFunc := h.c1
  have nq := neq_none
  have st0 := fun (W : World) (a : Addr) m => run_store Tryz.prog W a .nilFunc m rfl
  clear h hX hp hl es
  go_enter Tryz.func69, Tryz.ntmps69
  go_wp2_with fail
  refine wp_region_held_drew (S := fun W => ∃ m, W = w.drewN m) (by kernel_rfl) ⟨1, rfl⟩ (fun hHeld => ?_)
  have hS0 : ∃ m, w.drew = w.drewN m := ⟨1, rfl⟩
  refine hTake (i := 0) (v := .pointer (some ⟨wb, 0, none⟩)) (some 6) (by kernel_rfl) (by kernel_rfl) (by kernel_rfl) (by kernel_rfl) (by kernel_rfl) (fun _ _ _ h => h) (fun o ho W hSw => ?y0) (by assumption) ?_
  case y0 =>
    cases ho
    obtain ⟨m, rfl⟩ := hSw
    simp [execOp, go_sem, Act.eval]
  simp only [Act.put, zzA, zzB, zzC]
  refine hTake (i := 1) (v := .pointer (some ⟨wb, 0, none⟩)) (some 7) (by kernel_rfl) (by kernel_rfl) (by kernel_rfl) (by kernel_rfl) (by kernel_rfl) (fun _ _ _ h => h) (fun o ho W hSw => ?y1) (by assumption) ?_
  case y1 =>
    cases ho
    obtain ⟨m, rfl⟩ := hSw
    simp [execOp, go_sem, Act.eval]
  simp only [Act.put, zzA, zzB, zzC]
  refine hTake (i := 2) (v := .pointer (some ⟨wb, 1, none⟩)) (some 8) (by kernel_rfl) (by kernel_rfl) (by kernel_rfl) (by kernel_rfl) (by kernel_rfl) (fun _ _ _ h => h) (fun o ho W hSw => ?y2) (by assumption) ?_
  case y2 =>
    cases ho
    obtain ⟨m, rfl⟩ := hSw
    simp [execOp, go_sem, Act.eval]
  simp only [Act.put, zzA, zzB, zzC]
  refine hTake (i := 3) (v := .nilFunc) (some 9) (by kernel_rfl) (by kernel_rfl) (by kernel_rfl) (by kernel_rfl) (by kernel_rfl) (fun _ _ _ h => h) (fun o ho W hSw => ?y3) (by assumption) ?_
  case y3 =>
    cases ho
    obtain ⟨m, rfl⟩ := hSw
    simp [execOp, go_sem, Act.eval, c1]
  simp only [Act.put, zzA, zzB, zzC]
  refine hTake (i := 4) (v := .bool false) (some 10) (by kernel_rfl) (by kernel_rfl) (by kernel_rfl) (by kernel_rfl) (by kernel_rfl) (fun _ _ _ h => h) (fun o ho W hSw => ?y4) (by assumption) ?_
  case y4 =>
    cases ho
    obtain ⟨m, rfl⟩ := hSw
    simp [execOp, go_sem, Act.eval, nq]
  simp only [Act.put, zzA, zzB, zzC]
  refine hTake (i := 5) (v := .bool false) (some 11) (by kernel_rfl) (by kernel_rfl) (by kernel_rfl) (by kernel_rfl) (by kernel_rfl) (fun _ _ _ h => h) (fun o ho W hSw => ?y5) (by assumption) ?_
  case y5 =>
    cases ho
    obtain ⟨m, rfl⟩ := hSw
    simp [execOp, go_sem, Act.eval]
  simp only [Act.put, zzA, zzB, zzC]
  refine hSkip (i := 6) (some 12) (by kernel_rfl) (by kernel_rfl) (by kernel_rfl) (by kernel_rfl) (by kernel_rfl) (fun _ _ _ h => h) (by assumption) ?_
  simp only [Act.put, zzA, zzB, zzC]
  refine hSkip (i := 7) (some 13) (by kernel_rfl) (by kernel_rfl) (by kernel_rfl) (by kernel_rfl) (by kernel_rfl) (fun _ _ _ h => h) (by assumption) ?_
  simp only [Act.put, zzA, zzB, zzC]
  refine hSkip (i := 8) (some 14) (by kernel_rfl) (by kernel_rfl) (by kernel_rfl) (by kernel_rfl) (by kernel_rfl) (fun _ _ _ h => h) (by assumption) ?_
  simp only [Act.put, zzA, zzB, zzC]
  refine hSkip (i := 9) (some 15) (by kernel_rfl) (by kernel_rfl) (by kernel_rfl) (by kernel_rfl) (by kernel_rfl) (fun _ _ _ h => h) (by assumption) ?_
  simp only [Act.put, zzA, zzB, zzC]
  refine hSkip (i := 10) (some 16) (by kernel_rfl) (by kernel_rfl) (by kernel_rfl) (by kernel_rfl) (by kernel_rfl) (fun _ _ _ h => h) (by assumption) ?_
  simp only [Act.put, zzA, zzB, zzC]
  refine hSkip (i := 11) (some 17) (by kernel_rfl) (by kernel_rfl) (by kernel_rfl) (by kernel_rfl) (by kernel_rfl) (fun _ _ _ h => h) (by assumption) ?_
  simp only [Act.put, zzA, zzB, zzC]
  refine hSkip (i := 12) (some 18) (by kernel_rfl) (by kernel_rfl) (by kernel_rfl) (by kernel_rfl) (by kernel_rfl) (fun _ _ _ h => h) (by assumption) ?_
  simp only [Act.put, zzA, zzB, zzC]
  refine hSkip (i := 13) (some 19) (by kernel_rfl) (by kernel_rfl) (by kernel_rfl) (by kernel_rfl) (by kernel_rfl) (fun _ _ _ h => h) (by assumption) ?_
  simp only [Act.put, zzA, zzB, zzC]
  refine hSkip (i := 14) (some 20) (by kernel_rfl) (by kernel_rfl) (by kernel_rfl) (by kernel_rfl) (by kernel_rfl) (fun _ _ _ h => h) (by assumption) ?_
  simp only [Act.put, zzA, zzB, zzC]
  refine hSkip (i := 15) (some 21) (by kernel_rfl) (by kernel_rfl) (by kernel_rfl) (by kernel_rfl) (by kernel_rfl) (fun _ _ _ h => h) (by assumption) ?_
  simp only [Act.put, zzA, zzB, zzC]
  refine hTake (i := 16) (v := .bool false) (some 22) (by kernel_rfl) (by kernel_rfl) (by kernel_rfl) (by kernel_rfl) (by kernel_rfl) (fun _ _ _ h => h) (fun o ho W hSw => ?y16) (by assumption) ?_
  case y16 =>
    cases ho
    obtain ⟨m, rfl⟩ := hSw
    simp [execOp, go_sem, Act.eval]
  simp only [Act.put, zzA, zzB, zzC]
  refine wpAnyH_done (by kernel_rfl) ?_ _
  change Exit.then _ _ _ _ w.drew
  clear c1 hS0 hHeld
  have HS1' : Hid (WS W0 w.drew wb K p n c R 0) := HS.out.drewN 1
  have HKW' : Hid (Kept w w.drew wb) := Kept.drewN w wb 1
  obtain ⟨w1, ew1⟩ : ∃ w1, w1 = w.drew := ⟨_, rfl⟩
  rw [← ew1] at HS1' HKW' ⊢
  obtain ⟨p1, n1, c1, HS1⟩ : ∃ p1 n1 c1, Hid (WS W0 w1 wb K p1 n1 c1 R 0) := ⟨p, n, c, HS1'⟩
  have HKW : Hid (Kept w w1 wb) := HKW'
  have HLEN : Hid (R.length ≤ R.length) := Nat.le_refl _
  clear ew1 HS1' HKW'
  have HO1 : Hid (OwnS (w1.setCell ⟨wb, 1, none⟩ .nilFunc) W0.lo p1 n1 c1 (R)) := (HS1.out.gap 0).own
  have g0 : (w1.setCell ⟨wb, 1, none⟩ .nilFunc).cell? ⟨wb, 0, none⟩ = some (.slice p1 n1 c1) := (HS1.out.gap 0).c0
  have hf0 : (w1.setCell ⟨wb, 1, none⟩ .nilFunc).frozen? ⟨wb, 0, none⟩ = false := (HS1.out.gap 0).fr 0
  have b1 := HS1.out.c1
  have b2 := HS1.out.fr 1
  have HBS : Hid (W0.lo ≤ (w1.setCell ⟨wb, 1, none⟩ .nilFunc).heap.size) := (HS1.out.gap 0).gr.size
  have HWL : Hid (wb < (w1.setCell ⟨wb, 1, none⟩ .nilFunc).heap.size ∧ some wb ≠ Value.ownBlock (.slice p1 n1 c1)) := ⟨Nat.lt_of_lt_of_le HS1.out.hwb HBS.out, fun e => by have := (HS1.out.own.2.lt wb e.symm).1; have := HS1.out.hwb; omega⟩
  generalize gV 0 = gv at b1
  go_wp2_with (at_builtin; refine app_str _ rfl _ _ rfl W0.lo p1 n1 c1 (R) X HX.out.1.1 rfl HO1.out s HX.out.2.2 rfl HX.out.1.2 (by have h1 := HO1.out.1; have h2 := HX.out.2.1; have h3 := HLEN.out; omega) HBS.out ?_; intro g5 n5 cap5 w5 hown5 hg5 hn5 hat5; have e5 := (World.cell?_of_block (w := w1.setCell ⟨wb, 1, none⟩ .nilFunc) (a := ⟨wb, 0, none⟩) (hg5.block wb HWL.out.1 HWL.out.2)).trans g0; have e5f := (World.frozen?_of_block (w := w1.setCell ⟨wb, 1, none⟩ .nilFunc) (a := ⟨wb, 0, none⟩) (hg5.block wb HWL.out.1 HWL.out.2)).trans hf0)
  have HFIN := put_left (W1 := w1) HS1.out hg5 hown5 hat5.out
  exact bodyPost_end (v := .tuple #[]) (by simp [results, Tryz.results69, go_sem]) rfl ⟨rfl, by rw [HPR.out, HPG.out]; simpa using HFIN.1, HKW.out.trans HFIN.2⟩
set_option maxRecDepth 100000 in
set_option maxHeartbeats 2000000 in
theorem put_some (W0 : Bas) (w : World) (wb : Nat) (K : WK) (p : Option Addr) (n c : Nat) (R X : List Int) (k F : Nat) (hF : gV k = .func (.func F) #[] #[]) (hT : Tab w) (hR : Byte R) (hX : Byte X) (hp : 0 < X.length) (hl : R.length + X.length ≤ 100000000000) (h : WS W0 w wb K p n c R k) :
    Calls Tryz.prog 69 #[.pointer (some ⟨wb, 0, none⟩), .string (strOfNums X)] w (PutOut W0 w wb K (putR R k X) (putG k X)) := by
  have HPG : Hid (putG k X = 0) := by show _ = _; unfold putG; rw [if_neg (fun e => by rw [e] at hp; simp at hp)]
  have HPR0 : Hid (putR R k X = if gR k (endI R) (X.getD 0 0) = true then R ++ 32 :: X else R ++ X) := by show _ = _; unfold putR; rw [if_neg (fun e => by rw [e] at hp; simp at hp)]
  obtain ⟨s, es⟩ : ∃ s, s = strOfNums X := ⟨_, rfl⟩
  have i1 : s.toList.isEmpty = false := by rw [es, str_list]; cases X with | nil => simp at hp | cons _ _ => rfl
  rw [← es]
  have HS : Hid (WS W0 w wb K p n c R k) := h
  have HX : Hid ((Byte X ∧ 0 < X.length) ∧ R.length + X.length ≤ 100000000000 ∧ s = strOfNums X) := ⟨⟨hX, hp⟩, hl, es⟩
  have c1 : w.cell? ⟨wb, 1, none⟩ = some (.func (.func F) #[] #[]) := h.c1.trans (by rw [hF])
  have hx := byte_head hX hp
  have he := endI_range hR
  have HLA : Hid (∀ m, Calls Tryz.prog 105 #[.pointer (some ⟨wb, 0, none⟩)] (w.drewN m) fun e w' => e = .returned (.int .i64 (endI R)) ∧ ∃ m', w' = (w.drewN m).drewN m') := fun m => last_any wb p n c R (w.drewN m) h.c0 h.own.1 (by omega) hR h.own.bin
  have HGR : Hid (∀ m, Calls Tryz.prog F #[.int .i64 (endI R), .int .i64 (X.getD 0 0)] (w.drewN m) fun e w' => e = .returned (.bool (gR k (endI R) (X.getD 0 0))) ∧ w' = w.drewN m) := fun m => gR_any k _ _ (w.drewN m) (by omega) (by omega) (by omega) (by omega) hT F hF
  have hsz : 0 < s.size := by rw [es]; simpa [strOfNums, ByteArray.size] using hp
  have hs0 : ((s[0]'hsz).toNat : Int) = X.getD 0 0 := by
    subst es
    cases X with
    | nil => simp at hp
    | cons x r =>
      have hx1 := hX x (by simp)
      show ((strOfNums (x :: r)).data[0]'hsz).toNat = x
      simp [strOfNums]
      omega
  obtain ⟨x, ex⟩ : ∃ x, x = X.getD 0 0 := ⟨_, rfl⟩
  obtain ⟨z, ez⟩ : ∃ z, z = endI R := ⟨_, rfl⟩
  obtain ⟨G, eG⟩ : ∃ G, G = gR k z x := ⟨_, rfl⟩
  rw [← ex] at HGR hs0 hx HPR0
  rw [← ez] at HGR HLA HPR0 he
  rw [← eG] at HGR HPR0
  have hxw : IntKind.i64.wrap x = x := by simp [IntKind.wrap, IntKind.signed, IntKind.bits]; omega
  have nq := neq_some F
  have HEN : Hid (∀ args w, (callFunc F args).run Tryz.prog w = .ok (.enter F args) w) := gV_enters k F hF
  have hen := HEN.out
  have st0 := fun (W : World) (a : Addr) m => run_store Tryz.prog W a .nilFunc m rfl
  clear h hX hp hl es hT hR ex ez eG hF he
  go_enter Tryz.func69, Tryz.ntmps69
  go_wp2_with fail
  refine wp_region_held_drew (S := fun W => ∃ m, W = w.drewN m) (by kernel_rfl) ⟨1, rfl⟩ (fun hHeld => ?_)
  have hS0 : ∃ m, w.drew = w.drewN m := ⟨1, rfl⟩
  refine hTake (i := 0) (v := .pointer (some ⟨wb, 0, none⟩)) (some 6) (by kernel_rfl) (by kernel_rfl) (by kernel_rfl) (by kernel_rfl) (by kernel_rfl) (fun _ _ _ h => h) (fun o ho W hSw => ?y0) (by assumption) ?_
  case y0 =>
    cases ho
    obtain ⟨m, rfl⟩ := hSw
    simp [execOp, go_sem, Act.eval]
  simp only [Act.put, zzA, zzB, zzC]
  refine hTake (i := 1) (v := .pointer (some ⟨wb, 0, none⟩)) (some 7) (by kernel_rfl) (by kernel_rfl) (by kernel_rfl) (by kernel_rfl) (by kernel_rfl) (fun _ _ _ h => h) (fun o ho W hSw => ?y1) (by assumption) ?_
  case y1 =>
    cases ho
    obtain ⟨m, rfl⟩ := hSw
    simp [execOp, go_sem, Act.eval]
  simp only [Act.put, zzA, zzB, zzC]
  refine hTake (i := 2) (v := .pointer (some ⟨wb, 1, none⟩)) (some 8) (by kernel_rfl) (by kernel_rfl) (by kernel_rfl) (by kernel_rfl) (by kernel_rfl) (fun _ _ _ h => h) (fun o ho W hSw => ?y2) (by assumption) ?_
  case y2 =>
    cases ho
    obtain ⟨m, rfl⟩ := hSw
    simp [execOp, go_sem, Act.eval]
  simp only [Act.put, zzA, zzB, zzC]
  refine hTake (i := 3) (v := .func (.func F) #[] #[]) (some 9) (by kernel_rfl) (by kernel_rfl) (by kernel_rfl) (by kernel_rfl) (by kernel_rfl) (fun _ _ _ h => h) (fun o ho W hSw => ?y3) (by assumption) ?_
  case y3 =>
    cases ho
    obtain ⟨m, rfl⟩ := hSw
    simp [execOp, go_sem, Act.eval, c1]
  simp only [Act.put, zzA, zzB, zzC]
  refine hTake (i := 4) (v := .bool true) (some 10) (by kernel_rfl) (by kernel_rfl) (by kernel_rfl) (by kernel_rfl) (by kernel_rfl) (fun _ _ _ h => h) (fun o ho W hSw => ?y4) (by assumption) ?_
  case y4 =>
    cases ho
    obtain ⟨m, rfl⟩ := hSw
    simp [execOp, go_sem, Act.eval, nq]
  simp only [Act.put, zzA, zzB, zzC]
  refine hTake (i := 5) (v := .bool true) (some 11) (by kernel_rfl) (by kernel_rfl) (by kernel_rfl) (by kernel_rfl) (by kernel_rfl) (fun _ _ _ h => h) (fun o ho W hSw => ?y5) (by assumption) ?_
  case y5 =>
    cases ho
    obtain ⟨m, rfl⟩ := hSw
    simp [execOp, go_sem, Act.eval]
  simp only [Act.put, zzA, zzB, zzC]
  refine hTake (i := 6) (v := .pointer (some ⟨wb, 0, none⟩)) (some 12) (by kernel_rfl) (by kernel_rfl) (by kernel_rfl) (by kernel_rfl) (by kernel_rfl) (fun _ _ _ h => h) (fun o ho W hSw => ?y6) (by assumption) ?_
  case y6 =>
    cases ho
    obtain ⟨m, rfl⟩ := hSw
    simp [execOp, go_sem, Act.eval]
  simp only [Act.put, zzA, zzB, zzC]
  refine hTake (i := 7) (v := .pointer (some ⟨wb, 0, none⟩)) (some 13) (by kernel_rfl) (by kernel_rfl) (by kernel_rfl) (by kernel_rfl) (by kernel_rfl) (fun _ _ _ h => h) (fun o ho W hSw => ?y7) (by assumption) ?_
  case y7 =>
    cases ho
    obtain ⟨m, rfl⟩ := hSw
    simp [execOp, go_sem, Act.eval]
  simp only [Act.put, zzA, zzB, zzC]
  refine hTake (i := 8) (v := .pointer (some ⟨wb, 1, none⟩)) (some 14) (by kernel_rfl) (by kernel_rfl) (by kernel_rfl) (by kernel_rfl) (by kernel_rfl) (fun _ _ _ h => h) (fun o ho W hSw => ?y8) (by assumption) ?_
  case y8 =>
    cases ho
    obtain ⟨m, rfl⟩ := hSw
    simp [execOp, go_sem, Act.eval]
  simp only [Act.put, zzA, zzB, zzC]
  refine hTake (i := 9) (v := .func (.func F) #[] #[]) (some 15) (by kernel_rfl) (by kernel_rfl) (by kernel_rfl) (by kernel_rfl) (by kernel_rfl) (fun _ _ _ h => h) (fun o ho W hSw => ?y9) (by assumption) ?_
  case y9 =>
    cases ho
    obtain ⟨m, rfl⟩ := hSw
    simp [execOp, go_sem, Act.eval, c1]
  simp only [Act.put, zzA, zzB, zzC]
  refine hTake (i := 10) (v := .pointer (some ⟨wb, 0, none⟩)) (some 16) (by kernel_rfl) (by kernel_rfl) (by kernel_rfl) (by kernel_rfl) (by kernel_rfl) (fun _ _ _ h => h) (fun o ho W hSw => ?y10) (by assumption) ?_
  case y10 =>
    cases ho
    obtain ⟨m, rfl⟩ := hSw
    simp [execOp, go_sem, Act.eval]
  simp only [Act.put, zzA, zzB, zzC]
  refine hTake (i := 12) (v := .string s) (some 18) (by kernel_rfl) (by kernel_rfl) (by kernel_rfl) (by kernel_rfl) (by kernel_rfl) (fun _ _ _ h => h) (fun o ho W hSw => ?y12) (by assumption) ?_
  case y12 =>
    cases ho
    obtain ⟨m, rfl⟩ := hSw
    simp [execOp, go_sem, Act.eval]
  simp only [Act.put, zzA, zzB, zzC]
  refine hTake (i := 13) (v := .int .u8 x) (some 19) (by kernel_rfl) (by kernel_rfl) (by kernel_rfl) (by kernel_rfl) (by kernel_rfl) (fun _ _ _ h => h) (fun o ho W hSw => ?y13) (by assumption) ?_
  case y13 =>
    cases ho
    obtain ⟨m, rfl⟩ := hSw
    simp [execOp, go_sem, Act.eval, hsz]
    exact hs0
  simp only [Act.put, zzA, zzB, zzC]
  refine hTake (i := 14) (v := .int .i64 x) (some 20) (by kernel_rfl) (by kernel_rfl) (by kernel_rfl) (by kernel_rfl) (by kernel_rfl) (fun _ _ _ h => h) (fun o ho W hSw => ?y14) (by assumption) ?_
  case y14 =>
    cases ho
    obtain ⟨m, rfl⟩ := hSw
    simp [execOp, go_sem, Act.eval, hxw]
  simp only [Act.put, zzA, zzB, zzC]
  refine hCallE (i := 11) (some 17) (by kernel_rfl) (by kernel_rfl) (by kernel_rfl) (fun o ho => ?y11) (HLA.out 1) ?_ (fun ch w' h => by obtain ⟨h, _⟩ := h; simp at h) (fun w' h => by obtain ⟨h, _⟩ := h; simp at h)
  case y11 =>
    cases ho
    simp [execOp, go_sem, Act.eval]
  rintro u w9 ⟨hu, m9, rfl⟩
  cases hu
  have hS9 : ∃ m, (w.drewN 1).drewN m9 = w.drewN m := ⟨1 + m9, drewN_add _ _ _⟩
  refine ⟨hS9, ?_⟩
  rw [drewN_add]
  simp only [Act.put, zzA, zzB, zzC]
  generalize 1 + m9 = M
  refine hCallE (i := 15) (some 21) (by kernel_rfl) (by kernel_rfl) (by kernel_rfl) (fun o ho => ?y15) (HGR.out M) ?_ (fun ch w' h => by obtain ⟨h, _⟩ := h; simp at h) (fun w' h => by obtain ⟨h, _⟩ := h; simp at h)
  case y15 =>
    cases ho
    simp [execOp, go_sem, Act.eval, hen]
  rintro u w10 ⟨hu, hw10⟩
  cases hu
  subst hw10
  refine ⟨⟨M, rfl⟩, ?_⟩
  simp only [Act.put, zzA, zzB, zzC]
  have hS10 : ∃ m, w.drewN M = w.drewN m := ⟨M, rfl⟩
  refine hTake (i := 16) (v := .bool G) (some 22) (by kernel_rfl) (by kernel_rfl) (by kernel_rfl) (by kernel_rfl) (by kernel_rfl) (fun _ _ _ h => h) (fun o ho W hSw => ?y16) (by assumption) ?_
  case y16 =>
    cases ho
    obtain ⟨m, rfl⟩ := hSw
    simp [execOp, go_sem, Act.eval]
  simp only [Act.put, zzA, zzB, zzC]
  refine wpAnyH_done (by kernel_rfl) ?_ _
  change Exit.then _ _ _ _ (w.drewN M)
  clear c1 hS0 hHeld hS10 hS9
  have HS1' : Hid (WS W0 (w.drewN M) wb K p n c R k) := HS.out.drewN M
  have HKW' : Hid (Kept w (w.drewN M) wb) := Kept.drewN w wb M
  obtain ⟨w0, ew0⟩ : ∃ w1, w1 = w.drewN M := ⟨_, rfl⟩
  rw [← ew0] at HS1' HKW' ⊢
  clear ew0
  cases G with
  | false =>
    have HPR : Hid (putR R k X = R ++ X) := HPR0.out
    obtain ⟨w1, p1, n1, c1, ew1, HS1⟩ : ∃ w1 p1 n1 c1, w1 = w0 ∧ Hid (WS W0 w1 wb K p1 n1 c1 R k) := ⟨w0, p, n, c, rfl, HS1'⟩
    subst ew1
    have HKW : Hid (Kept w w1 wb) := HKW'
    have HLEN : Hid (R.length ≤ R.length) := Nat.le_refl _
    clear HS1' HKW' HPR0
    have HO1 : Hid (OwnS (w1.setCell ⟨wb, 1, none⟩ .nilFunc) W0.lo p1 n1 c1 (R)) := (HS1.out.gap 0).own
    have g0 : (w1.setCell ⟨wb, 1, none⟩ .nilFunc).cell? ⟨wb, 0, none⟩ = some (.slice p1 n1 c1) := (HS1.out.gap 0).c0
    have hf0 : (w1.setCell ⟨wb, 1, none⟩ .nilFunc).frozen? ⟨wb, 0, none⟩ = false := (HS1.out.gap 0).fr 0
    have b1 := HS1.out.c1
    have b2 := HS1.out.fr 1
    have HBS : Hid (W0.lo ≤ (w1.setCell ⟨wb, 1, none⟩ .nilFunc).heap.size) := (HS1.out.gap 0).gr.size
    have HWL : Hid (wb < (w1.setCell ⟨wb, 1, none⟩ .nilFunc).heap.size ∧ some wb ≠ Value.ownBlock (.slice p1 n1 c1)) := ⟨Nat.lt_of_lt_of_le HS1.out.hwb HBS.out, fun e => by have := (HS1.out.own.2.lt wb e.symm).1; have := HS1.out.hwb; omega⟩
    generalize gV k = gv at b1
    go_wp2_with (at_builtin; refine app_str _ rfl _ _ rfl W0.lo p1 n1 c1 (R) X HX.out.1.1 rfl HO1.out s HX.out.2.2 rfl HX.out.1.2 (by have h1 := HO1.out.1; have h2 := HX.out.2.1; have h3 := HLEN.out; omega) HBS.out ?_; intro g5 n5 cap5 w5 hown5 hg5 hn5 hat5; have e5 := (World.cell?_of_block (w := w1.setCell ⟨wb, 1, none⟩ .nilFunc) (a := ⟨wb, 0, none⟩) (hg5.block wb HWL.out.1 HWL.out.2)).trans g0; have e5f := (World.frozen?_of_block (w := w1.setCell ⟨wb, 1, none⟩ .nilFunc) (a := ⟨wb, 0, none⟩) (hg5.block wb HWL.out.1 HWL.out.2)).trans hf0)
    have HFIN := put_left (W1 := w1) HS1.out hg5 hown5 hat5.out
    exact bodyPost_end (v := .tuple #[]) (by simp [results, Tryz.results69, go_sem]) rfl ⟨rfl, by rw [HPR.out, HPG.out]; simpa using HFIN.1, HKW.out.trans HFIN.2⟩
  | true =>
    have HPR : Hid (putR R k X = (R ++ [32]) ++ X) := by show _ = _; rw [HPR0.out]; simp
    have c0 := HS1'.out.c0
    have f0 := HS1'.out.fr 0
    have HWL0 : Hid (wb < w0.heap.size ∧ some wb ≠ Value.ownBlock (.slice p n c)) := ⟨Nat.lt_of_lt_of_le HS1'.out.hwb HS1'.out.gr.size, fun e => by have := (HS1'.out.own.2.lt wb e.symm).1; have := HS1'.out.hwb; omega⟩
    have HSA : Hid (WS W0 (w0.alloc (.cells #[.int .u8 32] 5)) wb K p n c R k) := HS1'.out.below ((Below.refl _ _).alloc (Nat.le_refl _) _)
    have a0 : (w0.alloc (.cells #[.int .u8 32] 5)).cell? ⟨wb, 0, none⟩ = some (.slice p n c) := HSA.out.c0
    have af : (w0.alloc (.cells #[.int .u8 32] 5)).frozen? ⟨wb, 0, none⟩ = false := HSA.out.fr 0
    have tok1 : True := trivial
    go_wp2_with (at_builtin; first
      | (have _t := tok1; refine app_bytesG _ rfl _ _ rfl W0.lo p n c R 32 rfl HS1'.out.own rfl (by have h1 := HS1'.out.own.1; have h2 := HX.out.2.1; omega) HS1'.out.gr.size ?_; intro g2 n2 cap2 w2 hown2 hg2 hat2; have e0 := (World.cell?_of_block (w := w0.alloc (.cells #[.int .u8 32] 5)) (a := ⟨wb, 0, none⟩) (hg2.block wb (by have := HWL0.out.1; simp; omega) HWL0.out.2)).trans a0; have e0f := (World.frozen?_of_block (w := w0.alloc (.cells #[.int .u8 32] 5)) (a := ⟨wb, 0, none⟩) (hg2.block wb (by have := HWL0.out.1; simp; omega) HWL0.out.2)).trans af
         have HS1 : Hid (WS W0 (w2.setCell ⟨wb, 0, none⟩ (.slice (some ⟨g2, 0, none⟩) n2 cap2)) wb K (some ⟨g2, 0, none⟩) n2 cap2 (R ++ [32]) k) := HSA.out.text hg2 hown2 hat2.out
         have HKW : Hid (Kept w (w2.setCell ⟨wb, 0, none⟩ (.slice (some ⟨g2, 0, none⟩) n2 cap2)) wb) := HKW'.out.trans ((Kept.below ((Below.refl _ _).alloc (Nat.le_refl _) _)).trans (HSA.out.keptText hg2))
         have b1 := HS1.out.c1
         have b2 := HS1.out.fr 1
         have g0 : ((w2.setCell ⟨wb, 0, none⟩ (.slice (some ⟨g2, 0, none⟩) n2 cap2)).setCell ⟨wb, 1, none⟩ .nilFunc).cell? ⟨wb, 0, none⟩ = some (.slice (some ⟨g2, 0, none⟩) n2 cap2) := (HS1.out.gap 0).c0
         have hf0 : ((w2.setCell ⟨wb, 0, none⟩ (.slice (some ⟨g2, 0, none⟩) n2 cap2)).setCell ⟨wb, 1, none⟩ .nilFunc).frozen? ⟨wb, 0, none⟩ = false := (HS1.out.gap 0).fr 0
         have HO1 : Hid (OwnS ((w2.setCell ⟨wb, 0, none⟩ (.slice (some ⟨g2, 0, none⟩) n2 cap2)).setCell ⟨wb, 1, none⟩ .nilFunc) W0.lo (some ⟨g2, 0, none⟩) n2 cap2 (R ++ [32])) := (HS1.out.gap 0).own
         have HBS : Hid (W0.lo ≤ ((w2.setCell ⟨wb, 0, none⟩ (.slice (some ⟨g2, 0, none⟩) n2 cap2)).setCell ⟨wb, 1, none⟩ .nilFunc).heap.size) := (HS1.out.gap 0).gr.size
         have HWL : Hid (wb < ((w2.setCell ⟨wb, 0, none⟩ (.slice (some ⟨g2, 0, none⟩) n2 cap2)).setCell ⟨wb, 1, none⟩ .nilFunc).heap.size ∧ some wb ≠ Value.ownBlock (.slice (some ⟨g2, 0, none⟩) n2 cap2)) := ⟨Nat.lt_of_lt_of_le HS1.out.hwb HBS.out, fun e => by have := (HS1.out.own.2.lt wb e.symm).1; have := HS1.out.hwb; omega⟩
         generalize gV k = gv at b1
         clear tok1 hown2 hg2 hat2
         have tok2 : True := trivial)
      | (have _t := tok2; refine app_str _ rfl _ _ rfl W0.lo (some ⟨g2, 0, none⟩) n2 cap2 (R ++ [32]) X HX.out.1.1 rfl HO1.out s HX.out.2.2 rfl HX.out.1.2 (by have h1 := HO1.out.1; have h2 := HX.out.2.1; simp at h1; omega) HBS.out ?_; intro g5 n5 cap5 w5 hown5 hg5 hn5 hat5; have e5 := (World.cell?_of_block (w := (w2.setCell ⟨wb, 0, none⟩ (.slice (some ⟨g2, 0, none⟩) n2 cap2)).setCell ⟨wb, 1, none⟩ .nilFunc) (a := ⟨wb, 0, none⟩) (hg5.block wb HWL.out.1 HWL.out.2)).trans g0; have e5f := (World.frozen?_of_block (w := (w2.setCell ⟨wb, 0, none⟩ (.slice (some ⟨g2, 0, none⟩) n2 cap2)).setCell ⟨wb, 1, none⟩ .nilFunc) (a := ⟨wb, 0, none⟩) (hg5.block wb HWL.out.1 HWL.out.2)).trans hf0; clear tok2))
    have HFIN := put_left (W1 := w0) HS1.out hg5 hown5 hat5.out
    exact bodyPost_end (v := .tuple #[]) (by simp [results, Tryz.results69, go_sem]) rfl ⟨rfl, by rw [HPR.out, HPG.out]; simpa using HFIN.1, HKW.out.trans HFIN.2⟩
theorem put_any (W0 : Bas) (w : World) (wb : Nat) (K : WK) (R X : List Int) (k : Nat) (hT : Tab w) (hR : Byte R) (hX : Byte X) (hl : R.length + X.length ≤ 100000000000) (h : ∃ p n c, WS W0 w wb K p n c R k) :
    Calls Tryz.prog 69 #[.pointer (some ⟨wb, 0, none⟩), .string (strOfNums X)] w (PutOut W0 w wb K (putR R k X) (putG k X)) := by
  obtain ⟨p, n, c, h⟩ := h
  cases X with
  | nil => exact put_empty W0 w wb K p n c R k h
  | cons x r =>
    match k, h with
    | 0, h => exact put_none W0 w wb K p n c R (x :: r) hX (by simp) hl h
    | 1, h => exact put_some W0 w wb K p n c R (x :: r) 1 _ rfl hT hR hX (by simp) hl h
    | 2, h => exact put_some W0 w wb K p n c R (x :: r) 2 _ rfl hT hR hX (by simp) hl h
    | m + 3, h => exact put_some W0 w wb K p n c R (x :: r) (m + 3) _ rfl hT hR hX (by simp) hl h
end Go.Proofs.YtjhbplgppakhoaaGreatDoor

namespace Go.Proofs.YtjhbplgppakhoaaGreatDoor
open Go Go.RowKit Go.Maps
set_option linter.unusedVariables false
theorem keyPair (P : Program) (k s i : TypeId) (F : Array Field) (f0 f1 : Field) (hF : F = #[f0, f1]) (hu : P.underlying k = some (.struct F)) (t0 : f0.type = s) (o0 : f0.offset = 0) (t1 : f1.type = i) (o1 : f1.offset = 1) (n0 : (f0.name != "_") = true) (n1 : (f1.name != "_") = true)
    (hs : P.underlying s = some .string) (hi : P.underlying i = some (.int .i64)) (ck : P.cellsOf k = 2) (cs : P.cellsOf s = 1) (ci : P.cellsOf i = 1) (ht : P.keyType k = true) (n : Nat) (hn : P.types.size = n + 1) (x : ByteArray) (y : Int) (hx : x.size ≤ maxLen) (hw : (Lit.int .i64 y).wf = true) :
    keyOf P k (.agg #[.string x, .int .i64 y]) = some (.string (keyBytes [.string x.data.toList, .int .i64 y])) := by
  subst hF
  have e0 : P.keyLits (n + 1) s [.string x] = some [.string x.data.toList] := by unfold Program.keyLits; rw [hs]; simp [hx]
  have e1 : P.keyLits (n + 1) i [.int .i64 y] = some [.int .i64 y] := by unfold Program.keyLits; rw [hi]; simp [hw]
  have e2 : P.keyLits (P.types.size + 1) k [.string x, .int .i64 y] = some [.string x.data.toList, .int .i64 y] := by
    rw [hn]
    unfold Program.keyLits
    rw [hu]
    simp [ck, n0, n1, t0, t1, o0, o1, cs, ci, e0, e1]
  have e3 : (Value.agg #[.string x, .int .i64 y]).formed P k = true := by simp [Value.formed, hu, ck]
  unfold keyOf
  rw [hu]
  simp only [ht, e3, Bool.and_self, if_true]
  have e4 : (Value.agg #[.string x, .int .i64 y]).cells.toList = [.string x, .int .i64 y] := by simp [Value.cells]
  rw [e4, e2]
  rfl
end Go.Proofs.YtjhbplgppakhoaaGreatDoor

