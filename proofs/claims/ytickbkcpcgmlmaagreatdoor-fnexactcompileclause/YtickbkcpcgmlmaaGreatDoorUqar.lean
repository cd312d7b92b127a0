/- Texts of CeA, CeB. Own work of the verifier. -/
import Derived.Test.YtickbkcpcgmlmaaGreatDoorUqaq
namespace Go.Proofs.YtickbkcpcgmlmaaGreatDoor
set_option maxRecDepth 100000
open Go Go.RowKit Go.Maps
set_option linter.unusedVariables false
set_option linter.unusedSimpArgs false
structure FrP (Z X : List Nat) (w w' : World) : Prop extends FrX X w w' where
 keep : ∀ z ∈ Z, z < w.heap.size → z ∉ X → w'.heap[z]? = w.heap[z]?
theorem FrP.refl {Z : List Nat} (X : List Nat) (w : World) : FrP Z X w w := ⟨FrX.refl X w, fun _ _ _ _ => rfl⟩
theorem FrP.trans {Z X : List Nat} {w w1 w2 : World} (h : FrP Z X w w1) (k : FrP Z X w1 w2) : FrP Z X w w2 := ⟨h.toFrX.trans k.toFrX, fun z hz hl hx => (k.keep z hz (Nat.lt_of_lt_of_le hl h.size) hx).trans (h.keep z hz hl hx)⟩
theorem FrP.of {Z : List Nat} (X : List Nat) {w w' : World} (h : Below w.heap.size w w') : FrP Z X w w' := ⟨FrX.of X h, fun z _ hl _ => h.block z hl⟩
theorem FrP.below {Z X : List Nat} {w w1 w2 : World} (h : FrP Z X w w1) (k : Below w1.heap.size w1 w2) : FrP Z X w w2 := h.trans (FrP.of X k)
theorem FrP.set {Z X : List Nat} {w w1 : World} (h : FrP Z X w w1) {b : Nat} (hb : b ∈ X) (o : Nat) (v : Value) : FrP Z X w (w1.setCell ⟨b, o, none⟩ v) := ⟨h.toFrX.set hb o v, fun z hz hl hx => (Below.heap_setCell _ _ _ _ (show z ≠ b from fun e => hx (e ▸ hb))).trans (h.keep z hz hl hx)⟩
theorem FrP.less {Z Y X : List Nat} {w w' : World} (h : FrP Z X w w') (hy : ∀ y ∈ Y, y ∈ Z) : FrP Y X w w' := ⟨h.toFrX, fun z hz => h.keep z (hy z hz)⟩
theorem FrP.grown {X Z : List Nat} {w w' : World} {B n c : Nat} {p : Option Addr} {ts : List Iv} (hown : OwnIv Z w B p n c ts) (hg : w.grownBy w' (Value.ownBlock (.slice p n c))) : FrP Z X w w' := by
 refine ⟨FrX.grown hown hg, fun z hz hl _ => hg.block z hl fun e => ?_⟩; obtain ⟨hn, rs, hl', hr, hf, ha⟩ := hown
 rcases hr.2 with ⟨hv, _⟩ | ⟨g, cap, cur, hv, hB, hg', _⟩
 ·simp only [Value.slice.injEq] at hv; rw [hv.1] at e; simp [Value.ownBlock] at e
 ·simp only [Value.slice.injEq] at hv
  have h1 := (ha.2.2 z hz).1; rw [hv.1] at e h1
  simp [Value.ownBlock] at e
  exact h1 (by rw [e])
theorem QFr.frp {Z X : List Nat} {b c : Nat} {w0 w w' : World} (h : FrP Z X w0 w) (k : QFr b c w w') (hb : 0 < c → w0.heap.size ≤ b) : FrP Z X w0 w' := ⟨QFr.frx h.toFrX k hb, fun z hz hl hx => (k.block z (Nat.lt_of_lt_of_le hl h.size) fun hc => by have := hb hc; omega).trans (h.keep z hz hl hx)⟩
theorem QR.frp {Z X : List Nat} {w w' : World} {B : Nat} {e : TypeId} {size : Nat} {p : Option Addr} {b off n c : Nat} {cs : List Value} (h : QR w B e size p b off n c cs) (hf : FrP Z X w w') (he : e ≠ 72) (hX : ∀ x ∈ X, x < B) : QR w' B e size p b off n c cs := h.fr hf.toFrX he hX
def prmL (C : List Int) : List Int := ((List.range C.length).filter fun v => decide (C.getD v 0 = 2)).map fun v : Nat => (v : Int)
theorem prmL_take (C : List Int) : ∀ n, n ≤ C.length → ((List.range n).filter fun v => decide (C.getD v 0 = 2)).length = ((C.take n).filter (fun x => decide (x = 2))).length
 | 0, _ => rfl
 | n + 1, h => by
   have e : C.take (n + 1) = C.take n ++ [C.getD n 0] := by
    rw [List.take_add_one, List.getElem?_eq_getElem (by omega)]
    simp [List.getD_eq_getElem?_getD, List.getElem?_eq_getElem (show n < C.length by omega)]
   rw [List.range_succ, List.filter_append, List.length_append, prmL_take C n (by omega), e, List.filter_append, List.length_append]
   congr 1
   simp only [List.filter_cons, List.filter_nil, decide_eq_true_eq]
   split <;> rfl
theorem prmL_idx {C : List Int} {v : Nat} (hv : v < C.length) (h2 : C.getD v 0 = 2) : (v : Int) ∈ prmL C ∧ ((prmL C).idxOf (v : Int) : Int) = -1 - prmK C v := by
 have hm : (v : Int) ∈ prmL C := by
  unfold prmL
  exact List.mem_map.2 ⟨v, List.mem_filter.2 ⟨List.mem_range.2 hv, decide_eq_true h2⟩, rfl⟩
 refine ⟨hm, ?_⟩
 have key : (prmL C).idxOf (v : Int) = ((List.range v).filter fun v => decide (C.getD v 0 = 2)).length := by
  unfold prmL
  have hs : List.range C.length = List.range v ++ v :: (List.range' (v + 1) (C.length - (v + 1))) := by
   rw [List.range_eq_range', List.range_eq_range']
   have h1 : List.range' 0 C.length = List.range' 0 v ++ List.range' (0 + v) (C.length - v) := by
    rw [List.range'_append_1]; congr 1; omega
   rw [h1, Nat.zero_add]
   congr 1
   rw [show C.length - v = (C.length - (v + 1)) + 1 by omega, List.range'_succ]
  rw [hs, List.filter_append, List.map_append, List.idxOf_append, if_neg]
  ·have hd : decide (C.getD v 0 = 2) = true := by simpa using h2
   rw [List.filter_cons, if_pos hd]
   simp
  ·intro hmem
   obtain ⟨u, hu, e⟩ := List.mem_map.1 hmem; have := List.mem_range.1 (List.mem_filter.1 hu).1
   omega
 rw [key, prmL_take C v (by omega)]
 unfold prmK
 omega
theorem prmL_len (C : List Int) : (prmL C).length = prmN C := by
 unfold prmL prmN
 rw [List.length_map, prmL_take C C.length (Nat.le_refl _), List.take_length]
def RegMap (w : World) (b : Nat) (reg : List (Option Int)) : Prop := ∃ (D : DataW Unit) (n : Nat), w.ownsMap Tryz.prog 94 (plainElem Tryz.prog 3) b n D ∧ n + reg.countP (fun o => o.isNone) ≤ 3000 ∧ (∀ v : Nat, Maps.has D (.int .i64 v) = (reg.getD v none).isSome) ∧
 (∀ (v : Nat) r, reg.getD v none = some r → D.atKey (.int .i64 v) (.lit (.int .i64 0)) = .lit (.int .i64 r))
theorem RegMap.lt {w : World} {b : Nat} {reg : List (Option Int)} (h : RegMap w b reg) : b < w.heap.size := by obtain ⟨D, n, h, _⟩ := h; exact h.lt
theorem RegMap.of_block {w w' : World} {b : Nat} {reg : List (Option Int)} (h : RegMap w b reg) (hb : w'.heap[b]? = w.heap[b]?) : RegMap w' b reg := by
 obtain ⟨D, n, ⟨es, clock, h1, r⟩, h2⟩ := h; exact ⟨D, n, ⟨es, clock, hb.trans h1, r⟩, h2⟩
theorem getD_replN (n v : Nat) : (List.replicate n (none : Option Int)).getD v none = none := by
 rw [List.getD_eq_getElem?_getD, List.getElem?_replicate]
 split <;> rfl
theorem RegMap.made (w : World) (n : Nat) (hn : n ≤ 3000) : RegMap (w.alloc (.map #[] 0)) w.heap.size (List.replicate n none) := by
 refine ⟨_, 0, World.ownsMap_made _ _ _ _, ?_, fun v => by rw [getD_replN]; rfl, fun v r h => by rw [getD_replN] at h; cases h⟩; have := List.countP_le_length (p := fun o : Option Int => o.isNone) (l := List.replicate n none); rw [List.length_replicate] at this
 omega
theorem RegMap.put {w' : World} {b n : Nat} {reg : List (Option Int)} {D : DataW Unit} {v : Nat} {r : Int} (hv : v < reg.length) (hr : reg.getD v none = none) (hc : n + reg.countP (fun o => o.isNone) ≤ 3000) (hh : ∀ v : Nat, Maps.has D (.int .i64 v) = (reg.getD v none).isSome)
  (ha : ∀ (v : Nat) r, reg.getD v none = some r → D.atKey (.int .i64 v) (.lit (.int .i64 0)) = .lit (.int .i64 r)) (hm : IsMap D) (hown : w'.ownsMap Tryz.prog 94 (plainElem Tryz.prog 3) b (n + 1) (D.put (.int .i64 v) (.lit (.int .i64 r)))) : RegMap w' b (reg.set v (some r)) := by
 have hkl : WideAt.IsKeyLit (.int .i64 v) := trivial; refine ⟨_, _, hown, ?_, fun u => ?_, fun u x hx => ?_⟩
 ·have h0 : reg[v] = none := by rw [List.getD_eq_getElem?_getD, List.getElem?_eq_getElem hv] at hr; exact hr
  have hp : 0 < reg.countP (fun o => o.isNone) := List.countP_pos_iff.2 ⟨reg[v], List.getElem_mem hv, by rw [h0]; rfl⟩; rw [List.countP_set hv, h0]
  simp
  omega
 ·rw [getD_setO]
  by_cases e : u = v
  ·subst e; rw [has_put_same hm hkl]; simp [hv]
  ·rw [has_put_other (by simp; omega), hh, if_neg (fun q => e q.1)]
 ·rw [getD_setO] at hx
  by_cases e : u = v
  ·subst e
   rw [if_pos ⟨rfl, hv⟩] at hx
   cases hx
   rw [atKey_put_same hm hkl]
  ·rw [if_neg (fun q => e q.1)] at hx
   rw [atKey_put_other (by simp; omega), ha u x hx]
structure PK (Z : List Nat) (w1 : World) (kb pb rb : Nat) (pc : Option Addr) (cc : Nat) (C : List Int) (s : KS) (w : World) : Prop where
 sty : StyX [kb, pb, rb] w1 w
 c0 : ∃ p n c, w.cell? ⟨kb, 0, none⟩ = some (.slice p n c) ∧ OwnIv Z w w1.heap.size p n c s.out
 c1 : w.cell? ⟨kb, 1, none⟩ = some (.slice pc C.length cc)
 c2 : w.cell? ⟨kb, 2, none⟩ = some (.map (some pb))
 c3 : w.cell? ⟨kb, 3, none⟩ = some (.map (some rb))
 c4 : w.cell? ⟨kb, 4, none⟩ = some (.int .i64 s.nx)
 fz : ∀ o, w.frozen? ⟨kb, o, none⟩ = false
 pm : NumMap w pb (prmL C)
 rm : RegMap w rb s.reg
 ln : s.reg.length = C.length
 lo : s.low
 lt : ∀ b ∈ [kb, pb, rb], b < w1.heap.size
 zl : ∀ z ∈ Z, z < w.heap.size
section
variable {Z : List Nat} {W0 w1 : World} {kb pb rb : Nat} {pc : Option Addr} {cc : Nat} {C : List Int} {s : KS} {w : World}
theorem PK.below {w' : World} (h : PK Z w1 kb pb rb pc cc C s w) (hb : Below w.heap.size w w') : PK Z w1 kb pb rb pc cc C s w' := by
 have hc : ∀ p v, w.cell? p = some v → w'.cell? p = some v := fun p v h => (hb.cell (World.block_lt_of_cell? _ _ h)).trans h
 obtain ⟨p, n, c, h4, h5⟩ := h.c0; exact ⟨h.sty.below hb, ⟨p, n, c, hc _ _ h4, h5.below hb⟩, hc _ _ h.c1, hc _ _ h.c2, hc _ _ h.c3, hc _ _ h.c4, fun o => (hb.frozen (p := ⟨kb, o, none⟩) (Nat.lt_of_lt_of_le (h.lt kb (by simp)) h.sty.size)).trans (h.fz o), h.pm.of_block (hb.block pb h.pm.lt), h.rm.of_block (hb.block rb h.rm.lt), h.ln, h.lo, h.lt, fun z hz => Nat.lt_of_lt_of_le (h.zl z hz) hb.size⟩
theorem PK.own_set (h : PK Z w1 kb pb rb pc cc C s w) {b : Nat} (hb : b ∈ [kb, pb, rb]) (o : Nat) (v : Value) {p : Option Addr} {n c : Nat} (ho : OwnIv Z w w1.heap.size p n c s.out) : OwnIv Z (w.setCell ⟨b, o, none⟩ v) w1.heap.size p n c s.out :=
 ho.of (by simp) fun k hk _ => Below.heap_setCell _ _ _ _ (show k ≠ b by have := h.lt b hb; omega)
theorem PK.next (E : CEnv w1 kb pb rb pc cc C) (h : PK Z w1 kb pb rb pc cc C s w) : PK Z w1 kb pb rb pc cc C s.take (w.setCell ⟨kb, 4, none⟩ (.int .i64 (s.nx + 1 : Nat))) := by
 obtain ⟨p, n, c, h0, ho⟩ := h.c0; have n1 := E.ne.1; have n2 := E.ne.2.1
 exact ⟨h.sty.set (by simp) _ _, ⟨p, n, c, cell_other h0 (by simp), h.own_set (by simp) _ _ ho⟩, cell_other h.c1 (by simp), cell_other h.c2 (by simp), cell_other h.c3 (by simp), World.cell?_setCell_same' _ _ _ (by rw [h.c4]; rfl), fun o => by rw [World.frozen?_setCell]; exact h.fz o,
  h.pm.of_block (Below.heap_setCell _ _ _ _ (show pb ≠ kb from fun e => n1 e.symm)), h.rm.of_block (Below.heap_setCell _ _ _ _ (show rb ≠ kb from fun e => n2 e.symm)), h.ln, (up_take s).low h.lo, h.lt, by simpa using h.zl⟩
theorem PK.put (E : CEnv w1 kb pb rb pc cc C) (h : PK Z w1 kb pb rb pc cc C s w) {p : Option Addr} {n c n' cap g : Nat} {w' : World} {i : Iv} (h0 : w.cell? ⟨kb, 0, none⟩ = some (.slice p n c)) (ho : OwnIv Z w w1.heap.size p n c s.out) (hg : w.grownBy w' (Value.ownBlock (.slice p n c))) (ho' : OwnIv Z w' w1.heap.size (some ⟨g, 0, none⟩) n' cap (s.out ++ [i])) :
  (w'.cell? ⟨kb, 0, none⟩ = some (.slice p n c) ∧ w'.frozen? ⟨kb, 0, none⟩ = false ∧ kb < w'.heap.size) ∧ PK Z w1 kb pb rb pc cc C (s.put i) (w'.setCell ⟨kb, 0, none⟩ (.slice (some ⟨g, 0, none⟩) n' cap)) ∧ FrP Z [kb, pb, rb] w (w'.setCell ⟨kb, 0, none⟩ (.slice (some ⟨g, 0, none⟩) n' cap)) := by
 have hX : ∀ b ∈ [kb, pb, rb], w'.heap[b]? = w.heap[b]? := fun b hb => hg.block b (Nat.lt_of_lt_of_le (h.lt b hb) h.sty.size) fun e => by
  obtain ⟨hn, rs, hl, hr, hf, ha⟩ := ho; have := (hr.lt b e.symm).1; have := h.lt b hb
  omega
 have hc : ∀ j u, w.cell? ⟨kb, j, none⟩ = some u → w'.cell? ⟨kb, j, none⟩ = some u := fun j u hu => (World.cell?_of_block (a := ⟨kb, j, none⟩) (hX kb (by simp))).trans hu
 have n1 := E.ne.1; have n2 := E.ne.2.1
 refine ⟨⟨hc _ _ h0, (World.frozen?_of_block (a := ⟨kb, 0, none⟩) (hX kb (by simp))).trans (h.fz 0), Nat.lt_of_lt_of_le (Nat.lt_of_lt_of_le E.lt.1 h.sty.size) hg.size⟩, ⟨(h.sty.grown ho hg).set (by simp) _ _, ⟨_, _, _, World.cell?_setCell_same' _ _ _ (by rw [hc _ _ h0]; rfl), ho'.of (by simp) fun k hk _ => Below.heap_setCell _ _ _ _ (show k ≠ kb by have := E.lt.1; omega)⟩,
  cell_other (hc _ _ h.c1) (by simp), cell_other (hc _ _ h.c2) (by simp), cell_other (hc _ _ h.c3) (by simp), cell_other (hc _ _ h.c4) (by simp), fun o => ?_, h.pm.of_block ((Below.heap_setCell _ _ _ _ (show pb ≠ kb from fun e => n1 e.symm)).trans (hX pb (by simp))), h.rm.of_block ((Below.heap_setCell _ _ _ _ (show rb ≠ kb from fun e => n2 e.symm)).trans (hX rb (by simp))), h.ln, h.lo, h.lt, fun z hz => by simpa using Nat.lt_of_lt_of_le (h.zl z hz) hg.size⟩, (FrP.grown ho hg).set (by simp) _ _⟩
 rw [World.frozen?_setCell]; exact (World.frozen?_of_block (a := ⟨kb, o, none⟩) (hX kb (by simp))).trans (h.fz o)
theorem PK.cls (E : CEnv w1 kb pb rb pc cc C) (h : PK Z w1 kb pb rb pc cc C s w) {v : Nat} (hv : v < C.length) : ∃ b o, pc = some ⟨b, o, none⟩ ∧ w.cell? ⟨b, o + v, none⟩ = some (.int .i64 (C.getD v 0)) := by
 obtain ⟨b, o, e, hb, hc⟩ := E.cls (by omega); exact ⟨b, o, e, h.sty.cell (hc v hv) hb⟩
theorem PK.grow {b : Nat} {w' : World} {reg : List (Option Int)} (E : CEnv w1 kb pb rb pc cc C) (h : PK Z w1 kb pb rb pc cc C s w) (hb : b = pb ∨ b = rb) (hg : w.grownBy w' (some b)) (hp : NumMap w' pb (prmL C)) (hr : RegMap w' rb reg) (hl : reg.length = C.length) (hlo : ({ s with reg := reg } : KS).low) :
  PK Z w1 kb pb rb pc cc C { s with reg := reg } w' ∧ FrP Z [kb, pb, rb] w w' := by
 have hbX : b ∈ [kb, pb, rb] := by rcases hb with rfl | rfl <;> simp
 have hbl := h.lt b hbX
 have hk : w'.heap[kb]? = w.heap[kb]? := hg.block kb (Nat.lt_of_lt_of_le (h.lt kb (by simp)) h.sty.size) (fun e => by
  injection e with e
  rcases hb with rfl | rfl
  ·exact E.ne.1 e
  ·exact E.ne.2.1 e)
 have hc : ∀ j u, w.cell? ⟨kb, j, none⟩ = some u → w'.cell? ⟨kb, j, none⟩ = some u := fun j u hu => (World.cell?_of_block (a := ⟨kb, j, none⟩) hk).trans hu
 have hoth : ∀ k, k < w.heap.size → k ∉ [kb, pb, rb] → w'.heap[k]? = w.heap[k]? := fun k hk' hx => hg.block k hk' fun e => by injection e with e; exact hx (e ▸ hbX)
 obtain ⟨p, n, c, h0, ho⟩ := h.c0; refine ⟨⟨⟨hg.os.trans h.sty.os, hg.tape.trans h.sty.tape, hg.output.trans h.sty.output, Nat.le_trans h.sty.size hg.size, fun k hk' hx => (hoth k (Nat.lt_of_lt_of_le hk' h.sty.size) hx).trans (h.sty.block k hk' hx)⟩, ⟨p, n, c, hc _ _ h0, ho.of hg.size fun k hk1 hk2 => hg.block k hk2 fun e => by injection e with e; omega⟩, hc _ _ h.c1, hc _ _ h.c2, hc _ _ h.c3, hc _ _ h.c4, fun o => (World.frozen?_of_block (a := ⟨kb, o, none⟩) hk).trans (h.fz o), hp, hr, hl, hlo, h.lt, fun z hz => Nat.lt_of_lt_of_le (h.zl z hz) hg.size⟩, ⟨hg.os, hg.tape, hg.output, hg.size, fun k hk' hx _ => hoth k hk' hx⟩, fun z _ hl hx => hoth z hl hx⟩
theorem PK.base (hB : CBase W0 w1 kb pb rb) (h : PK Z w1 kb pb rb pc cc C s w) : Below W0.heap.size W0 w := (hB.low).trans (h.sty.low hB.low.size hB.ge)
theorem PK.outN (h : PK Z w1 kb pb rb pc cc C s w) : outN kb w = s.out.length := by
 obtain ⟨p, n, c, h0, ho⟩ := h.c0
 unfold Go.Proofs.YtickbkcpcgmlmaaGreatDoor.outN
 rw [h0]; exact ho.1
theorem PK.less {Y : List Nat} (h : PK Z w1 kb pb rb pc cc C s w) (hy : ∀ z ∈ Y, z ∈ Z) : PK Y w1 kb pb rb pc cc C s w := by
 obtain ⟨p, n, c, h0, ho⟩ := h.c0; exact ⟨h.sty, ⟨p, n, c, h0, ho.less hy⟩, h.c1, h.c2, h.c3, h.c4, h.fz, h.pm, h.rm, h.ln, h.lo, h.lt, fun z hz => h.zl z (hy z hz)⟩
theorem PK.fresh {b : Nat} {w' : World} (h : PK Z w1 kb pb rb pc cc C s w) (hb : w.heap.size ≤ b) (hw : Below w.heap.size w w') (hl : b < w'.heap.size) : PK (b :: Z) w1 kb pb rb pc cc C s w' := by
 have h' := h.below hw; obtain ⟨p, n, c, h0, ho⟩ := h.c0; have hlt : kb < w.heap.size := World.block_lt_of_cell? _ _ h0
 exact ⟨h'.sty, ⟨p, n, c, (hw.cell (p := ⟨kb, 0, none⟩) hlt).trans h0, (ho.fresh hb).below hw⟩, h'.c1, h'.c2, h'.c3, h'.c4, h'.fz, h'.pm, h'.rm, h'.ln, h'.lo, h'.lt, fun z hz => by
  rcases List.mem_cons.1 hz with rfl | hz
  ·exact hl
  ·exact h'.zl z hz⟩
theorem PK.queue {b c0 : Nat} {w' : World} (Y : List Nat) (h : PK Z w1 kb pb rb pc cc C s w) (hb : b ∈ Z) (hB : 0 < c0 → w1.heap.size ≤ b) (hf : QFr b c0 w w') (hY : ∀ y ∈ Y, y ∈ Z ∨ (w.heap.size ≤ y ∧ y < w'.heap.size)) : PK Y w1 kb pb rb pc cc C s w' := by
 have hk : ∀ k, k < w.heap.size → k ≠ b → w'.heap[k]? = w.heap[k]? := fun k hk hne => hf.block k hk fun _ => hne
 have hX : ∀ x ∈ [kb, pb, rb], w'.heap[x]? = w.heap[x]? := fun x hx => hf.block x (Nat.lt_of_lt_of_le (h.lt x hx) h.sty.size) fun h0 => by have := h.lt x hx; have := hB h0; omega
 have hc : ∀ o v, w.cell? ⟨kb, o, none⟩ = some v → w'.cell? ⟨kb, o, none⟩ = some v := fun o v hv => (World.cell?_of_block (a := ⟨kb, o, none⟩) (hX kb (by simp))).trans hv
 obtain ⟨p, n, c, h0, ho⟩ := h.c0
 have hoY : OwnIv Y w' w1.heap.size p n c s.out := by
  obtain ⟨hn, rs, hl, hr, hf', ha⟩ := ho; refine ⟨hn, rs, hl, ?_, ?_, ha.1, ha.2.1, fun y hy => ?_⟩
  ·refine ⟨hr.1, ?_⟩
   rcases hr.2 with h' | ⟨g, cap, cur, hv, hB', hg, r⟩
   ·exact .inl h'
   ·refine .inr ⟨g, cap, cur, hv, hB', (hk g (Array.getElem?_eq_some_iff.1 hg).1 fun e => ?_).trans hg, r⟩
    simp only [Value.slice.injEq] at hv; exact (ha.2.2 b hb).1 (by rw [hv.1, e])
  ·intro i hi
   refine ⟨(hf' i hi).1, (hf' i hi).2.1, (hf' i hi).2.2.other hf.size fun g h0 e => ?_⟩; obtain ⟨g', e', hB', hlt, _⟩ := (hf' i hi).2.2.2 h0
   have hne : g ≠ b := fun eb => (ha.2.2 b hb).2 i (by omega) h0 (by rw [e, eb])
   rw [e] at e'; cases e'
   exact hk g hlt hne
  ·rcases hY y hy with hz | ⟨hz, _⟩
   ·exact ha.2.2 y hz
   ·refine ⟨fun e => ?_, fun i hi h0 e => ?_⟩
    ·have := (hr.lt y (by rw [e]; rfl)).2
     omega
    ·obtain ⟨g', e', hB', hlt, _⟩ := (hf' i (by omega)).2.2.2 h0
     rw [e] at e'; cases e'
     omega
 exact ⟨⟨hf.os.trans h.sty.os, hf.tape.trans h.sty.tape, hf.output.trans h.sty.output, Nat.le_trans h.sty.size hf.size, fun k hk' hx => (hf.block k (Nat.lt_of_lt_of_le hk' h.sty.size) fun h0 => by have := hB h0; omega).trans (h.sty.block k hk' hx)⟩, ⟨p, n, c, hc _ _ h0, hoY⟩, hc _ _ h.c1, hc _ _ h.c2, hc _ _ h.c3, hc _ _ h.c4,
  fun o => (World.frozen?_of_block (a := ⟨kb, o, none⟩) (hX kb (by simp))).trans (h.fz o), h.pm.of_block (hX pb (by simp)), h.rm.of_block (hX rb (by simp)), h.ln, h.lo, h.lt, fun y hy => by
   rcases hY y hy with hz | ⟨_, hz⟩
   ·exact Nat.lt_of_lt_of_le (h.zl y hz) hf.size
   ·exact hz⟩
end
section
variable {Z : List Nat} {W0 w1 : World} {kb pb rb : Nat} {pc : Option Addr} {cc : Nat} {C : List Int} {s : KS} {w : World}
def PUnit' (Z : List Nat) (w1 : World) (kb pb rb : Nat) (pc : Option Addr) (cc : Nat) (C : List Int) (w : World) (s : KS) (e : Ending) (w' : World) : Prop := e = .returned (.tuple #[]) ∧ PK Z w1 kb pb rb pc cc C s w' ∧ FrP Z [kb, pb, rb] w w'
def PEm (Z : List Nat) (w1 : World) (kb pb rb : Nat) (pc : Option Addr) (cc : Nat) (C : List Int) (w : World) (s : KS) (e : Ending) (w' : World) : Prop := (∃ x, e = .returned (.int .i64 x)) ∧ PK Z w1 kb pb rb pc cc C s w' ∧ FrP Z [kb, pb, rb] w w'
set_option maxHeartbeats 1000000 in
theorem takeX_any (E : CEnv w1 kb pb rb pc cc C) (h : PK Z w1 kb pb rb pc cc C s w) (hn : s.nx ≤ 1000000000) :
  Calls Tryz.prog 221 #[ptrK kb] w fun e w' => e = .returned (.int .i64 s.nx) ∧ PK Z w1 kb pb rb pc cc C s.take w' ∧ FrP Z [kb, pb, rb] w w' := by
 have HF : Hid (PK Z w1 kb pb rb pc cc C s.take (w.setCell ⟨kb, 4, none⟩ (.int .i64 ((s.nx : Int) + 1))) ∧ FrP Z [kb, pb, rb] w (w.setCell ⟨kb, 4, none⟩ (.int .i64 ((s.nx : Int) + 1)))) := ⟨h.next E, (FrP.refl _ w).set (by simp) _ _⟩
 have c4 := h.c4; have hf : w.frozen? ⟨kb, 4, none⟩ = false := h.fz 4; have hlt : kb < w.heap.size := Nat.lt_of_lt_of_le E.lt.1 h.sty.size; have c4' : (w.setCell ⟨kb, 4, none⟩ (.int .i64 ((s.nx : Int) + 1))).cell? ⟨kb, 4, none⟩ = some (.int .i64 ((s.nx : Int) + 1)) := World.cell?_setCell_same' _ _ _ (by rw [c4]; rfl)
 have h0 : (0 : Int) ≤ s.nx := by omega
 have h1 : (s.nx : Int) ≤ 1000000000 := by omega
 obtain ⟨x, ex⟩ : ∃ x : Int, x = s.nx := ⟨_, rfl⟩
 rw [← ex] at HF c4 c4' h0 h1 ⊢
 have e0 : x + 1 - 1 = x := by omega
 clear h E ex hn
 go_enter Tryz.func221, Tryz.ntmps221
 go_wp2_with fail; go_ret; exact ⟨rfl, HF.out⟩
set_option maxHeartbeats 1000000 in
theorem emit_any (E : CEnv w1 kb pb rb pc cc C) {w0 : World} (h : PK Z w1 kb pb rb pc cc C s w0) (hb : Below w0.heap.size w0 w) (i : Iv) (tp : Option Addr) (tn tc g1 : Nat) (hK : i.K = [] ∧ i.L = []) (ht : OwnT w w0.heap.size tp tn tc i.c.2.2)
  (hnw : ∀ j u, (riV (hdI i, tp, tn, tc))[j]? = some u → w.cell? ((⟨g1, 0, none⟩ : Addr).add j) = some u) (hn : s.out.length ≤ 900000000) :
  Calls Tryz.prog 105 #[ptrK kb, .slice (some ⟨g1, 0, none⟩) 1 1] w (PEm Z w1 kb pb rb pc cc C w0 (s.put i)) := by
 obtain ⟨p, n, c, h0, ho⟩ := h.c0; have hnl : n = s.out.length := ho.1; have hlt : kb < w0.heap.size := Nat.lt_of_lt_of_le E.lt.1 h.sty.size; have h0' : w.cell? ⟨kb, 0, none⟩ = some (.slice p n c) := (hb.cell (p := ⟨kb, 0, none⟩) hlt).trans h0
 have HFIN : Hid (∀ g n' cap w', OwnIv Z w' w1.heap.size (some ⟨g, 0, none⟩) n' cap (s.out ++ [i]) → w.grownBy w' (Value.ownBlock (.slice p n c)) → (w'.cell? ⟨kb, 0, none⟩ = some (.slice p n c) ∧ w'.frozen? ⟨kb, 0, none⟩ = false ∧ kb < w'.heap.size) ∧
   PK Z w1 kb pb rb pc cc C (s.put i) (w'.setCell ⟨kb, 0, none⟩ (.slice (some ⟨g, 0, none⟩) n' cap)) ∧ FrP Z [kb, pb, rb] w0 (w'.setCell ⟨kb, 0, none⟩ (.slice (some ⟨g, 0, none⟩) n' cap))) := fun g n' cap w' ho' hg => by
  obtain ⟨a1, a2, a3⟩ := (h.below hb).put E h0' (ho.below hb) hg ho'; exact ⟨a1, a2, (FrP.of _ hb).trans a3⟩
 have HO : Hid (OwnIv Z w0 w1.heap.size p n c s.out ∧ w1.heap.size ≤ w0.heap.size ∧ (∀ z ∈ Z, z < w0.heap.size) ∧ Below w0.heap.size w0 w ∧ OwnT w w0.heap.size tp tn tc i.c.2.2 ∧ (∀ j u, (riV (hdI i, tp, tn, tc))[j]? = some u → w.cell? ((⟨g1, 0, none⟩ : Addr).add j) = some u) ∧ i.K = [] ∧ i.L = []) := ⟨ho, h.sty.size, h.zl, hb, ht, hnw, hK⟩
 have hn' : n ≤ 900000000 := by omega
 clear ho h E hn hnl hb ht hnw hK h0 hlt
 go_enter Tryz.func105, Tryz.ntmps105
 go_wp2_with (at_builtin; refine app_ins w0 _ rfl _ _ rfl w1.heap.size p n c s.out rfl HO.out.1 HO.out.2.2.1 HO.out.2.2.2.1 HO.out.2.1 _ _ rfl i tp tn tc HO.out.2.2.2.2.2.2 HO.out.2.2.2.2.1 HO.out.2.2.2.2.2.1 (by omega) ?_; intro g n' cap w' ho' hb hg hn2; obtain ⟨⟨k1, k2, k3⟩, k4, k5⟩ := HFIN.out g n' cap w' ho' hg; have K4 : Hid _ := k4; have K5 : Hid _ := k5; clear k4 k5 ho' hg hb); go_ret; exact ⟨⟨_, rfl⟩, K4.out, K5.out⟩
theorem varV {B : Nat} {t : Tr} {v : Value} (h : FoIn W0 B t.fo [v]) (h0 : t.1.1 = 0) : v = .iface 94 (.int .i64 t.1.2.1) := by
 obtain ⟨v', vr, e, hn, _⟩ := h; obtain ⟨rfl, rfl⟩ := List.cons.inj e
 rcases hn with ⟨h1, h2⟩ | ⟨h1, h2⟩ | ⟨h1, h2⟩ | ⟨h1, _⟩
 ·exact h2
 ·rw [h1] at h0; cases h0
 ·rw [h1] at h0; cases h0
 ·rw [h1] at h0; cases h0
theorem othV {B : Nat} {t : Tr} {v : Value} (h : FoIn W0 B t.fo [v]) (h0 : t.1.1 ≠ 0) : ∃ ty x, v = .iface ty x ∧ (ty = 149 ∨ ty = 143 ∨ ty = 156) := by
 obtain ⟨v', vr, e, hn, _⟩ := h; obtain ⟨rfl, rfl⟩ := List.cons.inj e
 rcases hn with ⟨h1, h2⟩ | ⟨h1, h2⟩ | ⟨h1, h2⟩ | ⟨h1, b, g, vs, h2, _⟩
 ·exact absurd h1 h0
 ·exact ⟨_, _, h2, .inl rfl⟩
 ·exact ⟨_, _, h2, .inr (.inl rfl)⟩
 ·exact ⟨_, _, h2, .inr (.inr rfl)⟩
theorem isVoidO_any (ty : TypeId) (x : Value) (hty : ty = 149 ∨ ty = 143 ∨ ty = 156) (w : World) : Calls Tryz.prog 174 #[ptrK kb, .iface ty x] w fun e w' => e = .returned (.bool false) ∧ w' = w := by
 have n1 := nbA_num_var; have n2 := nbA_atom_var; have n3 := nbA_comp_var
 rcases hty with rfl | rfl | rfl
 all_goals
  go_enter Tryz.func174, Tryz.ntmps174
  go_wp2_with fail; go_ret; exact ⟨rfl, rfl⟩
set_option maxHeartbeats 1000000 in
theorem isVoidV_any (E : CEnv w1 kb pb rb pc cc C) (h : PK Z w1 kb pb rb pc cc C s w) (v : Nat) (hv : v < C.length) : Calls Tryz.prog 174 #[ptrK kb, .iface 94 (.int .i64 v)] w fun e w' => e = .returned (.bool (C.getD v 0 == 0)) ∧ w' = w := by
 obtain ⟨b, o, ep, hcl⟩ := h.cls E hv; have hcap := E.cap; have hlen := E.len; have c1 := h.c1; rw [ep] at c1
 obtain ⟨cv, ecv⟩ : ∃ cv, cv = C.getD v 0 := ⟨_, rfl⟩
 have hcr : 0 ≤ cv ∧ cv ≤ 2 := by rw [ecv]; rcases E.three v with q | q | q <;> omega
 rw [← ecv] at hcl ⊢
 obtain ⟨N, eN⟩ : ∃ N, N = C.length := ⟨_, rfl⟩
 rw [← eN] at hv c1 hcap hlen; clear h E ep eN ecv; have n1 := nbA_var_var
 go_enter Tryz.func174, Tryz.ntmps174
 go_wp2_with fail; go_ret; exact ⟨rfl, rfl⟩
set_option maxHeartbeats 2000000 in
theorem newRegister_any (E : CEnv w1 kb pb rb pc cc C) (h : PK Z w1 kb pb rb pc cc C s w) (v : Nat) (hv : v < C.length) (hr : s.reg.getD v none = none) (hn : s.nx ≤ 900000000) :
  Calls Tryz.prog 275 #[ptrK kb, .int .i64 v] w fun e w' => e = .returned (.int .i64 (regK C s v).1) ∧ PK Z w1 kb pb rb pc cc C (if C.getD v 0 = 2 then s else s.take) w' ∧ FrP Z [kb, pb, rb] w w' := by
 obtain ⟨b, o, ep, hcl⟩ := h.cls E hv; have hcap := E.cap; have hlen := E.len; have c1 := h.c1; have c2 := h.c2; rw [ep] at c1; have HT := takeX_any E h (by omega)
 by_cases h2 : C.getD v 0 = 2
 ·have er : (regK C s v).1 = prmK C v := by unfold regK; rw [hr]; simp only; rw [if_pos h2]
  rw [er, if_pos h2]; obtain ⟨hm, hi⟩ := prmL_idx hv h2
  have hpl : (prmL C).length ≤ 1000000 := by
   rw [prmL_len]
   unfold prmN
   have := List.length_filter_le (fun x => decide (x = 2)) C
   omega
  have HO := of_any pb (prmL C) v w (by omega) (by omega) hpl h.pm
  have HP : Hid (∀ w', NumMap w' pb (putV (prmL C) v) → w.grownBy w' (some pb) → PK Z w1 kb pb rb pc cc C s w' ∧ FrP Z [kb, pb, rb] w w') := fun w' hnm hg => by
   rw [putV, if_pos hm] at hnm; exact h.grow E (.inl rfl) hg hnm (h.rm.of_block (hg.block rb h.rm.lt fun e => by injection e with e; exact E.ne.2.2 e.symm)) h.ln h.lo
  obtain ⟨ix, eix⟩ : ∃ ix : Int, ix = ((prmL C).idxOf (v : Int) : Int) := ⟨_, rfl⟩
  rw [← eix] at HO hi
  have hix : 0 ≤ ix ∧ ix ≤ 10000 := by
   have := prmK_low C E.len v
   omega
  have HPK : Hid (-1 - ix = prmK C v) := by show _ = _; omega
  rw [h2] at hcl
  obtain ⟨N, eN⟩ : ∃ N, N = C.length := ⟨_, rfl⟩
  obtain ⟨y, ey⟩ : ∃ y, y = prmK C v := ⟨_, rfl⟩
  rw [← eN] at hv c1 hcap hlen; rw [← ey] at HPK ⊢; clear h E ep eN HT er hm hi hpl eix ey hr h2 hn
  go_enter Tryz.func275, Tryz.ntmps275
  go_wp2_with fail; refine HO.mono ?_; rintro e W ⟨rfl, hnm, hg⟩; have HK : Hid _ := HP.out W hnm hg; clear HO hnm hg HP; go_wp2_with fail; go_ret; exact ⟨by rw [HPK.out]; rfl, HK.out⟩
 ·have er : (regK C s v).1 = (s.nx : Int) := by unfold regK; rw [hr]; simp only; rw [if_neg h2]
  rw [er, if_neg h2]
  obtain ⟨cv, ecv⟩ : ∃ cv, cv = C.getD v 0 := ⟨_, rfl⟩
  have hcr : 0 ≤ cv ∧ cv ≤ 2 := by rw [ecv]; rcases E.three v with q | q | q <;> omega
  rw [← ecv] at hcl h2
  obtain ⟨N, eN⟩ : ∃ N, N = C.length := ⟨_, rfl⟩
  rw [← eN] at hv c1 hcap hlen
  obtain ⟨x, ex⟩ : ∃ x : Int, x = (s.nx : Int) := ⟨_, rfl⟩
  rw [← ex] at HT ⊢; clear h E ep eN er hr hn ecv ex
  go_enter Tryz.func275, Tryz.ntmps275
  go_wp2_with fail; refine HT.mono ?_; rintro e W ⟨rfl, hm⟩; have HK : Hid _ := hm; clear HT hm; go_wp2_with fail; go_ret; exact ⟨rfl, HK.out⟩
theorem zeroInt (w : World) : (zeroValue 3).run Tryz.prog w = .ok (.int .i64 0) w := by kernel_rfl
def PReg (Z : List Nat) (w1 : World) (kb pb rb : Nat) (pc : Option Addr) (cc : Nat) (C : List Int) (w : World) (x : Int × Bool × KS) (e : Ending) (w' : World) : Prop := e = .returned (.tuple #[.int .i64 x.1, .bool x.2.1]) ∧ PK Z w1 kb pb rb pc cc C x.2.2 w' ∧ FrP Z [kb, pb, rb] w w'
set_option maxHeartbeats 2000000 in
theorem register_any (E : CEnv w1 kb pb rb pc cc C) (h : PK Z w1 kb pb rb pc cc C s w) (v : Nat) (hv : v < C.length) (hn : s.nx ≤ 900000000) :
  Calls Tryz.prog 222 #[ptrK kb, .int .i64 v] w (PReg Z w1 kb pb rb pc cc C w (regK C s v)) := by
 have hlen := E.len; have c3 := h.c3; obtain ⟨D, n, hown, hcnt, hhas, hat⟩ := h.rm; have hk := keyOf_int_mk (P := Tryz.prog) Tryz.underlying94 (q := .i64) (a := (v : Int)) (WalkArith.wf_i64 (by omega))
 cases hr : s.reg.getD v none with
 | some r =>
   have er : regK C s v = (r, false, s) := by unfold regK; rw [hr]
   rw [er]
   have hh : Maps.has D (.int .i64 v) = true := by rw [hhas, hr]; rfl
   have hval := hat v r hr
   have HP : Hid (PReg Z w1 kb pb rb pc cc C w (r, false, s) (.returned (.tuple #[.int .i64 r, .bool false])) w) := ⟨rfl, h, FrP.refl _ _⟩
   clear h E hcnt hhas hat hr er hv
   go_enter Tryz.func222, Tryz.ntmps222
   go_wp2_with (at_lookup; refine wpList_lookup_own_ok_int _ rfl _ _ 113 rfl 94 3 .i64 lawVar Tryz.underlying113 Tryz.underlying3 (zeroInt _) rb n D rfl hown _ _ rfl hk ?_; intro c hc hwc; rw [hh]; obtain rfl : c = r := by (rw [hval] at hc; cases hc; rfl))
   go_ret2
   exact HP.out
 | none =>
   have hh : Maps.has D (.int .i64 v) = false := by rw [hhas, hr]; rfl
   have HN := newRegister_any E h v hv hr hn
   have hrg : -3000 ≤ (regK C s v).1 ∧ (regK C s v).1 ≤ 900000000 := by
    have h3 := prmK_low C E.len v
    rcases regK_cases C s v with ⟨r, hr', er⟩ | ⟨_, _, er⟩ | ⟨_, _, er⟩
    ·rw [hr] at hr'; cases hr'
    ·rw [er]; show -3000 ≤ prmK C v ∧ prmK C v ≤ 900000000; omega
    ·rw [er]; show -3000 ≤ (s.nx : Int) ∧ (s.nx : Int) ≤ 900000000; omega
   have HP : Hid (∀ W2, PK Z w1 kb pb rb pc cc C (if C.getD v 0 = 2 then s else s.take) W2 → FrP Z [kb, pb, rb] w W2 → W2.cell? ⟨kb, 3, none⟩ = some (.map (some rb)) ∧ ∃ D2 n2, W2.ownsMap Tryz.prog 94 (plainElem Tryz.prog 3) rb n2 D2 ∧ n2 ≤ 3000 ∧
     ∀ W3, W3.ownsMap Tryz.prog 94 (plainElem Tryz.prog 3) rb (n2 + 1) (D2.put (.int .i64 v) (.lit (.int .i64 (regK C s v).1))) → W2.grownBy W3 (some rb) → PReg Z w1 kb pb rb pc cc C w (regK C s v) (.returned (.tuple #[.int .i64 (regK C s v).1, .bool true])) W3) := fun W2 h2 hf2 => by
    obtain ⟨D2, n2, hown2, hcnt2, hhas2, hat2⟩ := h2.rm; refine ⟨h2.c3, D2, n2, hown2, by omega, fun W3 hown3 hg3 => ?_⟩
    obtain ⟨s2, es2⟩ : ∃ s2, s2 = (if C.getD v 0 = 2 then s else s.take) := ⟨_, rfl⟩
    have hs2 : s2.reg = s.reg := by rw [es2]; split <;> rfl
    rw [← es2] at h2 hcnt2 hhas2 hat2; rw [hs2] at hcnt2 hhas2 hat2
    have hvl : v < s.reg.length := by rw [h.ln]; exact hv
    have hrm := RegMap.put hvl hr hcnt2 hhas2 hat2 hown2.isMap hown3
    have e3 : ({ s2 with reg := s.reg.set v (some (regK C s v).1) } : KS) = (regK C s v).2.2 := by
     rcases regK_cases C s v with ⟨r, hr', er⟩ | ⟨_, q2, er⟩ | ⟨_, q2, er⟩
     ·rw [hr] at hr'; cases hr'
     ·rw [er, es2, if_pos q2]
     ·rw [er, es2, if_neg q2]; rfl
    have hlo : ({ s2 with reg := s.reg.set v (some (regK C s v).1) } : KS).low := by
     rw [e3]; exact (up_reg C E.len s v).low h.lo
    obtain ⟨g1, g2⟩ := h2.grow E (.inr rfl) hg3 (h2.pm.of_block (hg3.block pb h2.pm.lt fun e => by injection e with e; exact E.ne.2.2 e)) hrm (by rw [List.length_set]; exact h.ln) hlo; rw [e3] at g1; refine ⟨?_, g1, hf2.trans g2⟩
    rcases regK_cases C s v with ⟨r, hr', er⟩ | ⟨_, q2, er⟩ | ⟨_, q2, er⟩
    ·rw [hr] at hr'; cases hr'
    ·rw [er]
    ·rw [er]
   obtain ⟨X, eX⟩ : ∃ X, X = regK C s v := ⟨_, rfl⟩
   rw [← eX] at HN hrg HP ⊢
   obtain ⟨P, eP⟩ : ∃ P, P = PReg Z w1 kb pb rb pc cc C w X := ⟨_, rfl⟩
   rw [← eP] at HP ⊢
   obtain ⟨x, ex⟩ : ∃ x, x = X.1 := ⟨_, rfl⟩
   rw [← ex] at HN hrg HP; clear h E hcnt hhas hat hr eX hn eP ex
   go_enter Tryz.func222, Tryz.ntmps222
   go_wp2_with (at_lookup; refine wpList_lookup_own_ok_int _ rfl _ _ 113 rfl 94 3 .i64 lawVar Tryz.underlying113 Tryz.underlying3 (zeroInt _) rb n D rfl hown _ _ rfl hk ?_; intro c hc hwc; rw [hh]); refine HN.mono ?_; rintro e W2 ⟨rfl, hm, hf⟩; obtain ⟨k3, D2, n2, hown2, hn2, hfin⟩ := HP.out W2 hm hf; have HFI : Hid _ := hfin; clear HN hm hf hfin HP hown hh; go_wp2_with (at_mapUpdate; refine wpList_mapUpdate_own _ rfl _ _ _ 113 rfl 94 3 lawVar Tryz.underlying113 _ rb n2 D2 rfl hown2 (by unfold maxLen; omega) _ _ _ rfl rfl hk _ [] (plainElem_int Tryz.underlying3 (WalkArith.wf_i64 (by omega))) ?_; intro W3 hown3 hgrow3); have HF3 : Hid _ := HFI.out W3 hown3 hgrow3; clear HFI hown2 hown3 hgrow3; exact HF3.out
end
end Go.Proofs.YtickbkcpcgmlmaaGreatDoor
