/- Texts of CcG. Own work of the verifier. -/
import Derived.Test.YtickbkcpcgmlmaaGreatDoorUqap
import Derived.Test.YtickbkcpcgmlmaaGreatDoorUqam
namespace Go.Proofs.YtickbkcpcgmlmaaGreatDoor
open Go Go.RowKit
set_option linter.unusedVariables false
set_option linter.unusedSimpArgs false
structure TG (n : Nat) (t : Tr) : Prop where
 ok : t.fo.ok
 vr : ∀ c ∈ t.1 :: t.2.cells, c.1 = 0 → 0 ≤ c.2.1 ∧ c.2.1 < n
 sz : t.2.cells.length + 1 ≤ 2000
theorem mem_trs_mem : ∀ (F : Fo) (t : Tr), t ∈ trs F → ∀ c ∈ t.1 :: t.2.cells, c ∈ F.cells
 | .nil, t, h, _, _ => by simp [trs] at h
 | .node c k r, t, h, x, hx => by
   rcases List.mem_cons.1 (show t ∈ (c, k) :: trs r from h) with rfl | h'
   ·rcases List.mem_cons.1 hx with rfl | hx
    ·simp [Fo.cells]
    ·simp only [Fo.cells, List.mem_cons, List.mem_append]; exact .inr (.inl hx)
   ·have := mem_trs_mem r t h' x hx
    simp only [Fo.cells, List.mem_cons, List.mem_append]; exact .inr (.inr this)
theorem TG.kid {n : Nat} {t x : Tr} (h : TG n t) (hx : x ∈ trs t.2) : TG n x := by
 refine ⟨trs_ok t.2 h.ok.2.2.2.2.1 x hx, fun c hc h0 => h.vr c (List.mem_cons_of_mem _ (mem_trs_mem t.2 x hx c hc)) h0, ?_⟩; have := mem_trs_cells t.2 x hx; have := h.sz
 omega
theorem TG.text {n : Nat} {t : Tr} (h : TG n t) : t.1.2.2.length ≤ 10000000 := by
 have h1 := h.ok.1
 have : t.1.2.2.length ≤ 4096 ∨ t.1.2.2.length ≤ 10000000 := by
  unfold cellB at h1
  simp only [Bool.and_eq_true, Bool.or_eq_true, decide_eq_true_eq] at h1
  omega
 omega
structure CBase (W0 w1 : World) (cb gb eb : Nat) : Prop where
 low : Below W0.heap.size W0 w1
 ge : ∀ x ∈ [cb, gb, eb], W0.heap.size ≤ x
section
variable {Z : List Nat} {W0 w1 : World} {cb gb eb : Nat} {pc : Option Addr} {cc : Nat} {C : List Int} {s : KS} {w : World}
theorem MK.base (hB : CBase W0 w1 cb gb eb) (h : MK Z w1 cb gb eb pc cc C s w) : Below W0.heap.size W0 w :=
 (hB.low).trans (h.sty.low hB.low.size hB.ge)
def outN (cb : Nat) (w : World) : Nat := lenOf ((w.cell? ⟨cb, 0, none⟩).getD undef)
theorem MK.outN (h : MK Z w1 cb gb eb pc cc C s w) : outN cb w = s.out.length := by
 obtain ⟨p, n, c, h0, ho⟩ := h.c0
 unfold Go.Proofs.YtickbkcpcgmlmaaGreatDoor.outN
 rw [h0]; exact ho.1
theorem QR.fr {X : List Nat} {w w' : World} {B : Nat} {e : TypeId} {size : Nat} {p : Option Addr} {b off n c : Nat} {cs : List Value} (h : QR w B e size p b off n c cs) (hf : FrX X w w') (he : e ≠ 72) (hX : ∀ x ∈ X, x < B) : QR w' B e size p b off n c cs := h.of_block fun hc => by
 obtain ⟨h1, h2, cur, h3, h4⟩ := h.low hc
 refine hf.block b (h.lt hc) (fun hm => by have := hX b hm; omega) fun ⟨vs, fr, hq⟩ => ?_
 rw [h3] at hq
 injection hq with hq
 injection hq with _ h5 _
 exact he h5
theorem apa_mono (C : List Int) (hC : C.length ≤ 2000) : ∀ (ts : List Tr) (s : KS) (q : List (Tr × Int)), s.out.length ≤ (apaK C s q ts).1.out.length ∧ s.nx ≤ (apaK C s q ts).1.nx ∧ q.length ≤ (apaK C s q ts).2.length
 | [], s, q => ⟨Nat.le_refl _, Nat.le_refl _, Nat.le_refl _⟩
 | t :: ts, s, q => by
   unfold apaK
   split
   ·have := apa_mono C hC ts (s.take.put (insN 4 s.nx 0)) (q ++ [(t, (s.nx : Int))])
    simp [KS.put, KS.take] at this
    refine ⟨by simp only [KS.put, KS.take]; omega, by simp only [KS.put, KS.take]; omega, by simp only [KS.put, KS.take]; omega⟩
   ·have := apa_mono C hC ts (argK C uniJ s t.1 0) q
    have h2 : s.out.length ≤ (argK C uniJ s t.1 0).out.length ∧ s.nx ≤ (argK C uniJ s t.1 0).nx := ⟨by
     unfold argK
     split
     ·split
      ·simp [KS.put]
      ·simp [KS.put, reg_out]
     ·simp [KS.put], (up_arg C hC uniJ s t.1 0).nx.1⟩
    omega
theorem OwnIv.clear {Z : List Nat} {w w' : World} {B b : Nat} {p : Option Addr} {n c : Nat} {ts : List Iv} (h : OwnIv Z w B p n c ts) (hb : b ∈ Z) (hs : w.heap.size ≤ w'.heap.size) (hk : ∀ k, k < w.heap.size → k ≠ b → w'.heap[k]? = w.heap[k]?) : OwnIv Z w' B p n c ts := by
 obtain ⟨hn, rs, hl, hr, hf, ha⟩ := h; have hz := ha.2.2 b hb
 have hrow : w'.ownsRow B 72 8 (.slice p n c) n (flatI rs) := by
  refine ⟨hr.1, ?_⟩
  rcases hr.2 with h' | ⟨g, cap, cur, hv, hB, hg, r⟩
  ·exact .inl h'
  ·refine .inr ⟨g, cap, cur, hv, hB, (hk g (Array.getElem?_eq_some_iff.1 hg).1 fun e => ?_).trans hg, r⟩
   simp only [Value.slice.injEq] at hv; exact hz.1 (by rw [hv.1, e])
 refine ⟨hn, rs, hl, hrow, fun i hi => ⟨(hf i hi).1, (hf i hi).2.1, (hf i hi).2.2.other hs fun g h0 e => ?_⟩, ha⟩; obtain ⟨g', e', hB, hlt, _⟩ := (hf i hi).2.2.2 h0
 have hne : g ≠ b := fun eb => hz.2 i (by omega) h0 (by rw [e, eb])
 rw [e] at e'; cases e'
 exact hk g hlt hne
theorem OwnIv.fresh {Z : List Nat} {w : World} {B b : Nat} {p : Option Addr} {n c : Nat} {ts : List Iv} (h : OwnIv Z w B p n c ts) (hb : w.heap.size ≤ b) : OwnIv (b :: Z) w B p n c ts := by
 obtain ⟨hn, rs, hl, hr, hf, ha⟩ := h; refine ⟨hn, rs, hl, hr, hf, ha.1, ha.2.1, fun z hz => ?_⟩
 rcases List.mem_cons.1 hz with rfl | hz
 ·refine ⟨fun e => ?_, fun i hi h0 e => ?_⟩
  ·have := (hr.lt z (by rw [e]; rfl)).2
   omega
  ·obtain ⟨g', e', hB, hlt, _⟩ := (hf i (by omega)).2.2.2 h0
   rw [e] at e'; cases e'
   omega
 ·exact ha.2.2 z hz
theorem OwnIv.less {Z Y : List Nat} {w : World} {B : Nat} {p : Option Addr} {n c : Nat} {ts : List Iv} (h : OwnIv Z w B p n c ts) (hy : ∀ z ∈ Y, z ∈ Z) : OwnIv Y w B p n c ts := by
 obtain ⟨hn, rs, hl, hr, hf, ha⟩ := h; exact ⟨hn, rs, hl, hr, hf, ha.1, ha.2.1, fun z hz => ha.2.2 z (hy z hz)⟩
theorem MK.less {Y : List Nat} (h : MK Z w1 cb gb eb pc cc C s w) (hy : ∀ z ∈ Y, z ∈ Z) : MK Y w1 cb gb eb pc cc C s w := by
 obtain ⟨p, n, c, h0, ho⟩ := h.c0; exact ⟨h.sty, ⟨p, n, c, h0, ho.less hy⟩, h.c1, h.c2, h.c3, h.c4, h.fz, h.rg, h.ln, h.lo, h.lt, fun z hz => h.zl z (hy z hz)⟩
theorem MK.fresh {b : Nat} {w' : World} (h : MK Z w1 cb gb eb pc cc C s w) (hb : w.heap.size ≤ b) (hw : Below w.heap.size w w') (hl : b < w'.heap.size) : MK (b :: Z) w1 cb gb eb pc cc C s w' := by
 have h' := h.below hw; obtain ⟨p, n, c, h0, ho⟩ := h.c0; have hlt : cb < w.heap.size := World.block_lt_of_cell? _ _ h0
 exact ⟨h'.sty, ⟨p, n, c, (hw.cell (p := ⟨cb, 0, none⟩) hlt).trans h0, (ho.fresh hb).below hw⟩, h'.c1, h'.c2, h'.c3, h'.c4, h'.fz, h'.rg, h'.ln, h'.lo, h'.lt, fun z hz => by
  rcases List.mem_cons.1 hz with rfl | hz
  ·exact hl
  ·exact h'.zl z hz⟩
theorem MK.fresh2 {b b' : Nat} {w' : World} (h : MK Z w1 cb gb eb pc cc C s w) (hb : w.heap.size ≤ b) (hb' : w.heap.size ≤ b') (hw : Below w.heap.size w w') (hl : b < w'.heap.size ∧ b' < w'.heap.size) : MK (b :: b' :: Z) w1 cb gb eb pc cc C s w' := by
 have h' := h.below hw; obtain ⟨p, n, c, h0, ho⟩ := h.c0; have hlt : cb < w.heap.size := World.block_lt_of_cell? _ _ h0
 exact ⟨h'.sty, ⟨p, n, c, (hw.cell (p := ⟨cb, 0, none⟩) hlt).trans h0, ((ho.fresh hb').fresh hb).below hw⟩, h'.c1, h'.c2, h'.c3, h'.c4, h'.fz, h'.rg, h'.ln, h'.lo, h'.lt, fun z hz => by
  rcases List.mem_cons.1 hz with rfl | hz
  ·exact hl.1
  ·rcases List.mem_cons.1 hz with rfl | hz
   ·exact hl.2
   ·exact h'.zl z hz⟩
theorem MK.queue {b c0 : Nat} {w' : World} (Y : List Nat) (h : MK Z w1 cb gb eb pc cc C s w) (hb : b ∈ Z) (hB : 0 < c0 → w1.heap.size ≤ b) (hf : QFr b c0 w w') (hY : ∀ y ∈ Y, y ∈ Z ∨ (w.heap.size ≤ y ∧ y < w'.heap.size)) : MK Y w1 cb gb eb pc cc C s w' := by
 have hk : ∀ k, k < w.heap.size → k ≠ b → w'.heap[k]? = w.heap[k]? := fun k hk hne => hf.block k hk fun _ => hne
 have hX : ∀ x ∈ [cb, gb, eb], w'.heap[x]? = w.heap[x]? := fun x hx => hf.block x (Nat.lt_of_lt_of_le (h.lt x hx) h.sty.size) fun h0 => by have := h.lt x hx; have := hB h0; omega
 have hc : ∀ x ∈ [cb, gb, eb], ∀ o v, w.cell? ⟨x, o, none⟩ = some v → w'.cell? ⟨x, o, none⟩ = some v := fun x hx o v hv => (World.cell?_of_block (a := ⟨x, o, none⟩) (hX x hx)).trans hv
 obtain ⟨p, n, c, h0, ho⟩ := h.c0
 have hoY : OwnIv Y w' w1.heap.size p n c s.out := by
  have h1 := ho.clear hb hf.size hk; obtain ⟨hn, rs, hl, hr, hf', ha⟩ := ho; have hr1 := h1; obtain ⟨hn1, rs1, hl1, hr1, hf1, ha1⟩ := h1; refine ⟨hn, rs, hl, ?_, ?_, ha.1, ha.2.1, fun y hy => ?_⟩
  ·refine ⟨hr.1, ?_⟩
   rcases hr.2 with h' | ⟨g, cap, cur, hv, hB', hg, r⟩
   ·exact .inl h'
   ·refine .inr ⟨g, cap, cur, hv, hB', (hk g (Array.getElem?_eq_some_iff.1 hg).1 fun e => ?_).trans hg, r⟩
    simp only [Value.slice.injEq] at hv; exact (ha.2.2 b hb).1 (by rw [hv.1, e])
  ·intro i hi
   refine ⟨(hf' i hi).1, (hf' i hi).2.1, (hf' i hi).2.2.other hf.size fun g h0 e => ?_⟩; obtain ⟨g', e', hB', hlt, _⟩ := (hf' i hi).2.2.2 h0
   have hne : g ≠ b := fun eb => (ha.2.2 b hb).2 i (by omega) h0 (by rw [e, eb])
   rw [e] at e'; cases e'
   exact hk g hlt hne
  ·rcases hY y hy with hz | ⟨hz, _⟩
   ·exact ha.2.2 y hz
   ·refine ⟨fun e => ?_, fun i hi h0 e => ?_⟩
    ·have := (hr.lt y (by rw [e]; rfl)).2
     omega
    ·obtain ⟨g', e', hB', hlt, _⟩ := (hf' i (by omega)).2.2.2 h0
     rw [e] at e'; cases e'
     omega
 exact ⟨⟨hf.os.trans h.sty.os, hf.tape.trans h.sty.tape, hf.output.trans h.sty.output, Nat.le_trans h.sty.size hf.size, fun k hk' hx => (hf.block k (Nat.lt_of_lt_of_le hk' h.sty.size) fun h0 => by have := hB h0; omega).trans (h.sty.block k hk' hx)⟩, ⟨p, n, c, hc cb (by simp) _ _ h0, hoY⟩, hc cb (by simp) _ _ h.c1, hc cb (by simp) _ _ h.c2, hc cb (by simp) _ _ h.c3, hc cb (by simp) _ _ h.c4,
  fun x hx o => (World.frozen?_of_block (a := ⟨x, o, none⟩) (hX x hx)).trans (h.fz x hx o), fun v hv => ⟨hc gb (by simp) _ _ (h.rg v hv).1, hc eb (by simp) _ _ (h.rg v hv).2⟩, h.ln, h.lo, h.lt, fun y hy => by
   rcases hY y hy with hz | ⟨_, hz⟩
   ·exact Nat.lt_of_lt_of_le (h.zl y hz) hf.size
   ·exact hz⟩
structure GQ (Z : List Nat) (W0 w1 : World) (cb gb eb : Nat) (pc : Option Addr) (cc : Nat) (C : List Int) (w : World) (M : Nat) (wr : World) (s : KS) (q : List (Tr × Int)) (rs : List (Option Addr × Nat × Nat)) (p1 : Option Addr) (b1 o1 c1 : Nat) (p2 : Option Addr) (b2 o2 c2 n : Nat) : Prop where
 st : MK (b1 :: b2 :: Z) w1 cb gb eb pc cc C s wr
 fr : FrX [cb, gb, eb] w wr
 nl : n = q.length
 q1 : QR wr w.heap.size 27 1 p1 b1 o1 n c1 (rs.map slV)
 ar : ArgRowU W0 rs (q.map (·.1))
 q2 : QR wr w.heap.size 3 1 p2 b2 o2 n c2 (q.map fun x => .int .i64 x.2)
 tg : ∀ x ∈ q, TG C.length x.1 ∧ x.1.1.1 = 3
 out : s.out.length + q.length ≤ M
 nx : s.nx ≤ M
 lw : w1.heap.size ≤ w.heap.size
section
variable {M n : Nat} {wr : World} {q : List (Tr × Int)} {rs : List (Option Addr × Nat × Nat)} {p1 : Option Addr} {b1 o1 c1 : Nat} {p2 : Option Addr} {b2 o2 c2 : Nat}
theorem GQ.below {W : World} (h : GQ Z W0 w1 cb gb eb pc cc C w M wr s q rs p1 b1 o1 c1 p2 b2 o2 c2 n) (hb : Below wr.heap.size wr W) : GQ Z W0 w1 cb gb eb pc cc C w M W s q rs p1 b1 o1 c1 p2 b2 o2 c2 n := ⟨h.st.below hb, h.fr.below hb, h.nl, h.q1.below hb, h.ar, h.q2.below hb, h.tg, h.out, h.nx, h.lw⟩
theorem GQ.arg {W : World} {s2 : KS} (h : GQ Z W0 w1 cb gb eb pc cc C w M wr s q rs p1 b1 o1 c1 p2 b2 o2 c2 n) (hX : ∀ x ∈ [cb, gb, eb], x < w.heap.size) (hm : MK (b1 :: b2 :: Z) w1 cb gb eb pc cc C s2 W) (hf : FrX [cb, gb, eb] wr W) (ho : s2.out.length + q.length ≤ M) (hn : s2.nx ≤ M) : GQ Z W0 w1 cb gb eb pc cc C w M W s2 q rs p1 b1 o1 c1 p2 b2 o2 c2 n :=
 ⟨hm, h.fr.trans hf, h.nl, h.q1.fr hf (by decide) hX, h.ar, h.q2.fr hf (by decide) hX, h.tg, ho, hn, h.lw⟩
theorem QR.apart {w : World} {B B' : Nat} {e e' : TypeId} {z z' : Nat} {p p' : Option Addr} {b off n c b' off' n' c' : Nat} {cs cs' : List Value} (h : QR w B e z p b off n c cs) (h' : QR w B' e' z' p' b' off' n' c' cs') (hc : 0 < c) (hc' : 0 < c') (he : e ≠ e') : b ≠ b' := fun eb => by
 obtain ⟨_, _, cur, h3, _⟩ := h.low hc; obtain ⟨_, _, cur', h3', _⟩ := h'.low hc'; rw [eb, h3'] at h3
 injection h3 with h3
 injection h3 with _ h5 _
 exact he h5.symm
theorem GQ.more1 {W3 : World} {p1' : Option Addr} {b1' o1' c1' : Nat} {r : Option Addr × Nat × Nat} {cs : List Value} (h : GQ Z W0 w1 cb gb eb pc cc C w M wr s q rs p1 b1 o1 c1 p2 b2 o2 c2 n) (hq : QR W3 w.heap.size 27 1 p1' b1' o1' (n + 1) c1' cs) (hf : QFr b1 c1 wr W3) (hb : b1' = b1 ∧ 0 < c1 ∨ b1' = wr.heap.size) (hl : b1' < W3.heap.size) :
  MK (b1' :: b2 :: Z) w1 cb gb eb pc cc C s W3 ∧ FrX [cb, gb, eb] w W3 ∧ QR W3 w.heap.size 3 1 p2 b2 o2 n c2 (q.map fun x => .int .i64 x.2) := by
 have hlow : 0 < c1 → w.heap.size ≤ b1 := fun h0 => (h.q1.low h0).2.1
 have hw : w1.heap.size ≤ w.heap.size ∨ True := .inr trivial; refine ⟨h.st.queue _ (List.mem_cons_self ..) (fun h0 => ?_) hf (fun y hy => ?_), hf.frx h.fr hlow, h.q2.of_block fun h0 => hf.block b2 (h.q2.lt h0) fun h1 => ?_⟩
 ·have h2 := hlow h0
  have h3 := h.lw
  omega
 ·rcases List.mem_cons.1 hy with rfl | hy
  ·rcases hb with ⟨rfl, _⟩ | rfl
   ·exact .inl (List.mem_cons_self ..)
   ·exact .inr ⟨Nat.le_refl _, hl⟩
  ·exact .inl (List.mem_cons_of_mem _ hy)
 ·exact (h.q1.apart h.q2 h1 h0 (by decide)).symm
end
structure GR (Z : List Nat) (W0 w1 : World) (cb gb eb : Nat) (pc : Option Addr) (cc : Nat) (C : List Int) (w : World) (M : Nat) (wr : World) (s : KS) (q : List (Tr × Int)) (rs : List (Option Addr × Nat × Nat)) (p1 : Option Addr) (b1 o1 c1 : Nat) (p2 : Option Addr) (b2 o2 c2 n : Nat)
  (m : Nat) (pa : Option Addr) (ma Bq : Nat) (ra : List (Option Addr × Nat × Nat)) : Prop where
 g : GQ Z W0 w1 cb gb eb pc cc C w M wr s q rs p1 b1 o1 c1 p2 b2 o2 c2 n
 row : wr.ownsRow Bq 27 1 (.slice pa m ma) m (ra.map slV)
 ne : ∀ k, Value.ownBlock (.slice pa m ma) = some k → 0 < c1 → k ≠ b1
 bq : w.heap.size ≤ Bq
 hx : ∀ x ∈ [cb, gb, eb], x < w.heap.size
structure GIK (Z : List Nat) (W0 w1 : World) (cb gb eb : Nat) (pc : Option Addr) (cc : Nat) (C : List Int) (w : World) (M : Nat) (wr : World) (s : KS) (q : List (Tr × Int)) (rs : List (Option Addr × Nat × Nat)) (p1 : Option Addr) (b1 o1 c1 : Nat) (p2 : Option Addr) (b2 o2 c2 n : Nat)
  (ts : List Tr) (G : KS × List (Tr × Int)) (i m : Nat) (pa : Option Addr) (ma Bq : Nat) (ra : List (Option Addr × Nat × Nat)) : Prop where
 r : GR Z W0 w1 cb gb eb pc cc C w M wr s q rs p1 b1 o1 c1 p2 b2 o2 c2 n m pa ma Bq ra
 ap : apaK C s q (ts.drop i) = G
section
variable {M n m ma Bq : Nat} {wr : World} {q : List (Tr × Int)} {rs ra : List (Option Addr × Nat × Nat)} {p1 pa : Option Addr} {b1 o1 c1 : Nat} {p2 : Option Addr} {b2 o2 c2 : Nat}
theorem GR.below {W : World} (h : GR Z W0 w1 cb gb eb pc cc C w M wr s q rs p1 b1 o1 c1 p2 b2 o2 c2 n m pa ma Bq ra) (hb : Below wr.heap.size wr W) : GR Z W0 w1 cb gb eb pc cc C w M W s q rs p1 b1 o1 c1 p2 b2 o2 c2 n m pa ma Bq ra := ⟨h.g.below hb, row_below h.row hb, h.ne, h.bq, h.hx⟩
theorem GR.arg {W : World} {s2 : KS} (h : GR Z W0 w1 cb gb eb pc cc C w M wr s q rs p1 b1 o1 c1 p2 b2 o2 c2 n m pa ma Bq ra) (hm : MK (b1 :: b2 :: Z) w1 cb gb eb pc cc C s2 W) (hf : FrX [cb, gb, eb] wr W) (ho : s2.out.length + q.length ≤ M) (hn : s2.nx ≤ M) : GR Z W0 w1 cb gb eb pc cc C w M W s2 q rs p1 b1 o1 c1 p2 b2 o2 c2 n m pa ma Bq ra :=
 ⟨h.g.arg h.hx hm hf ho hn, hf.row h.row (by decide) (fun x hx => Nat.lt_of_lt_of_le (h.hx x hx) h.bq), h.ne, h.bq, h.hx⟩
theorem GR.two {W4 V5 W6 : World} {p1' p2' : Option Addr} {b1' o1' c1' b2' o2' c2' : Nat} {r : Option Addr × Nat × Nat} {t : Tr} {x : Int} (h : GR Z W0 w1 cb gb eb pc cc C w M wr s q rs p1 b1 o1 c1 p2 b2 o2 c2 n m pa ma Bq ra)
  (hq1 : QR W4 w.heap.size 27 1 p1' b1' o1' (n + 1) c1' (rs.map slV ++ [slV r])) (hf1 : QFr b1 c1 wr W4) (hb1 : b1' = b1 ∧ 0 < c1 ∨ b1' = wr.heap.size) (h45 : Below W4.heap.size W4 V5)
  (hq2 : QR W6 w.heap.size 3 1 p2' b2' o2' (n + 1) c2' (q.map (fun x => .int .i64 x.2) ++ [.int .i64 x])) (hf2 : QFr b2 c2 V5 W6) (hb2 : b2' = b2 ∧ 0 < c2 ∨ b2' = V5.heap.size)
  (hr : ArgRowU W0 (rs ++ [r]) (q.map (·.1) ++ [t])) (ht : TG C.length t ∧ t.1.1 = 3) (ho : s.out.length + q.length + 1 ≤ M) :
  GR Z W0 w1 cb gb eb pc cc C w M W6 s (q ++ [(t, x)]) (rs ++ [r]) p1' b1' o1' c1' p2' b2' o2' c2' (n + 1) m pa ma Bq ra := by
 have hc1 : 0 < c1' := by have := hq1.le; omega
 have hc2 : 0 < c2' := by have := hq2.le; omega
 obtain ⟨m1, m2, m3⟩ := h.g.more1 (r := r) hq1 hf1 hb1 (hq1.lt hc1); have hlw := h.g.lw; have hq2V := m3.below h45; have hq1V := hq1.below h45; have hmV := m1.below h45; have hfV := m2.below h45
 have hap : 0 < c2 → b1' ≠ b2 := fun h0 => hq1V.apart hq2V hc1 h0 (by decide)
 refine ⟨⟨hmV.queue _ (b := b2) (by simp) (fun h0 => ?_) hf2 (fun y hy => ?_), hf2.frx hfV (fun h0 => (hq2V.low h0).2.1), by simp [h.g.nl], by simpa using hq1V.of_block (fun _ => hf2.block b1' (hq1V.lt hc1) hap), by simpa using hr, by simpa using hq2, fun y hy => ?_, by simp; omega, h.g.nx, hlw⟩, ?_, fun k hk h0 => ?_, h.bq, h.hx⟩
 ·have := (hq2V.low h0).2.1; omega
 ·rcases List.mem_cons.1 hy with rfl | hy
  ·exact .inl (by simp)
  ·rcases List.mem_cons.1 hy with rfl | hy
   ·rcases hb2 with ⟨rfl, _⟩ | rfl
    ·exact .inl (by simp)
    ·exact .inr ⟨Nat.le_refl _, hq2.lt hc2⟩
   ·exact .inl (by simp [hy])
 ·rcases List.mem_append.1 hy with hy | hy
  ·exact h.g.tg y hy
  ·simp at hy; rw [hy]; exact ht
 ·-- the row of arguments
  refine ⟨h.row.1, ?_⟩
  rcases h.row.2 with h' | ⟨g, cap, cur, hv, hB', hg, r'⟩
  ·exact .inl h'
  ·have hgl := (Array.getElem?_eq_some_iff.1 hg).1
   have hown : Value.ownBlock (.slice pa m ma) = some g := by rw [hv]; rfl
   have e4 : W4.heap[g]? = some (.cells cur 27 (0, 0)) := (hf1.block g hgl fun h0 => h.ne g hown h0).trans hg; have hg4 := (Array.getElem?_eq_some_iff.1 e4).1; have e5 : V5.heap[g]? = some (.cells cur 27 (0, 0)) := (h45.block g hg4).trans e4; refine .inr ⟨g, cap, cur, hv, hB', (hf2.block g (Array.getElem?_eq_some_iff.1 e5).1 fun h0 eb => ?_).trans e5, r'⟩; obtain ⟨_, _, cur2, h3, _⟩ := hq2V.low h0; rw [← eb, e5] at h3
   injection h3 with h3
   injection h3 with _ h5 _
   exact absurd h5 (by decide)
 ·rcases hb1 with ⟨rfl, h1⟩ | rfl
  ·exact h.ne k hk h1
  ·have := (h.row.lt k hk).2; omega
end
theorem qwK_len : ∀ q : List (Tr × Int), q.length ≤ qwK q
 | [] => Nat.le_refl _
 | x :: q => by have := qwK_len q; simp only [List.length_cons, qwK, twK]; omega
set_option maxRecDepth 100000 in
set_option maxHeartbeats 4000000 in
theorem l9get_any (E : CEnv w1 cb gb eb pc cc C) (hB : CBase W0 w1 cb gb eb) (h : MK Z w1 cb gb eb pc cc C s w) (t : Tr) (p : Option Addr) (n c : Nat) (hti : TI W0 p n c t) (h3 : t.1.1 = 3) (hg : TG C.length t) (a : Int) (M f : Nat) (hM : M ≤ 800000000) (hf : twK t ≤ f) (ho : s.out.length + twK t ≤ M) (hn : s.nx + twK t ≤ M) :
  Calls Tryz.prog 48 #[ptrK cb, .slice p n c, .int .i64 a] w (KUnit Z w1 cb gb eb pc cc C w (getK C f s [(t, a)])) := by
 obtain ⟨F, eF⟩ : ∃ F, F = getK C f s [(t, a)] := ⟨_, rfl⟩
 rw [← eF]
 have hX : ∀ x ∈ [cb, gb, eb], x < w.heap.size := fun x hx => Nat.lt_of_lt_of_le (h.lt x hx) h.sty.size
 obtain ⟨W, eW⟩ : ∃ W, W = (w.alloc (.cells #[.slice p n c] 27)).alloc (.cells #[.int .i64 a] 3) := ⟨_, rfl⟩
 have hlow : Below w.heap.size w W := by rw [eW]; exact Below.on (new_lowK w _) (new_lowK _ _)
 have HST : Hid (GQ Z W0 w1 cb gb eb pc cc C w M W s [(t, a)] [(p, n, c)] (some ⟨w.heap.size, 0, none⟩) w.heap.size 0 1 (some ⟨w.heap.size + 1, 0, none⟩) (w.heap.size + 1) 0 1 1 ∧ getK C f s [(t, a)] = F ∧ qwK [(t, a)] ≤ f ∧ s.out.length + qwK [(t, a)] ≤ M ∧ s.nx + qwK [(t, a)] ≤ M) := by
  have e1 : qwK [(t, a)] = twK t := by simp [qwK]
  refine ⟨⟨?_, FrX.of _ hlow, rfl, ?_, ⟨by rw [hti.1]; show t.2.cells.length + 1 = 1 + t.2.cells.length; omega, hti.2.1, hti.2.2.1, hti.2.2.2, trivial⟩, ?_, fun x hx => by simp at hx; rw [hx]; exact ⟨hg, h3⟩, by simp [twK] at ho ⊢; omega, by omega, h.sty.size⟩, eF.symm, by omega, by omega, by omega⟩
  ·exact h.fresh2 (Nat.le_refl _) (by omega) hlow (by rw [eW]; simp; omega)
  ·rw [eW]
   exact (QR.built w w.heap.size (Nat.le_refl _) 27 [.slice p n c]).below (new_lowK _ _)
  ·rw [eW]
   have := QR.built (w.alloc (.cells #[.slice p n c] 27)) w.heap.size (by simp) 3 [.int .i64 a]
   simpa using this
 have HE : Hid (CEnv w1 cb gb eb pc cc C ∧ CBase W0 w1 cb gb eb ∧ ∀ x ∈ [cb, gb, eb], x < w.heap.size) := ⟨E, hB, hX⟩
 have HW : Hid (W = (w.alloc (.cells #[.slice p n c] 27)).alloc (.cells #[.int .i64 a] 3)) := eW; clear h E hB hti h3 hg hf ho hn eW hlow eF hX
 go_enter Tryz.func48, Tryz.ntmps48
 go_wp2_with fail; rw [← HW.out]
 go_loopw [6, 7] (fun tv rv wr => ∃ (s' : KS) (q : List (Tr × Int)) (f' : Nat) (rs : List (Option Addr × Nat × Nat)) (p1 : Option Addr) (b1 o1 c1 : Nat) (p2 : Option Addr) (b2 o2 c2 n' : Nat), n' ≤ 900000000 ∧ tv = .slice p1 n' c1 ∧ rv = .slice p2 n' c2 ∧ Hid (GQ Z W0 w1 cb gb eb pc cc C w M wr s' q rs p1 b1 o1 c1 p2 b2 o2 c2 n' ∧ getK C f' s' q = F ∧ qwK q ≤ f' ∧ s'.out.length + qwK q ≤ M ∧ s'.nx + qwK q ≤ M)) (fun _ _ wr => M + 1 - outN cb wr)
 case atStart => exact ⟨s, [(t, a)], f, [(p, n, c)], _, _, _, _, _, _, _, _, 1, by omega, rfl, rfl, HST⟩
 case round =>
  obtain ⟨s', q, f', rs, p1, b1, o1, c1, p2, b2, o2, c2, n', hn', rfl, rfl, HG⟩ := hrel; clear HST HW
  cases q with
  | nil =>
    have hz : n' = 0 := HG.out.1.nl; subst hz
    have HF : Hid (KUnit Z w1 cb gb eb pc cc C w F (.returned (.tuple #[])) wr) := by
     have e1 : getK C f' s' [] = s' := by cases f' <;> rfl
     have e2 := HG.out.2.1; rw [e1] at e2; rw [← e2]; exact ⟨rfl, HG.out.1.st.less (fun z hz => List.mem_cons_of_mem _ (List.mem_cons_of_mem _ hz)), HG.out.1.fr⟩
    clear HG HE; go_wp2_with fail
    go_end0
    exact HF.out
  | cons x q =>
    obtain ⟨r0, rs', ers⟩ : ∃ r0 rs', rs = r0 :: rs' := by
     cases rs with
     | nil => exact HG.out.1.ar.elim
     | cons r rs' => exact ⟨r, rs', rfl⟩
    subst ers
    obtain ⟨N, eN⟩ : ∃ N, N = q.length := ⟨_, rfl⟩
    obtain rfl : n' = N + 1 := by have := HG.out.1.nl; rw [eN]; simpa using this
    have hpos : 0 < N + 1 := by omega
    have HEN : Hid (N = q.length) := eN; clear eN; obtain ⟨rp, rn, rc⟩ := r0; obtain ⟨⟨xc, xk⟩, xr⟩ := x
    -- the first of both
    obtain ⟨ep1, y1⟩ := HG.out.1.q1.cell (j := 0) (u := .slice rp rn rc) rfl; obtain ⟨ep2, y2⟩ := HG.out.1.q2.cell (j := 0) (u := .int .i64 xr) rfl; rw [Nat.add_zero] at y1 y2; subst ep1 ep2; have htx := HG.out.1.tg ((xc, xk), xr) (List.mem_cons_self ..)
    have hti0 : TI W0 rp rn rc (xc, xk) := ⟨by have := HG.out.1.ar.1; show rn = xk.cells.length + 1; simp only at this; omega, HG.out.1.ar.2.1, HG.out.1.ar.2.2.1, HG.out.1.ar.2.2.2.1⟩
    obtain ⟨bx, ox, qx, qxc, erp, D0, D1, D2, D3⟩ := hti0.head; subst erp; simp only at D0 D1 D2 D3
    have HKX : Hid (∀ W, Below W0.heap.size W0 W → (W.cell? ⟨bx, ox, none⟩ = some (.int .i64 xc.1) ∧ W.cell? ⟨bx, ox + 1, none⟩ = some (.int .i64 xc.2.1) ∧ W.cell? ⟨bx, ox + 2, none⟩ = some (.slice qx xc.2.2.length qxc)) ∧ BIn W qx xc.2.2) := fun W hW =>
     ⟨⟨(hW.cell (World.block_lt_of_cell? _ _ D0)).trans D0, (hW.cell (World.block_lt_of_cell? _ _ D1)).trans D1, (hW.cell (World.block_lt_of_cell? _ _ D2)).trans D2⟩, D3.below hW⟩
    clear D0 D1 D2 D3; obtain ⟨⟨d0, d1, d2⟩, d3⟩ := HKX.out wr (HG.out.1.st.base HE.out.2.1)
    have hsz1 : 0 < c1 ∧ c1 ≤ 9223372036854775807 := ⟨by have := HG.out.1.q1.le; omega, HG.out.1.q1.max⟩
    have hsz2 : 0 < c2 ∧ c2 ≤ 9223372036854775807 := ⟨by have := HG.out.1.q2.le; omega, HG.out.1.q2.max⟩
    have hle : N + 1 ≤ c1 ∧ N + 1 ≤ c2 := ⟨HG.out.1.q1.le, HG.out.1.q2.le⟩
    have hrn : 0 < rn ∧ rn ≤ rc ∧ rc ≤ 9223372036854775807 := ⟨by have := hti0.1; omega, hti0.2.1, hti0.2.2.1⟩
    have HCL : Hid (Calls Tryz.prog 21 #[ptrK cb, .int .i64 3, .int .i64 0, .int .i64 xr, celV xc qx qxc] wr.drew (KUnit (b1 :: b2 :: Z) w1 cb gb eb pc cc C wr (s'.put (insC 3 0 xr xc)))) := by
     have hd : Below wr.heap.size wr wr.drew := below_drewK (Below.refl _ _); refine (l9emitC_any HE.out.1 (HG.out.1.st.below hd) 3 0 xr xc qx qxc (d3.below hd) htx.1.text (by have := HG.out.1.out; omega)).mono ?_; rintro e w' ⟨k1, k2, k3⟩; exact ⟨k1, k2, (FrX.of _ hd).trans k3⟩
    obtain ⟨G, eG⟩ : ∃ G, G = apaK C (s'.put (insC 3 0 xr xc)) q (trs xk) := ⟨_, rfl⟩
    have hxk : (trs xk).length ≤ 2000 := by have := Fo.count_le xk; rw [trs_len]; have := htx.1.sz; simp only at this; omega
    have HAR : Hid (∀ W2, MK (b1 :: b2 :: Z) w1 cb gb eb pc cc C (s'.put (insC 3 0 xr xc)) W2 → Calls Tryz.prog 40 #[.slice (some ⟨bx, ox, none⟩) rn rc] W2 fun e w' => ∃ q m mc rs, e = .returned (.slice q m mc) ∧ m = (trs xk).length ∧ w'.ownsRow W2.heap.size 27 1 (.slice q m mc) m (rs.map slV) ∧ ArgRowU W0 rs (trs xk) ∧ Below W2.heap.size W2 w') := fun W2 hm => l2argsG_any hti0 (hm.base HE.out.2.1) (by have := hti0.1; have := htx.1.sz; simp only at *; omega) htx.1.ok
    have HPU : Hid (getK C (f' - 1) G.1 G.2 = F ∧ qwK G.2 ≤ f' - 1 ∧ G.1.out.length + qwK G.2 ≤ M ∧ G.1.nx + qwK G.2 ≤ M ∧ s'.out.length < G.1.out.length ∧ (∀ x ∈ q, TG C.length x.1 ∧ x.1.1.1 = 3) ∧ (∀ x ∈ trs xk, TG C.length x)) := by
     obtain ⟨hq, hF, hfu, hou, hnx⟩ := HG.out; have k1 := (up_put s' (insC 3 0 xr xc)).trans (up_apa C HE.out.1.len (trs xk) (s'.put (insC 3 0 xr xc)) q); have k2 := qwK_apa C (trs xk) (s'.put (insC 3 0 xr xc)) q; have k3 := trs_cellsK xk; have k4 := (apa_mono C HE.out.1.len (trs xk) (s'.put (insC 3 0 xr xc)) q).1; rw [← eG] at k1 k2 k4; have k5 := k1.out; have k6 := k1.nx.2; simp only [qwK, twK] at hfu hou hnx; simp only [KS.put, List.length_append, List.length_cons, List.length_nil] at k4; refine ⟨?_, by omega, by omega, by omega, by omega, fun x hx => hq.tg x (List.mem_cons_of_mem _ hx), fun x hx => htx.1.kid hx⟩; rw [← hF]
     obtain ⟨f2, rfl⟩ : ∃ f2, f' = f2 + 1 := ⟨f' - 1, by omega⟩
     rw [eG]
     rfl
    have HQ2 : Hid (∀ W2 p1' p2', MK (b1 :: b2 :: Z) w1 cb gb eb pc cc C (s'.put (insC 3 0 xr xc)) W2 → FrX [cb, gb, eb] wr W2 → (0 < c1 - 1 → p1' = some ⟨b1, o1 + 1, none⟩) → (0 < c2 - 1 → p2' = some ⟨b2, o2 + 1, none⟩) → GQ Z W0 w1 cb gb eb pc cc C w M W2 (s'.put (insC 3 0 xr xc)) q rs' p1' b1 (o1 + 1) (c1 - 1) p2' b2 (o2 + 1) (c2 - 1) N) := fun W2 p1' p2' hm hf2 hp1 hp2 => by
     obtain ⟨hq, hF, hfu, hou, hnx⟩ := HG.out; have k1 := (hq.q1.fr hf2 (by decide) HE.out.2.2).tail hp1; have k2 := (hq.q2.fr hf2 (by decide) HE.out.2.2).tail hp2; have k3 := qwK_len q; simp only [qwK, twK] at hou hnx; exact ⟨hm, hq.fr.trans hf2, HEN.out, k1, hq.ar.2.2.2.2, k2, HPU.out.2.2.2.2.2.1, by simp only [KS.put, List.length_append, List.length_cons, List.length_nil]; omega, by simp only [KS.put]; omega, hq.lw⟩
    have HKP : Hid (∀ W2, MK (b1 :: b2 :: Z) w1 cb gb eb pc cc C (s'.put (insC 3 0 xr xc)) W2 → FrX [cb, gb, eb] wr W2 → W2.cell? ⟨b2, o2, none⟩ = some (.int .i64 xr) ∧ W2.cell? ⟨bx, ox, none⟩ = some (.int .i64 xc.1) ∧ W2.cell? ⟨bx, ox + 1, none⟩ = some (.int .i64 xc.2.1) ∧ W2.cell? ⟨bx, ox + 2, none⟩ = some (.slice qx xc.2.2.length qxc)) := fun W2 hm2 hf2 =>
     ⟨by simpa using ((HG.out.1.q2.fr hf2 (by decide) HE.out.2.2).cell (j := 0) (u := .int .i64 xr) rfl).2, (HKX.out W2 (hm2.base HE.out.2.1)).1⟩
    have HEG : Hid (G = apaK C (s'.put (insC 3 0 xr xc)) q (trs xk)) := eG; clear eG; have hM1 : c1 ≤ 9223372036854775807 := hsz1.2; have hM2 : c2 ≤ 9223372036854775807 := hsz2.2; go_wp2_with fail; refine wp_region_held_drew (S := fun W => W.cell? ⟨b2, o2, none⟩ = some (.int .i64 xr) ∧ W.cell? ⟨bx, ox, none⟩ = some (.int .i64 xc.1) ∧ W.cell? ⟨bx, ox + 1, none⟩ = some (.int .i64 xc.2.1) ∧ W.cell? ⟨bx, ox + 2, none⟩ = some (.slice qx xc.2.2.length qxc)) (by kernel_rfl) ⟨y2, d0, d1, d2⟩ (fun hHeld => ?_); refine hTk (i := 0) (v := ptrK cb) (some 23) (fun o ho W hSw => ?y0) (by assumption) ?_
    case y0 => cases ho; simp [execOp, go_sem, Act.eval]
    simp only [Act.put, zzA, zzB, zzC]; refine hTk (i := 1) (v := .slice (some ⟨b2, o2, none⟩) (N + 1) c2) (some 24) (fun o ho W hSw => ?y1) (by assumption) ?_
    case y1 => cases ho; simp [execOp, go_sem, Act.eval]
    simp only [Act.put, zzA, zzB, zzC]; refine hTk (i := 2) (v := .pointer (some ⟨b2, o2, none⟩)) (some 25) (fun o ho W hSw => ?y2) (by assumption) ?_
    case y2 => cases ho; simp [execOp, go_sem, Act.eval, hpos]
    simp only [Act.put, zzA, zzB, zzC]; refine hTk (i := 3) (v := .int .i64 xr) (some 26) (fun o ho W hSw => ?y3) (by assumption) ?_
    case y3 => cases ho; obtain ⟨s1, s2, s3, s4⟩ := hSw; simp [execOp, go_sem, Act.eval, s1]
    simp only [Act.put, zzA, zzB, zzC]; refine hTk (i := 4) (v := .slice (some ⟨bx, ox, none⟩) rn rc) (some 27) (fun o ho W hSw => ?y4) (by assumption) ?_
    case y4 => cases ho; simp [execOp, go_sem, Act.eval]
    simp only [Act.put, zzA, zzB, zzC]; refine hTk (i := 5) (v := .pointer (some ⟨bx, ox, none⟩)) (some 28) (fun o ho W hSw => ?y5) (by assumption) ?_
    case y5 => cases ho; simp [execOp, go_sem, Act.eval, hrn]
    simp only [Act.put, zzA, zzB, zzC]; refine hTk (i := 6) (v := celV xc qx qxc) (some 29) (fun o ho W hSw => ?y6) (by assumption) ?_
    case y6 => cases ho; obtain ⟨s1, s2, s3, s4⟩ := hSw; simp [execOp, go_sem, Act.eval, s2, s3, s4]
    simp only [Act.put, zzA, zzB, zzC]; refine hCallE (i := 7) (f := 21) (args := #[ptrK cb, .int .i64 3, .int .i64 0, .int .i64 xr, celV xc qx qxc]) (some 30) (by kernel_rfl) (by kernel_rfl) (by kernel_rfl) (fun o ho => ?c7) HCL.out ?k7 (fun ch w' hh => by cases hh.1) (fun w' hh => by cases hh.1)
    case c7 => cases ho; simp [execOp, go_sem, Act.eval]
    case k7 =>
     rintro u W2 ⟨eq, hm, hfr⟩
     cases eq
     refine ⟨HKP.out W2 hm hfr, ?_⟩; have HM2 : Hid _ := hm; have HF2 : Hid _ := hfr; clear hm hfr HCL HKP HKX d0 d1 d2 d3 hHeld y1 y2; simp only [Act.put, zzA, zzB, zzC]; refine wpAnyH_done (by kernel_rfl) ?_ _
     change Exit.then _ _ _ _ W2
     go_wp2_with (first
      | (refine wpl_tail W2 rfl _ 38 27 rfl Tryz.underlying38 1 (by kernel_rfl) (b := b1) (off := o1) (n := N) (c := c1) rfl hle.1 hM1 ?_; intro p1' hp1')
      | (refine wpl_tail W2 rfl _ 42 3 rfl Tryz.underlying42 1 (by kernel_rfl) (b := b2) (off := o2) (n := N) (c := c2) rfl hle.2 hM2 ?_; intro p2' hp2'))
     refine (HAR.out W2 HM2.out).mono ?_; rintro e W3 ⟨pa, m, ma, ra, rfl, hm3, hrow3, harg3, hb3⟩
     have HQ3 : Hid (GIK Z W0 w1 cb gb eb pc cc C w M W3 (s'.put (insC 3 0 xr xc)) q rs' p1' b1 (o1 + 1) (c1 - 1) p2' b2 (o2 + 1) (c2 - 1) N (trs xk) G 0 m pa ma W2.heap.size ra) := by
      have hq2 := HQ2.out W2 p1' p2' HM2.out HF2.out hp1' hp2'; refine ⟨⟨hq2.below hb3, hrow3, fun k hk h0 => ?_, hq2.fr.size, HE.out.2.2⟩, by rw [List.drop_zero]; exact HEG.out.symm⟩; have h1 := (hrow3.lt k hk).1; have h2 := hq2.q1.lt h0
      omega
     have HAG : Hid (ArgRowU W0 ra (trs xk) ∧ m = (trs xk).length) := ⟨harg3, hm3⟩
     have hmm : m ≤ 2000 := by omega
     have HST2 : Hid (outN cb wr = s'.out.length) := HG.out.1.st.outN; clear hrow3 harg3 hm3 hb3 HQ2 HAR HM2 HF2 hp1' hp2' HEG HG hti0 htx hxk
     obtain ⟨N0, c10, c20, o10, o20, e0⟩ : ∃ N0 c10 c20 o10 o20 : Nat, N0 = N ∧ c10 = c1 - 1 ∧ c20 = c2 - 1 ∧ o10 = o1 + 1 ∧ o20 = o2 + 1 := ⟨_, _, _, _, _, rfl, rfl, rfl, rfl, rfl⟩
     have hN0 : N ≤ 900000000 := by omega
     go_wp2_with fail
     go_loopw [6, 7, 10] (fun tv rv iv wr2 => ∃ (i : Nat) (s2 : KS) (q2 : List (Tr × Int)) (rs2 : List (Option Addr × Nat × Nat)) (p3 : Option Addr) (b3 o3 c3 : Nat) (p4 : Option Addr) (b4 o4 c4 n2 : Nat), i ≤ m ∧ n2 ≤ 900000000 ∧ tv = .slice p3 n2 c3 ∧ rv = .slice p4 n2 c4 ∧ iv = .int .i64 i ∧ Hid (GIK Z W0 w1 cb gb eb pc cc C w M wr2 s2 q2 rs2 p3 b3 o3 c3 p4 b4 o4 c4 n2 (trs xk) G i m pa ma W2.heap.size ra)) (fun _ _ iv _ => m - (intOf iv).toNat)
     case atStart => exact ⟨0, _, q, rs', p1', b1, o1 + 1, c1 - 1, p2', b2, o2 + 1, c2 - 1, N, Nat.zero_le _, hN0, rfl, rfl, by go_num, HQ3⟩
     case round =>
      obtain ⟨i, s2, q2, rs2, p3, b3, o3, c3, p4, b4, o4, c4, n2, him, hn2, rfl, rfl, rfl, HI⟩ := hrel; clear HQ3 e0
      by_cases hi : i < m
      ·have hil : i < (trs xk).length := by have := HAG.out.2; omega
       obtain ⟨ct, kt, ekt⟩ : ∃ ct kt, (trs xk)[i]? = some (ct, kt) := ⟨_, _, List.getElem?_eq_getElem hil⟩
       obtain ⟨r, hr0, hr1, hr2, hr3, hr4⟩ := argU_at HAG.out.1 ekt; obtain ⟨rp, rn2, rc2⟩ := r; have htg := HPU.out.2.2.2.2.2.2 (ct, kt) (List.mem_of_getElem? ekt)
       have hti : TI W0 rp rn2 rc2 (ct, kt) := ⟨by simp only [itC, List.length_cons] at hr1; exact hr1, hr2, hr3, hr4⟩
       obtain ⟨ga, cap, hv, hbg, hgl⟩ := HI.out.r.row.form (by omega)
       obtain ⟨rfl, rfl⟩ : pa = some ⟨ga, 0, none⟩ ∧ ma = cap := by injection hv with h1 _ h2; exact ⟨h1, h2⟩
       have yr : wr.cell? ⟨ga, i, none⟩ = some (.slice rp rn2 rc2) := by
        have := HI.out.r.row.cellAt i (by omega); rw [this, List.getElem?_map, hr0]; rfl
       obtain ⟨bt, ot, qt, qtc, erp, D0, D1, D2, D3⟩ := hti.head; subst erp; simp only at D0 D1 D2 D3; have hbs := HI.out.r.g.st.base HE.out.2.1; have d0 := (hbs.cell (World.block_lt_of_cell? _ _ D0)).trans D0; have d1 := (hbs.cell (World.block_lt_of_cell? _ _ D1)).trans D1; have d2 := (hbs.cell (World.block_lt_of_cell? _ _ D2)).trans D2
       have hrn3 : 0 < rn2 ∧ rn2 ≤ rc2 ∧ rc2 ≤ 9223372036854775807 := ⟨by have := hti.1; omega, hti.2.1, hti.2.2.1⟩
       obtain ⟨k1, k2, tx⟩ := ct; simp only at d0 d1 d2; clear D0 D1 D2 hv hbg hgl hr0 hr1 hr2 hr3 hr4
       have hdrop : (trs xk).drop i = ((k1, k2, tx), kt) :: (trs xk).drop (i + 1) := by
        rw [List.drop_eq_getElem_cons hil]
        congr 1
        rw [List.getElem?_eq_getElem hil] at ekt; exact Option.some.inj ekt
       have HNX : Hid (¬ k1 = 3 → ∀ W, MK (b3 :: b4 :: Z) w1 cb gb eb pc cc C (argK C uniJ s2 (k1, k2, tx) 0) W → FrX [cb, gb, eb] wr W → GIK Z W0 w1 cb gb eb pc cc C w M W (argK C uniJ s2 (k1, k2, tx) 0) q2 rs2 p3 b3 o3 c3 p4 b4 o4 c4 n2 (trs xk) G (i + 1) m (some ⟨ga, 0, none⟩) ma W2.heap.size ra) := fun h3 W hm hf => by
        have hap := HI.out.ap; rw [hdrop] at hap
        unfold apaK at hap
        rw [if_neg h3] at hap; have hmo := apa_mono C HE.out.1.len ((trs xk).drop (i + 1)) (argK C uniJ s2 (k1, k2, tx) 0) q2; rw [hap] at hmo; have hql := qwK_len G.2; have hpu := HPU.out; exact ⟨HI.out.r.arg hm hf (by omega) (by omega), hap⟩
       have hmo0 := apa_mono C HE.out.1.len ((trs xk).drop i) s2 q2; rw [HI.out.ap] at hmo0; have hql0 := qwK_len G.2; have hpu0 := HPU.out
       have hbo : s2.out.length ≤ 800000000 ∧ s2.nx ≤ 800000000 ∧ s2.out.length + q2.length ≤ M := by omega
       have HGV : Hid (GR Z W0 w1 cb gb eb pc cc C w M (wr.alloc (.cells #[.int .i64 k1, .int .i64 k2, .slice qt tx.length qtc] 52)) s2 q2 rs2 p3 b3 o3 c3 p4 b4 o4 c4 n2 m (some ⟨ga, 0, none⟩) ma W2.heap.size ra) := HI.out.r.below (new_lowK _ _); have HVF : Hid (FrX [cb, gb, eb] wr (wr.alloc (.cells #[.int .i64 k1, .int .i64 k2, .slice qt tx.length qtc] 52))) := FrX.of _ (new_lowK _ _)
       by_cases hk0 : k1 = 0
       ·subst hk0
        have hv0 : 0 ≤ k2 ∧ k2 < (C.length : Int) := htg.vr (0, k2, tx) (List.mem_cons_self ..) rfl
        obtain ⟨v, ev⟩ : ∃ v : Nat, (v : Int) = k2 := ⟨k2.toNat, by omega⟩
        have HV : Hid (Calls Tryz.prog 47 #[ptrK cb, .int .i64 k2, .int .i64 0, .int .i64 7, .int .i64 4, .int .i64 5] (wr.alloc (.cells #[.int .i64 0, .int .i64 k2, .slice qt tx.length qtc] 52)) fun e w' => e = .returned (.tuple #[]) ∧ GIK Z W0 w1 cb gb eb pc cc C w M w' (argK C uniJ s2 (0, k2, tx) 0) q2 rs2 p3 b3 o3 c3 p4 b4 o4 c4 n2 (trs xk) G (i + 1) m (some ⟨ga, 0, none⟩) ma W2.heap.size ra) := by
         have h1 := l9var_any HE.out.1 HGV.out.g.st v (by omega) 0 7 4 5 (by omega) (by omega) (by omega)
         have h2 : varK C s2 v 0 7 4 5 = argK C uniJ s2 (0, k2, tx) 0 := by
          have := varK_arg C uniJ s2 (0, k2, tx) 0 rfl (by decide); rw [← this]
          show _ = varK C s2 k2.toNat 0 7 4 5
          congr 1
          omega
         rw [h2, ev] at h1
         exact h1.mono fun e w' ⟨a1, a2, a3⟩ => ⟨a1, HNX.out (by decide) w' a2 (HVF.out.trans a3)⟩
        clear HNX HGV HVF hdrop hv0 ev hmo0 hql0 hpu0 htg hti; go_wp2_with fail; refine HV.out.mono ?_; rintro e W5 ⟨rfl, hgi⟩; have HN : Hid _ := hgi; clear hgi HV; go_wp2_with fail; go_roundw
        case rel => exact ⟨i + 1, _, q2, rs2, p3, b3, o3, c3, p4, b4, o4, c4, n2, by omega, hn2, rfl, rfl, by go_num, HN⟩
        case measure => (simp [intOf] <;> omega)
       ·by_cases hk3 : k1 = 3
        ·subst hk3
         obtain ⟨nx, enx⟩ : ∃ nx : Int, nx = (s2.nx : Int) := ⟨_, rfl⟩
         have HT : Hid (Calls Tryz.prog 122 #[ptrK cb] (wr.alloc (.cells #[.int .i64 3, .int .i64 k2, .slice qt tx.length qtc] 52)) fun e w' => e = .returned (.int .i64 nx) ∧ MK (b3 :: b4 :: Z) w1 cb gb eb pc cc C s2.take w' ∧ FrX [cb, gb, eb] (wr.alloc (.cells #[.int .i64 3, .int .i64 k2, .slice qt tx.length qtc] 52)) w') := by
          rw [enx]; exact l9take_any HE.out.1 HGV.out.g.st (by omega)
         obtain ⟨s3, es3⟩ : ∃ s3, s3 = s2.take.put (insN 4 s2.nx 0) := ⟨_, rfl⟩
         have HEM : Hid (∀ W1, MK (b3 :: b4 :: Z) w1 cb gb eb pc cc C s2.take W1 → FrX [cb, gb, eb] (wr.alloc (.cells #[.int .i64 3, .int .i64 k2, .slice qt tx.length qtc] 52)) W1 → Calls Tryz.prog 18 #[ptrK cb, .int .i64 4, .int .i64 nx, .int .i64 0] W1 fun e W5 => e = .returned (.tuple #[]) ∧ GR Z W0 w1 cb gb eb pc cc C w M W5 s3 q2 rs2 p3 b3 o3 c3 p4 b4 o4 c4 n2 m (some ⟨ga, 0, none⟩) ma W2.heap.size ra ∧ W5.cell? ⟨ga, i, none⟩ = some (.slice (some ⟨bt, ot, none⟩) rn2 rc2)) := fun W1 h1 h2 => by
          have h3 := l9emit_any HE.out.1 h1 4 nx 0 (by show s2.out.length ≤ _; omega); rw [enx] at h3 ⊢
          refine h3.mono fun e W5 ⟨a1, a2, a3⟩ => ?_
          rw [← es3] at a2; have hgr := HGV.out.arg a2 (h2.trans a3) ?_ ?_
          ·refine ⟨a1, hgr, ?_⟩
           have := hgr.row.cellAt i (by omega); rw [this]; have h9 := HI.out.r.row.cellAt i (by omega); rw [yr] at h9; exact h9.symm
          ·have hap := HI.out.ap
           rw [hdrop] at hap
           unfold apaK at hap
           rw [if_pos rfl] at hap; have hmo := apa_mono C HE.out.1.len ((trs xk).drop (i + 1)) (s2.take.put (insN 4 s2.nx 0)) (q2 ++ [(((3, k2, tx), kt), (s2.nx : Int))]); rw [hap, ← es3] at hmo; simp only [List.length_append, List.length_cons, List.length_nil] at hmo
           omega
          ·have hap := HI.out.ap
           rw [hdrop] at hap
           unfold apaK at hap
           rw [if_pos rfl] at hap; have hmo := apa_mono C HE.out.1.len ((trs xk).drop (i + 1)) (s2.take.put (insN 4 s2.nx 0)) (q2 ++ [(((3, k2, tx), kt), (s2.nx : Int))]); rw [hap, ← es3] at hmo
           omega
         have HTW : Hid (∀ V3 W4 V5 W6 p5 b5 o5 c5 p6 b6 o6 c6, GR Z W0 w1 cb gb eb pc cc C w M V3 s3 q2 rs2 p3 b3 o3 c3 p4 b4 o4 c4 n2 m (some ⟨ga, 0, none⟩) ma W2.heap.size ra → QR W4 w.heap.size 27 1 p5 b5 o5 (n2 + 1) c5 (rs2.map slV ++ [.slice (some ⟨bt, ot, none⟩) rn2 rc2]) → QFr b3 c3 V3 W4 → (b5 = b3 ∧ 0 < c3 ∨ b5 = V3.heap.size) → Below W4.heap.size W4 V5 →
           QR W6 w.heap.size 3 1 p6 b6 o6 (n2 + 1) c6 (q2.map (fun x => .int .i64 x.2) ++ [.int .i64 nx]) → QFr b4 c4 V5 W6 → (b6 = b4 ∧ 0 < c4 ∨ b6 = V5.heap.size) →
           GIK Z W0 w1 cb gb eb pc cc C w M W6 s3 (q2 ++ [(((3, k2, tx), kt), nx)]) (rs2 ++ [(some ⟨bt, ot, none⟩, rn2, rc2)]) p5 b5 o5 c5 p6 b6 o6 c6 (n2 + 1) (trs xk) G (i + 1) m (some ⟨ga, 0, none⟩) ma W2.heap.size ra ∧ n2 + 1 ≤ 900000000) := fun V3 W4 V5 W6 p5 b5 o5 c5 p6 b6 o6 c6 g1 g2 g3 g4 g5 g6 g7 g8 => by
          have hap := HI.out.ap; rw [hdrop] at hap
          unfold apaK at hap
          rw [if_pos rfl, ← es3, ← enx] at hap; have hmo := apa_mono C HE.out.1.len ((trs xk).drop (i + 1)) s3 (q2 ++ [(((3, k2, tx), kt), nx)]); rw [hap] at hmo; simp only [List.length_append, List.length_cons, List.length_nil] at hmo; have hnl := g1.g.nl; have har := ArgRowU.snoc (r := (some ⟨bt, ot, none⟩, rn2, rc2)) (t := ((3, k2, tx), kt)) (by have := hti.1; show rn2 = 1 + kt.cells.length; simp only at this; omega) hti.2.1 hti.2.2.1 hti.2.2.2 g1.g.ar; exact ⟨⟨g1.two g2 g3 g4 g5 g6 g7 g8 har ⟨htg, rfl⟩ (by omega), hap⟩, by omega⟩
         clear HNX HGV HVF hdrop hmo0 hql0 hpu0 htg hti es3 enx HI; have hnxr : 0 ≤ nx ∨ True := .inr trivial; go_wp2_with fail; refine HT.out.mono ?_; rintro e W1 ⟨rfl, hm1, hf1⟩; have HE1 := HEM.out W1 hm1 hf1; clear HT HEM hm1 hf1; go_wp2_with fail; refine HE1.mono ?_; rintro e W5 ⟨rfl, hgr, y5⟩; have HGR : Hid _ := hgr; clear HE1 yr d0 d1 d2; have hb0 : w.heap.size ≤ W5.heap.size := hgr.g.fr.size; clear hgr
         go_wp2_with (first
          | (at_builtin; refine app_q _ rfl _ _ 38 27 1 (.slice none 0 0) 24 rfl Tryz.underlying38 infoCells rfl w.heap.size rfl ((HGR.out.below (new_lowK _ _)).g.q1) (by simp; omega) _ _ rfl [.slice (some ⟨bt, ot, none⟩) rn2 rc2] rfl (World.news_of_block (heap_alloc_new _ _)) (fun u hu => by simp at hu; rw [hu]; rfl) (by omega) (by omega) ?_; intro p5 b5 o5 c5 n5 W6 hq5 hf5 hb5 hn5; obtain rfl := hn5.out; have HQ6 : Hid _ := (HGR.out.below (new_lowK _ _)).g.more1 (r := (none, 0, 0)) hq5 hf5 hb5 (hq5.lt (by have := hq5.le; omega)); have HQ5 : Hid _ := hq5; have HF5 : Hid _ := hf5; have HB5 : Hid _ := hb5; have hsz6 : w.heap.size ≤ W6.heap.size := Nat.le_trans (Nat.le_trans hb0 (new_lowK W5 _).size) hf5.size; clear hq5 hf5 hb5 hn5)
          | (at_builtin; refine app_q _ rfl _ _ 42 3 1 (.int .i64 0) 8 rfl Tryz.underlying42 (by kernel_rfl) rfl w.heap.size rfl (HQ6.out.2.2.below (new_lowK _ _)) (by simp; omega) _ _ rfl [.int .i64 nx] rfl (World.news_of_block (heap_alloc_new _ _)) (fun u hu => by simp at hu; rw [hu]; rfl) (by omega) (by omega) ?_; intro p6 b6 o6 c6 n6 W8 hq6 hf6 hb6 hn6; obtain rfl := hn6.out; have HFI : Hid _ := HTW.out _ W6 _ W8 p5 b5 o5 c5 p6 b6 o6 c6 (HGR.out.below (new_lowK _ _)) HQ5.out HF5.out HB5.out (new_lowK _ _) hq6 hf6 hb6; clear hq6 hf6 hb6 hn6))
         clear HTW HGR HQ5 HF5 HB5 HQ6; go_roundw
         case rel => exact ⟨i + 1, s3, _, _, p5, b5, o5, c5, p6, b6, o6, c6, n2 + 1, by omega, HFI.out.2, rfl, rfl, by go_num, HFI.out.1⟩
         case measure => (simp [intOf] <;> omega)
        ·have HV : Hid (Calls Tryz.prog 21 #[ptrK cb, .int .i64 6, .int .i64 0, .int .i64 0, celV (k1, k2, tx) qt qtc] (wr.alloc (.cells #[.int .i64 k1, .int .i64 k2, .slice qt tx.length qtc] 52)) fun e w' => e = .returned (.tuple #[]) ∧ GIK Z W0 w1 cb gb eb pc cc C w M w' (argK C uniJ s2 (k1, k2, tx) 0) q2 rs2 p3 b3 o3 c3 p4 b4 o4 c4 n2 (trs xk) G (i + 1) m (some ⟨ga, 0, none⟩) ma W2.heap.size ra) := by
          have h1 := l9emitC_any HE.out.1 HGV.out.g.st 6 0 0 (k1, k2, tx) qt qtc (D3.below (Below.on hbs (new_lowK _ _))) htg.text (by omega)
          have h2 : s2.put (insC 6 0 0 (k1, k2, tx)) = argK C uniJ s2 (k1, k2, tx) 0 := by unfold argK; rw [if_neg hk0]; rfl
          rw [h2] at h1
          exact h1.mono fun e w' ⟨a1, a2, a3⟩ => ⟨a1, HNX.out hk3 w' a2 (HVF.out.trans a3)⟩
         clear HNX HGV HVF hdrop hmo0 hql0 hpu0 htg hti D3; go_wp2_with fail; refine HV.out.mono ?_; rintro e W5 ⟨rfl, hgi⟩; have HN : Hid _ := hgi; clear hgi HV; go_wp2_with fail; go_roundw
         case rel => exact ⟨i + 1, _, q2, rs2, p3, b3, o3, c3, p4, b4, o4, c4, n2, by omega, hn2, rfl, rfl, by go_num, HN⟩
         case measure => (simp [intOf] <;> omega)
      ·obtain rfl : i = m := by omega
       have HEND : Hid (GQ Z W0 w1 cb gb eb pc cc C w M wr G.1 G.2 rs2 p3 b3 o3 c3 p4 b4 o4 c4 n2) := by
        have hap := HI.out.ap; rw [List.drop_of_length_le (by have := HAG.out.2; omega)] at hap
        have e1 : s2 = G.1 := by rw [← hap]; rfl
        have e2 : q2 = G.2 := by rw [← hap]; rfl
        have := HI.out.r.g
        rwa [e1, e2] at this
       have HMS : Hid (outN cb wr = G.1.out.length) := HEND.out.st.outN; clear HI; go_wp2_with fail; go_roundw
       case rel => exact ⟨G.1, G.2, f' - 1, rs2, p3, b3, o3, c3, p4, b4, o4, c4, n2, hn2, rfl, rfl, HEND.out, HPU.out.1, HPU.out.2.1, HPU.out.2.2.1, HPU.out.2.2.2.1⟩
       case measure =>
        have h1 := HMS.out; have h2 := HST2.out; have h3 := HPU.out.2.2.2.2.1; have h4 := HPU.out.2.2.1
        show M + 1 - outN cb wr < _
        rw [h1, h2]
        omega
end
end Go.Proofs.YtickbkcpcgmlmaaGreatDoor
