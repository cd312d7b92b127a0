/- Texts of OpsMG, OpsS2. Own work of the verifier. -/
import Derived.Test.YtfgmenkoeflhaaaGreatDoorUqbb
namespace Go.Proofs.YtfgmenkoeflhaaaGreatDoor
set_option linter.unusedVariables false
section
open Go Go.RowKit Go.Maps
theorem OwnO.row {w : World} {B : Nat} {p : Option Addr} {n c : Nat} {cs : List Cel} (h : OwnO w B p n c cs) {k : Nat} (e : Value.ownBlock (.slice p n c) = some k) : B ≤ k ∧ k < w.heap.size := by
 obtain ⟨hn, rs, hl, hr, _⟩ := h; exact hr.lt k e
theorem OwnO.kept {w w' : World} {B r : Nat} {p : Option Addr} {n c : Nat} {cs : List Cel} (h : OwnO w B p n c cs) (hg : w.grownBy w' (some r)) (hr0 : r < B) : OwnO w' B p n c cs := by
 obtain ⟨hn, rs, hl, hr, hf, ha⟩ := h; refine ⟨hn, rs, hl, hr.kept hg (.inr (fun e => ?_)), fun i hi => ⟨(hf i hi).1, (hf i hi).2.1, (hf i hi).2.2.other hg.size (fun k hp e => ?_)⟩, ha⟩
 ·have := (hr.lt r e).1
  omega
 ·obtain ⟨k', e', h1, h2, _⟩ := (hf i hi).2.2.2 hp
  have ek : k = k' := by rw [e] at e'; exact congrArg Addr.block (Option.some.inj e')
  exact hg.block k (by omega) (fun e2 => by have := Option.some.inj e2; omega)
theorem news_ro {w : World} {d : Nat} {r : RC} (h : Box3 w d (.slice r.2.2.1 r.2.2.2.1 r.2.2.2.2) (.int .i64 r.1) (.int .i64 r.2.1)) : ∀ j u, (roV r)[j]? = some u → w.cell? ((⟨d, 0, none⟩ : Addr).add j) = some u := fun j u hu => by
 match j, hu with
 | 0, hu => simp [roV] at hu; rw [← hu]; exact h.1
 | 1, hu => simp [roV] at hu; rw [← hu]; exact h.2.1
 | 2, hu => simp [roV] at hu; rw [← hu]; exact h.2.2.1
 | j + 3, hu => simp [roV] at hu
end
section
open Go Go.RowKit
def FitsB (w : World) (B : Nat) (r : RC) (c : Cel) : Prop := r.1 = c.1 ∧ r.2.1 = c.2.1 ∧ r.2.2.2.1 = c.2.2.length ∧ BIn w r.2.2.1 c.2.2 ∧ ∀ a, 0 < c.2.2.length → r.2.2.1 = some a → a.block < B
def RowB (w : World) (B : Nat) (p : Option Addr) (n c : Nat) (cs : List Cel) : Prop := n = cs.length ∧ ∃ rs : List RC, rs.length = cs.length ∧ w.ownsRow B 94 3 (.slice p n c) n (flatO rs) ∧ ∀ i, i < cs.length → FitsB w B (rs.getD i RC.zero) (cs.getD i Cel.none)
theorem RowB.nil (w : World) (B : Nat) : RowB w B none 0 0 [] := ⟨rfl, [], rfl, World.ownsRow_nil _ _ _ _, fun i h => by simp at h⟩
theorem bin_low {w w' : World} {B : Nat} {p : Option Addr} {xs : List Int} (h : BIn w p xs) (hb : Below B w w') (hl : ∀ a, 0 < xs.length → p = some a → a.block < B) : BIn w' p xs := fun hn => by
 obtain ⟨b, o, rfl, hc⟩ := h hn; exact ⟨b, o, rfl, fun i hi => (hb.cell (p := ⟨b, o + i, none⟩) (hl ⟨b, o, none⟩ hn rfl)).trans (hc i hi)⟩
theorem FitsB.low {w w' : World} {B : Nat} {r : RC} {c : Cel} (h : FitsB w B r c) (hb : Below B w w') : FitsB w' B r c := ⟨h.1, h.2.1, h.2.2.1, bin_low h.2.2.2.1 hb h.2.2.2.2, h.2.2.2.2⟩
theorem RowB.below {w w' : World} {B : Nat} {p : Option Addr} {n c : Nat} {cs : List Cel} (h : RowB w B p n c cs) (hb : Below w.heap.size w w') (hB : B ≤ w.heap.size) : RowB w' B p n c cs := by
 obtain ⟨hn, rs, hl, hr, hf⟩ := h; exact ⟨hn, rs, hl, row_below hr hb, fun i hi => (hf i hi).low (hb.mono hB)⟩
theorem RowB.oin {w : World} {B : Nat} {p : Option Addr} {n c : Nat} {cs : List Cel} (h : RowB w B p n c cs) : OIn w p cs := fun hn => by
 obtain ⟨rfl, rs, hl, hr, hf⟩ := h; obtain ⟨g, cap, hv, hb, hg⟩ := hr.form hn; simp only [Value.slice.injEq, true_and] at hv; obtain ⟨rfl, rfl⟩ := hv; refine ⟨g, 0, rfl, fun i hi => ?_⟩; obtain ⟨f0, f1, f2, f3, _⟩ := hf i hi; obtain ⟨a0, a1, a2⟩ := flatO_at rs i (by omega); rw [Nat.zero_add]; refine ⟨(rs.getD i RC.zero).2.2.1, (rs.getD i RC.zero).2.2.2.2, ?_, ?_, ?_, f3⟩
 ·rw [hr.cellAt _ (by omega), a0, f0]
 ·rw [hr.cellAt _ (by omega), a1, f1]
 ·rw [hr.cellAt _ (by omega), a2, f2]
theorem RowB.row {w : World} {B : Nat} {p : Option Addr} {n c : Nat} {cs : List Cel} (h : RowB w B p n c cs) {k : Nat} (e : Value.ownBlock (.slice p n c) = some k) : B ≤ k ∧ k < w.heap.size := by
 obtain ⟨hn, rs, hl, hr, _⟩ := h; exact hr.lt k e
theorem app_rowB (w : World) {ops : Array Oper} {rest : List Oper} {o : Oper} {a : Act} {Q : Exit → Act → World → Prop} (hgd : o.guard = none) (s x : Operand)
 (ho : o.op = .call { callee := .builtin .append, args := #[s, x], argTypes := #[51, 51] }) (B : Nat) (p : Option Addr) (n c : Nat) (cs : List Cel)
 (hs : a.eval s = .slice p n c) (hown : RowB w B p n c cs) (hB : B ≤ w.heap.size) (ad : Addr) (c' : Nat) (hx : a.eval x = .slice (some ad) 1 c') (r : RC) (cc : Cel) (hfit : FitsB w B r cc)
 (hnews : ∀ j u, (roV r)[j]? = some u → w.cell? (ad.add j) = some u) (hlen : n + 1 ≤ 1000000000)
 (h : ∀ g n' cap w', RowB w' B (some ⟨g, 0, none⟩) n' cap (cs ++ [cc]) → w.grownBy w' (Value.ownBlock (.slice p n c)) → Hid (n' = n + 1) → wpList Tryz.prog ops Q rest (a.put o.dst (.slice (some ⟨g, 0, none⟩) n' cap)) w') : wpList Tryz.prog ops Q (o :: rest) a w := by
 obtain ⟨i0, hi, hz0, hz1, hz2⟩ := info_parts infoOp
 have hrow := fun k e => hown.row (k := k) e
 obtain ⟨hn, rs, hl, hr, hf⟩ := hown; refine wpList_append_lies w hgd s x 51 ho B 94 i0 (.agg #[.slice none 0 0, .int .i64 0, .int .i64 0]) 3 40 Tryz.underlying51 hi hz0 hz1 hz2 rfl (by decide) (.slice p n c) n (flatO rs) hs hr ad 1 c' (roV r) hx rfl hnews (roV_one _) (by decide) (by unfold maxLen; omega) (by omega) hB w.heap.size rfl ?_
 intro g cap w' hown' hgrow hat hlt
 have hb : Below B w w' := (Below.refl _ _).grown hgrow hB (fun k hk => (hrow k hk).1); refine h g _ cap w' ⟨by simp; omega, rs ++ [r], by simp; omega, by rw [flatO_append, flatO_one]; exact hown', fun i hi => ?_⟩ hgrow rfl
 have hi' : i ≤ cs.length := by simp at hi; omega
 rw [rs_append_at _ _ _ (by omega), cs_append_at _ _ _ hi']
 by_cases e : i = cs.length
 ·rw [if_pos (by omega), if_pos e]; exact hfit.low hb
 ·rw [if_neg (by omega), if_neg e]; exact (hf i (by omega)).low hb
theorem putL_at (o : Cel) (d : Bool) (cs : List Cel) (k : Nat) (h : k < cs.length) : putL o d (cs.drop k) = if keyC (cs.getD k Cel.none) = keyC o then putL o d (cs.drop (k + 1)) else if !d && ltO o (cs.getD k Cel.none) then o :: cs.getD k Cel.none :: putL o true (cs.drop (k + 1)) else cs.getD k Cel.none :: putL o d (cs.drop (k + 1)) := by
 rw [drop_at cs k h, putL]
theorem srt_eq {a b : Int} : srt a = srt b ↔ preB a = preB b := by
 unfold srt
 cases preB a <;> cases preB b <;> simp
theorem srt_lt' {a b : Int} : srt a < srt b ↔ preB a = true ∧ preB b = false := by
 unfold srt
 cases preB a <;> cases preB b <;> simp
theorem key_iff {x o : Cel} : keyC x = keyC o ↔ (strOfNums x.2.2).toList = (strOfNums o.2.2).toList ∧ preB x.2.1 = preB o.2.1 := by
 rw [← srt_eq]
 constructor
 ·intro h; exact ⟨(Prod.mk.inj h).1, (Prod.mk.inj h).2⟩
 ·intro h; exact Prod.ext h.1 h.2
theorem lt_iff {x o : Cel} : ltO o x = true ↔ Op.bytesLess (strOfNums o.2.2).toList (strOfNums x.2.2).toList = true ∨ ((strOfNums o.2.2).toList = (strOfNums x.2.2).toList ∧ preB o.2.1 = true ∧ preB x.2.1 = false) := by
 rw [ltO_iff_key, ← srt_lt']; rfl
theorem kkM6 {w1 w5 : World} {row : Option Nat} {g : Nat} {v0 v1 v2 : Value} (hg : w1.grownBy w5 row) (h : w1.cell? ⟨g, 0, none⟩ = some v0 ∧ w1.cell? ⟨g, 1, none⟩ = some v1 ∧ w1.cell? ⟨g, 2, none⟩ = some v2) (hne : row ≠ some g) : w5.cell? ⟨g, 0, none⟩ = some v0 ∧ w5.cell? ⟨g, 1, none⟩ = some v1 ∧ w5.cell? ⟨g, 2, none⟩ = some v2 := by
 have hlt : g < w1.heap.size := World.block_lt_of_cell? _ _ h.1
 have hc : ∀ o, w5.cell? ⟨g, o, none⟩ = w1.cell? ⟨g, o, none⟩ := fun o => World.cell?_of_block (hg.block _ hlt (fun e => hne e.symm))
 exact ⟨(hc _).trans h.1, (hc _).trans h.2.1, (hc _).trans h.2.2⟩
def PutOut (w : World) (r : List Cel) (e : Ending) (w' : World) : Prop := ∃ p n c, e = .returned (.slice p n c) ∧ n = r.length ∧ OIn w' p r ∧ Below w.heap.size w w'
set_option maxRecDepth 100000 in
set_option maxHeartbeats 6000000 in
theorem l3put_any (p : Option Addr) (c n : Nat) (cs : List Cel) (k0 t0 : Int) (q : Option Addr) (l cq : Nat) (xs : List Int) (w : World) (hnl : n = cs.length) (hl : l = xs.length) (hn : n ≤ 1000000) (hin : OIn w p cs) (hx : BIn w q xs) :
 Calls Tryz.prog 58 #[.slice p n c, .agg #[.slice q l cq, .int .i64 k0, .int .i64 t0]] w (PutOut w (putO cs (k0, t0, xs))) := by
 obtain ⟨w0, ew0⟩ : ∃ w0, w0 = w.alloc (Obj.cells #[.slice q l cq, .int .i64 k0, .int .i64 t0] 94) := ⟨_, rfl⟩
 have hal : Below w.heap.size w w0 := by rw [ew0]; exact (Below.refl _ _).alloc (Nat.le_refl _) _
 have hsz : w0.heap.size = w.heap.size + 1 := by rw [ew0]; simp
 have HIN : Hid (OIn w0 p cs) := hin.below hal; have HX : Hid (BIn w0 q xs) := hx.below hal; obtain ⟨a0, a1, a2⟩ := three_new w (.slice q l cq) (.int .i64 k0) (.int .i64 t0) 94; rw [← ew0] at a0 a1 a2
 have HA : Hid (w0.cell? ⟨w.heap.size, 0, none⟩ = some (.slice q l cq) ∧ w0.cell? ⟨w.heap.size, 1, none⟩ = some (.int .i64 k0) ∧ w0.cell? ⟨w.heap.size, 2, none⟩ = some (.int .i64 t0)) := ⟨a0, a1, a2⟩
 have HL : Hid (l = xs.length) := hl; have HNL : Hid (n = cs.length) := hnl; have HAL : Hid (Below w.heap.size w w0) := hal
 obtain ⟨so, eso⟩ : ∃ s, s = strOfNums xs := ⟨_, rfl⟩
 have HSO : Hid (so = strOfNums xs) := eso
 have HFO : Hid (∀ W, Below w0.heap.size w0 W → FitsB W (w.heap.size + 1) (k0, t0, q, l, cq) (k0, t0, xs)) := fun W hW => ⟨rfl, rfl, HL.out, HX.out.below hW, fun a hn e => by
  obtain ⟨b, o, e', hc⟩ := HX.out hn
  have e2 : (some a : Option Addr) = some ⟨b, o, none⟩ := by rw [← e']; exact e.symm
  rw [Option.some.inj e2]; have h9 : b < w0.heap.size := World.block_lt_of_cell? _ _ (hc 0 hn)
  show b < _
  omega⟩
 have HSZ : Hid (w0.heap.size = w.heap.size + 1) := hsz; clear hin hx hl hnl eso hsz hal
 go_enter Tryz.func58, Tryz.ntmps58
 go_wp2_with fail; rw [← ew0]
 go_loopw [5, 6, 7] (fun s dn i wr => ∃ (k m c5 : Nat) (d : Bool) (p5 : Option Addr) (pre : List Cel), k ≤ n ∧ m ≤ k + 1 ∧ s = .slice p5 m c5 ∧ dn = .bool d ∧ i = .int .i64 k ∧ Hid (putL (k0, t0, xs) (k0 == 0) cs = pre ++ putL (k0, t0, xs) d (cs.drop k)) ∧ Hid (RowB wr (w.heap.size + 1) p5 m c5 pre) ∧ Hid (Below (w.heap.size + 1) w0 wr) ∧ (d = false → m ≤ k)) (fun _ _ i _ => n - (intOf i).toNat)
 case atStart => exact ⟨0, 0, 0, k0 == 0, none, [], Nat.zero_le _, by omega, rfl, rfl, rfl, rfl, RowB.nil _ _, Below.refl _ _, fun _ => Nat.le_refl _⟩
 case round =>
  obtain ⟨k, m, c5, d, p5, pre, hk, hmk, rfl, rfl, rfl, HQ, HR, HB, hdm⟩ := hrel
  have hBs : w.heap.size + 1 ≤ wr.heap.size := by have := HB.out.size; have := HSZ.out; omega
  by_cases hlt : k < n
  ·have hlc : k < cs.length := by rw [← HNL.out]; exact hlt
   obtain ⟨g, o, rfl, hcs⟩ := HIN.out (by omega)
   have hg0 : g < w.heap.size + 1 := by
    obtain ⟨_, _, h, _⟩ := hcs k hlc; have h9 : g < w0.heap.size := World.block_lt_of_cell? _ _ h; have := HSZ.out
    show g < _; omega
   have hat := hcs k hlc; have HPA : Hid _ := putL_at (k0, t0, xs) d cs k hlc
   obtain ⟨x, ex⟩ : ∃ x, x = cs.getD k Cel.none := ⟨_, rfl⟩
   rw [← ex] at hat HPA; obtain ⟨qx, qc, h0, h1, h2, h3⟩ := hat; obtain ⟨x0, x1, x2⟩ := x; simp only at h0 h1 h2 h3
   have hlow : ∀ a, 0 < x2.length → qx = some a → a.block < w.heap.size + 1 := fun a hn0 e => by
    obtain ⟨b', o', e', hc⟩ := h3 hn0
    have e2 : (some a : Option Addr) = some ⟨b', o', none⟩ := by rw [← e', e]
    rw [Option.some.inj e2]; have h9 : b' < w0.heap.size := World.block_lt_of_cell? _ _ (hc 0 hn0); have := HSZ.out
    show b' < _; omega
   have h0 := (HB.out.cell (p := ⟨_, _, none⟩) hg0).trans h0; have h1 := (HB.out.cell (p := ⟨_, _, none⟩) hg0).trans h1; have h2 := (HB.out.cell (p := ⟨_, _, none⟩) hg0).trans h2; have h3 := bin_low h3 HB.out hlow
   obtain ⟨l2, el2⟩ : ∃ l, l = x2.length := ⟨_, rfl⟩
   obtain ⟨sx, esx⟩ : ∃ s, s = strOfNums x2 := ⟨_, rfl⟩
   rw [← el2] at h2
   obtain ⟨W1, eW1⟩ : ∃ W1, W1 = wr.alloc (Obj.cells #[.slice qx l2 qc, .int .i64 x0, .int .i64 x1] 94) := ⟨_, rfl⟩
   have hW1 : Below wr.heap.size wr W1 := by rw [eW1]; exact (Below.refl _ _).alloc (Nat.le_refl _) _
   have hW1s : W1.heap.size = wr.heap.size + 1 := by rw [eW1]; simp
   have HB1 : Hid (Below (w.heap.size + 1) w0 W1) := HB.out.trans (hW1.mono hBs); obtain ⟨d0, d1, d2⟩ := three_new wr (.slice qx l2 qc) (.int .i64 x0) (.int .i64 x1) 94; rw [← eW1] at d0 d1 d2; have a0 := (HB1.out.cell (p := ⟨w.heap.size, 0, none⟩) (Nat.lt_succ_self _)).trans HA.out.1; have a1 := (HB1.out.cell (p := ⟨w.heap.size, 1, none⟩) (Nat.lt_succ_self _)).trans HA.out.2.1; have a2 := (HB1.out.cell (p := ⟨w.heap.size, 2, none⟩) (Nat.lt_succ_self _)).trans HA.out.2.2
   have hbo : BIn W1 q xs := (HFO.out w0 (Below.refl _ _)).low HB1.out |>.2.2.2.1
   have cvx : (convert 22 9 (.slice qx l2 qc)).run Tryz.prog W1 = .ok (.string sx) W1 := by rw [esx]; exact conv_str (h3.below hW1) l2 qc el2 9 Tryz.underlying9
   have cvo : (convert 22 9 (.slice q l cq)).run Tryz.prog W1 = .ok (.string so) W1 := by rw [HSO.out]; exact conv_str hbo l cq HL.out 9 Tryz.underlying9
   have cvx' : (convert 22 9 (.slice qx l2 qc)).run Tryz.prog W1.drew = .ok (.string sx) W1.drew := by rw [esx]; exact conv_str (w := W1.drew) (h3.below hW1.drew) l2 qc el2 9 Tryz.underlying9
   have cvo' : (convert 22 9 (.slice q l cq)).run Tryz.prog W1.drew = .ok (.string so) W1.drew := by rw [HSO.out]; exact conv_str (w := W1.drew) (hbo.drewN 1) l cq HL.out 9 Tryz.underlying9
   have HFX : Hid (FitsB W1.drew (w.heap.size + 1) (x0, x1, qx, l2, qc) (x0, x1, x2)) := ⟨rfl, rfl, el2, h3.below hW1.drew, hlow⟩
   have HFO1 : Hid (FitsB W1.drew (w.heap.size + 1) (k0, t0, q, l, cq) (k0, t0, xs)) := (HFO.out w0 (Below.refl _ _)).low (w' := W1.drew) HB1.out.drew; have HR1 : Hid (RowB W1.drew (w.heap.size + 1) p5 m c5 pre) := HR.out.below hW1.drew hBs
   have HK : Hid (keyC (x0, x1, x2) = keyC (k0, t0, xs) ↔ sx.toList = so.toList ∧ preB x1 = preB t0) := by rw [esx, HSO.out]; exact key_iff
   have HLT : Hid (ltO (k0, t0, xs) (x0, x1, x2) = true ↔ Op.bytesLess so.toList sx.toList = true ∨ (so.toList = sx.toList ∧ preB t0 = true ∧ preB x1 = false)) := by rw [esx, HSO.out]; exact lt_iff
   have HRW : Hid (∀ kk, Value.ownBlock (.slice p5 m c5) = some kk → w.heap.size + 1 ≤ kk ∧ kk < wr.heap.size) := fun kk hkk => HR.out.row hkk
   have hB1 : w.heap.size + 1 ≤ W1.heap.size := by omega
   have HW1S : Hid (W1.heap.size = wr.heap.size + 1) := hW1s; clear hcs el2 esx ex h3 hlow hW1 hbo HIN HR HFO HX HA hW1s; subst eW1
   cases q1 : (sx.toList == so.toList) with
   | true =>
     have q1' : sx.toList = so.toList := by simpa using q1
     cases q2 : (preB x1 == preB t0) with
     | true =>
       have q2' : preB x1 = preB t0 := by simpa using q2
       have HKK : Hid (keyC (x0, x1, x2) = keyC (k0, t0, xs)) := HK.out.2 ⟨q1', q2'⟩; clear q1' q2'; go_wp2_with fail
       generalize wr.alloc (Obj.cells #[.slice qx l2 qc, .int .i64 x0, .int .i64 x1] 94) = W1 at *
       clear cvx cvo
       have HZ : Hid (putL (k0, t0, xs) (k0 == 0) cs = pre ++ putL (k0, t0, xs) d (cs.drop (k + 1))) := by show _ = _; rw [HQ.out, HPA.out, if_pos (HKK.out)]
       clear HPA HQ HK HLT HFX HFO1 cvx' cvo'; have HRw : Hid (RowB W1.drew (w.heap.size + 1) p5 m c5 pre) := HR1; have HBw : Hid (Below (w.heap.size + 1) w0 W1.drew) := HB1.out.drew
       go_region_held3 (fun W => W = W1.drew) (rfl)
        ((go_at_call 81; refine (l3prefix_any _ _).mono ?_; rintro e w' ⟨rfl, rfl⟩))
       all_goals
        go_wp2_with fail; go_roundw
        case rel => exact ⟨k + 1, m, c5, d, p5, pre, by omega, by omega, rfl, rfl, by go_num, HZ, HRw, HBw, fun h => by have := hdm h; omega⟩
        case measure => simp [intOf]; omega
     | false =>
       have q2' : ¬ preB x1 = preB t0 := by simpa using q2
       have HKN : Hid (¬ keyC (x0, x1, x2) = keyC (k0, t0, xs)) := fun h => q2' (HK.out.1 h).2
       have q3 : Op.bytesLess so.toList sx.toList = false := by rw [q1', bl_irrefl]
       have q3' : Op.bytesLess sx.toList so.toList = false := by rw [q1', bl_irrefl]
       cases d with
       | true =>
         clear q1' q2' q3 q3'; go_wp2_with fail
         generalize wr.alloc (Obj.cells #[.slice qx l2 qc, .int .i64 x0, .int .i64 x1] 94) = W1 at *
         clear cvx cvo
         have HZ : Hid (putL (k0, t0, xs) (k0 == 0) cs = (pre ++ [(x0, x1, x2)]) ++ putL (k0, t0, xs) true (cs.drop (k + 1))) := by show _ = _; rw [HQ.out, HPA.out, if_neg (HKN.out), if_neg (by simp)]; simp
         clear HPA HQ HK HLT HFO1; have hab : Below W1.heap.size W1.drew (W1.drew.alloc (Obj.cells #[.slice qx l2 qc, .int .i64 x0, .int .i64 x1] 94)) := (Below.refl _ W1.drew).alloc (Nat.le_refl _) _; have HRa := HR1.out.below hab hB1; have HFa := HFX.out.low (hab.mono hB1)
         have hBa : w.heap.size + 1 ≤ (W1.drew.alloc (Obj.cells #[.slice qx l2 qc, .int .i64 x0, .int .i64 x1] 94)).heap.size := by simp; omega
         clear hab HFX HR1
         go_region_held3 (fun W => W = W1.drew) (rfl)
          ((go_at_call 81; refine (l3prefix_any _ _).mono ?_; rintro e w' ⟨rfl, rfl⟩))
         all_goals
          go_wp2_with (first | (go_at_call 81; refine (l3prefix_any _ _).mono ?_; rintro e w' ⟨rfl, rfl⟩) | (at_builtin; refine app_rowB _ rfl _ _ rfl (w.heap.size + 1) p5 m c5 pre rfl HRa hBa ⟨W1.heap.size, 0, none⟩ 1 rfl (x0, x1, qx, l2, qc) (x0, x1, x2) HFa (news_ro (Box3.of_block (t := 94) (heap_alloc_new W1.drew _))) (by omega) ?_; intro g6 n6 cap6 w6 hrow6 hgrow6 hn6)); have HB6 : Hid (Below (w.heap.size + 1) w0 w6) := (HB1.out.drew.alloc hB1 _).grown hgrow6 hBa (fun kk hkk => (HRW.out kk hkk).1); have HR6 : Hid _ := hrow6; have hn6' : n6 = m + 1 := hn6.out; clear hrow6 hgrow6 hn6 HRa HFa cvx' cvo' a0 a1 a2 d0 d1 d2; go_wp2_with fail; go_roundw
          case rel => exact ⟨k + 1, n6, cap6, true, _, _, by omega, by omega, rfl, rfl, by go_num, HZ, HR6, HB6, fun h => by cases h⟩
          case measure => simp [intOf]; omega
       | false =>
         cases q4 : preB t0 with
         | true =>
           have q5 : preB x1 = false := by cases h : preB x1 with | false => rfl | true => rw [h, q4] at q2'; exact absurd rfl q2'
           have HLL : Hid (ltO (k0, t0, xs) (x0, x1, x2) = true) := HLT.out.2 (.inr ⟨q1'.symm, q4, q5⟩); clear q1' q2' q3; go_wp2_with fail
           generalize wr.alloc (Obj.cells #[.slice qx l2 qc, .int .i64 x0, .int .i64 x1] 94) = W1 at *
           clear cvx cvo
           have HZ : Hid (putL (k0, t0, xs) (k0 == 0) cs = ((pre ++ [(k0, t0, xs)]) ++ [(x0, x1, x2)]) ++ putL (k0, t0, xs) true (cs.drop (k + 1))) := by show _ = _; rw [HQ.out, HPA.out, if_neg (HKN.out), if_pos (by simp [HLL.out])]; simp
           clear HPA HQ HK HLT; have hab : Below W1.heap.size W1.drew (W1.drew.alloc (Obj.cells #[.slice q l cq, .int .i64 k0, .int .i64 t0] 94)) := (Below.refl _ W1.drew).alloc (Nat.le_refl _) _; have HRa := HR1.out.below hab hB1; have HFa := HFO1.out.low (hab.mono hB1)
           have hBa : w.heap.size + 1 ≤ (W1.drew.alloc (Obj.cells #[.slice q l cq, .int .i64 k0, .int .i64 t0] 94)).heap.size := by simp; omega
           have hda : (W1.drew.alloc (Obj.cells #[.slice q l cq, .int .i64 k0, .int .i64 t0] 94)).cell? ⟨wr.heap.size, 0, none⟩ = some (.slice qx l2 qc) ∧ (W1.drew.alloc (Obj.cells #[.slice q l cq, .int .i64 k0, .int .i64 t0] 94)).cell? ⟨wr.heap.size, 1, none⟩ = some (.int .i64 x0) ∧ (W1.drew.alloc (Obj.cells #[.slice q l cq, .int .i64 k0, .int .i64 t0] 94)).cell? ⟨wr.heap.size, 2, none⟩ = some (.int .i64 x1) := ⟨(hab.cell (World.block_lt_of_cell? _ _ d0)).trans d0, (hab.cell (World.block_lt_of_cell? _ _ d1)).trans d1, (hab.cell (World.block_lt_of_cell? _ _ d2)).trans d2⟩
           have HFXa : Hid (FitsB (W1.drew.alloc (Obj.cells #[.slice q l cq, .int .i64 k0, .int .i64 t0] 94)) (w.heap.size + 1) (x0, x1, qx, l2, qc) (x0, x1, x2)) := HFX.out.low (hab.mono hB1); have HBa : Hid (Below (w.heap.size + 1) w0 (W1.drew.alloc (Obj.cells #[.slice q l cq, .int .i64 k0, .int .i64 t0] 94))) := HB1.out.drew.alloc hB1 _; have HDA : Hid _ := hda; clear hab HFX HR1 HFO1 hda
           go_region_held3 (fun W => W = W1.drew) (rfl)
            ((go_at_call 81; refine (l3prefix_any _ _).mono ?_; rintro e w' ⟨rfl, rfl⟩))
           all_goals
            have tok1 : True := trivial; go_wp2_with (first | (go_at_call 81; refine (l3prefix_any _ _).mono ?_; rintro e w' ⟨rfl, rfl⟩) | (at_builtin; have _t := tok1; refine app_rowB _ rfl _ _ rfl (w.heap.size + 1) p5 m c5 pre rfl HRa hBa ⟨W1.heap.size, 0, none⟩ 1 rfl (k0, t0, q, l, cq) (k0, t0, xs) HFa (news_ro (Box3.of_block (t := 94) (heap_alloc_new W1.drew _))) (by omega) ?_; intro g6 n6 cap6 w6 hrow6 hgrow6 hn6; clear tok1; obtain ⟨f0, f1, f2⟩ := kkM6 hgrow6 HDA.out (fun e => by have := (HRW.out _ e).2; omega); have hb6 : Below (w.heap.size + 1) (W1.drew.alloc (Obj.cells #[.slice q l cq, .int .i64 k0, .int .i64 t0] 94)) w6 := (Below.refl _ _).grown hgrow6 hBa (fun kk hkk => (HRW.out kk hkk).1); have hB6 : w.heap.size + 1 ≤ w6.heap.size := Nat.le_trans hBa hb6.size; have hac : Below w6.heap.size w6 (w6.alloc (Obj.cells #[.slice qx l2 qc, .int .i64 x0, .int .i64 x1] 94)) := (Below.refl _ _).alloc (Nat.le_refl _) _; have hrow6' := hrow6.below hac hB6; have hfx6 := (HFXa.out.low hb6).low (hac.mono hB6); have HB6 : Hid (Below (w.heap.size + 1) w0 (w6.alloc (Obj.cells #[.slice qx l2 qc, .int .i64 x0, .int .i64 x1] 94))) := (HBa.out.trans hb6).trans (hac.mono hB6); have hBc : w.heap.size + 1 ≤ (w6.alloc (Obj.cells #[.slice qx l2 qc, .int .i64 x0, .int .i64 x1] 94)).heap.size := Nat.le_trans hB6 hac.size) | (at_builtin; refine app_rowB _ rfl _ _ rfl (w.heap.size + 1) (some ⟨g6, 0, none⟩) n6 cap6 (pre ++ [(k0, t0, xs)]) rfl hrow6' hBc ⟨w6.heap.size, 0, none⟩ 1 rfl (x0, x1, qx, l2, qc) (x0, x1, x2) hfx6 (news_ro (Box3.of_block (t := 94) (heap_alloc_new w6 _))) (by have := hn6.out; omega) ?_; intro g7 n7 cap7 w7 hrow7 hgrow7 hn7))
            have HB7 : Hid (Below (w.heap.size + 1) w0 w7) := HB6.out.grown hgrow7 hBc (fun kk hkk => (hrow6.row hkk).1); have HR7 : Hid _ := hrow7; clear hrow7 hgrow7 hrow6 hrow6' hfx6 hac hb6 hgrow6 f0 f1 f2 HRa HFa cvx' cvo' a0 a1 a2 d0 d1 d2; go_wp2_with fail; go_roundw
            case rel => exact ⟨k + 1, n7, cap7, true, _, _, by omega, by have := hdm (by first | rfl | trivial); have := hn6.out; have := hn7.out; omega, rfl, rfl, by go_num, HZ, HR7, HB7, fun h => by cases h⟩
            case measure => simp [intOf]; omega
         | false =>
           have q5 : preB x1 = true := by cases h : preB x1 with | true => rfl | false => rw [h, q4] at q2'; exact absurd rfl q2'
           have HLL : Hid (¬ ltO (k0, t0, xs) (x0, x1, x2) = true) := fun h => by rcases HLT.out.1 h with h | h; rw [q3] at h; cases h; rw [q4] at h; cases h.2.1
           clear q1' q2' q3; go_wp2_with fail
           generalize wr.alloc (Obj.cells #[.slice qx l2 qc, .int .i64 x0, .int .i64 x1] 94) = W1 at *
           clear cvx cvo
           have HZ : Hid (putL (k0, t0, xs) (k0 == 0) cs = (pre ++ [(x0, x1, x2)]) ++ putL (k0, t0, xs) false (cs.drop (k + 1))) := by show _ = _; rw [HQ.out, HPA.out, if_neg (HKN.out), if_neg (by simp [HLL.out])]; simp
           clear HPA HQ HK HLT HFO1; have hab : Below W1.heap.size W1.drew (W1.drew.alloc (Obj.cells #[.slice qx l2 qc, .int .i64 x0, .int .i64 x1] 94)) := (Below.refl _ W1.drew).alloc (Nat.le_refl _) _; have HRa := HR1.out.below hab hB1; have HFa := HFX.out.low (hab.mono hB1)
           have hBa : w.heap.size + 1 ≤ (W1.drew.alloc (Obj.cells #[.slice qx l2 qc, .int .i64 x0, .int .i64 x1] 94)).heap.size := by simp; omega
           clear hab HFX HR1
           go_region_held3 (fun W => W = W1.drew) (rfl)
            ((go_at_call 81; refine (l3prefix_any _ _).mono ?_; rintro e w' ⟨rfl, rfl⟩))
           all_goals
            go_wp2_with (first | (go_at_call 81; refine (l3prefix_any _ _).mono ?_; rintro e w' ⟨rfl, rfl⟩) | (at_builtin; refine app_rowB _ rfl _ _ rfl (w.heap.size + 1) p5 m c5 pre rfl HRa hBa ⟨W1.heap.size, 0, none⟩ 1 rfl (x0, x1, qx, l2, qc) (x0, x1, x2) HFa (news_ro (Box3.of_block (t := 94) (heap_alloc_new W1.drew _))) (by omega) ?_; intro g6 n6 cap6 w6 hrow6 hgrow6 hn6)); have HB6 : Hid (Below (w.heap.size + 1) w0 w6) := (HB1.out.drew.alloc hB1 _).grown hgrow6 hBa (fun kk hkk => (HRW.out kk hkk).1); have HR6 : Hid _ := hrow6; have hn6' : n6 = m + 1 := hn6.out; clear hrow6 hgrow6 hn6 HRa HFa cvx' cvo' a0 a1 a2 d0 d1 d2; go_wp2_with fail; go_roundw
            case rel => exact ⟨k + 1, n6, cap6, false, _, _, by omega, by omega, rfl, rfl, by go_num, HZ, HR6, HB6, fun h => by have := hdm (by first | rfl | trivial); omega⟩
            case measure => simp [intOf]; omega
   | false =>
     have q1' : ¬ sx.toList = so.toList := by simpa using q1
     have HKN : Hid (¬ keyC (x0, x1, x2) = keyC (k0, t0, xs)) := fun h => q1' (HK.out.1 h).1
     cases d with
     | true =>
       clear q1'; go_wp2_with fail
       generalize wr.alloc (Obj.cells #[.slice qx l2 qc, .int .i64 x0, .int .i64 x1] 94) = W1 at *
       clear cvx cvo
       have HZ : Hid (putL (k0, t0, xs) (k0 == 0) cs = (pre ++ [(x0, x1, x2)]) ++ putL (k0, t0, xs) true (cs.drop (k + 1))) := by show _ = _; rw [HQ.out, HPA.out, if_neg (HKN.out), if_neg (by simp)]; simp
       clear HPA HQ HK HLT HFO1; have hab : Below W1.heap.size W1.drew (W1.drew.alloc (Obj.cells #[.slice qx l2 qc, .int .i64 x0, .int .i64 x1] 94)) := (Below.refl _ W1.drew).alloc (Nat.le_refl _) _; have HRa := HR1.out.below hab hB1; have HFa := HFX.out.low (hab.mono hB1)
       have hBa : w.heap.size + 1 ≤ (W1.drew.alloc (Obj.cells #[.slice qx l2 qc, .int .i64 x0, .int .i64 x1] 94)).heap.size := by simp; omega
       clear hab HFX HR1; refine wp_region_held_drew (S := fun _ => True) (by kernel_rfl) ?_ (fun hHeld => ?_)
       ·exact trivial
       refine hTk (i := 0) (v := .bool false) (some 30) (fun o ho W hSw => ?y0) (by assumption) ?_
       case y0 => cases ho; simp [execOp, go_sem, Act.eval]
       simp only [Act.put, zzA, zzB, zzC]; refine hTk (i := 1) (v := .bool false) (some 31) (fun o ho W hSw => ?y1) (by assumption) ?_
       case y1 => cases ho; simp [execOp, go_sem, Act.eval]
       simp only [Act.put, zzA, zzB, zzC]; refine hSk (i := 2) (some 32) (by assumption) ?_; refine hSk (i := 3) (some 33) (by assumption) ?_; refine hSk (i := 4) (some 34) (by assumption) ?_; refine hSk (i := 5) (some 35) (by assumption) ?_; simp only [Act.put, zzA, zzB, zzC]; refine hSk (i := 6) (some 36) (by assumption) ?_; refine hSk (i := 7) (some 37) (by assumption) ?_; refine hSk (i := 8) (some 38) (by assumption) ?_; simp only [Act.put, zzA, zzB, zzC]; refine hTk (i := 9) (v := .bool false) (some 39) (fun o ho W hSw => ?y9) (by assumption) ?_
       case y9 => cases ho; simp [execOp, go_sem, Act.eval]
       simp only [Act.put, zzA, zzB, zzC]; refine wpAnyH_done (by kernel_rfl) ?_ _
       all_goals
        go_wp2_with (first | (go_at_call 81; refine (l3prefix_any _ _).mono ?_; rintro e w' ⟨rfl, rfl⟩) | (at_builtin; refine app_rowB _ rfl _ _ rfl (w.heap.size + 1) p5 m c5 pre rfl HRa hBa ⟨W1.heap.size, 0, none⟩ 1 rfl (x0, x1, qx, l2, qc) (x0, x1, x2) HFa (news_ro (Box3.of_block (t := 94) (heap_alloc_new W1.drew _))) (by omega) ?_; intro g6 n6 cap6 w6 hrow6 hgrow6 hn6)); have HB6 : Hid (Below (w.heap.size + 1) w0 w6) := (HB1.out.drew.alloc hB1 _).grown hgrow6 hBa (fun kk hkk => (HRW.out kk hkk).1); have HR6 : Hid _ := hrow6; have hn6' : n6 = m + 1 := hn6.out; clear hrow6 hgrow6 hn6 HRa HFa cvx' cvo' a0 a1 a2 d0 d1 d2; go_wp2_with fail; go_roundw
        case rel => exact ⟨k + 1, n6, cap6, true, _, _, by omega, by omega, rfl, rfl, by go_num, HZ, HR6, HB6, fun h => by cases h⟩
        case measure => simp [intOf]; omega
     | false =>
       cases q3 : Op.bytesLess sx.toList so.toList with
       | true =>
         have HLL : Hid (¬ ltO (k0, t0, xs) (x0, x1, x2) = true) := fun h => by rcases HLT.out.1 h with h | h; have := bl_trans _ _ _ q3 h; rw [bl_irrefl] at this; cases this; exact q1' h.1.symm
         clear q1'; go_wp2_with fail
         generalize wr.alloc (Obj.cells #[.slice qx l2 qc, .int .i64 x0, .int .i64 x1] 94) = W1 at *
         clear cvx cvo
         have HZ : Hid (putL (k0, t0, xs) (k0 == 0) cs = (pre ++ [(x0, x1, x2)]) ++ putL (k0, t0, xs) false (cs.drop (k + 1))) := by show _ = _; rw [HQ.out, HPA.out, if_neg (HKN.out), if_neg (by simp [HLL.out])]; simp
         clear HPA HQ HK HLT HFO1; have hab : Below W1.heap.size W1.drew (W1.drew.alloc (Obj.cells #[.slice qx l2 qc, .int .i64 x0, .int .i64 x1] 94)) := (Below.refl _ W1.drew).alloc (Nat.le_refl _) _; have HRa := HR1.out.below hab hB1; have HFa := HFX.out.low (hab.mono hB1)
         have hBa : w.heap.size + 1 ≤ (W1.drew.alloc (Obj.cells #[.slice qx l2 qc, .int .i64 x0, .int .i64 x1] 94)).heap.size := by simp; omega
         clear hab HFX HR1; refine wp_region_held_drew (S := fun _ => True) (by kernel_rfl) ?_ (fun hHeld => ?_)
         ·exact trivial
         refine hTk (i := 0) (v := .bool false) (some 30) (fun o ho W hSw => ?y0) (by assumption) ?_
         case y0 => cases ho; simp [execOp, go_sem, Act.eval]
         simp only [Act.put, zzA, zzB, zzC]; refine hTk (i := 1) (v := .bool false) (some 31) (fun o ho W hSw => ?y1) (by assumption) ?_
         case y1 => cases ho; simp [execOp, go_sem, Act.eval]
         simp only [Act.put, zzA, zzB, zzC]; refine hSk (i := 2) (some 32) (by assumption) ?_; refine hSk (i := 3) (some 33) (by assumption) ?_; simp only [Act.put, zzA, zzB, zzC]; refine hSk (i := 4) (some 34) (by assumption) ?_; refine hSk (i := 5) (some 35) (by assumption) ?_; refine hSk (i := 6) (some 36) (by assumption) ?_; refine hSk (i := 7) (some 37) (by assumption) ?_; simp only [Act.put, zzA, zzB, zzC]
         refine hSk (i := 8) (some 38) (by assumption) ?_; simp only [Act.put, zzA, zzB, zzC]; refine hTk (i := 9) (v := .bool false) (some 39) (fun o ho W hSw => ?y9) (by assumption) ?_
         case y9 => cases ho; simp [execOp, go_sem, Act.eval]
         simp only [Act.put, zzA, zzB, zzC]; refine wpAnyH_done (by kernel_rfl) ?_ _
         all_goals
          go_wp2_with (first | (go_at_call 81; refine (l3prefix_any _ _).mono ?_; rintro e w' ⟨rfl, rfl⟩) | (at_builtin; refine app_rowB _ rfl _ _ rfl (w.heap.size + 1) p5 m c5 pre rfl HRa hBa ⟨W1.heap.size, 0, none⟩ 1 rfl (x0, x1, qx, l2, qc) (x0, x1, x2) HFa (news_ro (Box3.of_block (t := 94) (heap_alloc_new W1.drew _))) (by omega) ?_; intro g6 n6 cap6 w6 hrow6 hgrow6 hn6)); have HB6 : Hid (Below (w.heap.size + 1) w0 w6) := (HB1.out.drew.alloc hB1 _).grown hgrow6 hBa (fun kk hkk => (HRW.out kk hkk).1); have HR6 : Hid _ := hrow6; have hn6' : n6 = m + 1 := hn6.out; clear hrow6 hgrow6 hn6 HRa HFa cvx' cvo' a0 a1 a2 d0 d1 d2; go_wp2_with fail; go_roundw
          case rel => exact ⟨k + 1, n6, cap6, false, _, _, by omega, by omega, rfl, rfl, by go_num, HZ, HR6, HB6, fun h => by have := hdm (by first | rfl | trivial); omega⟩
          case measure => simp [intOf]; omega
       | false =>
         have HLL : Hid (ltO (k0, t0, xs) (x0, x1, x2) = true) := HLT.out.2 (.inl (bl_tri _ _ q3 q1')); clear q1'; go_wp2_with fail
         generalize wr.alloc (Obj.cells #[.slice qx l2 qc, .int .i64 x0, .int .i64 x1] 94) = W1 at *
         clear cvx cvo
         have HZ : Hid (putL (k0, t0, xs) (k0 == 0) cs = ((pre ++ [(k0, t0, xs)]) ++ [(x0, x1, x2)]) ++ putL (k0, t0, xs) true (cs.drop (k + 1))) := by show _ = _; rw [HQ.out, HPA.out, if_neg (HKN.out), if_pos (by simp [HLL.out])]; simp
         clear HPA HQ HK HLT; have hab : Below W1.heap.size W1.drew (W1.drew.alloc (Obj.cells #[.slice q l cq, .int .i64 k0, .int .i64 t0] 94)) := (Below.refl _ W1.drew).alloc (Nat.le_refl _) _; have HRa := HR1.out.below hab hB1; have HFa := HFO1.out.low (hab.mono hB1)
         have hBa : w.heap.size + 1 ≤ (W1.drew.alloc (Obj.cells #[.slice q l cq, .int .i64 k0, .int .i64 t0] 94)).heap.size := by simp; omega
         have hda : (W1.drew.alloc (Obj.cells #[.slice q l cq, .int .i64 k0, .int .i64 t0] 94)).cell? ⟨wr.heap.size, 0, none⟩ = some (.slice qx l2 qc) ∧ (W1.drew.alloc (Obj.cells #[.slice q l cq, .int .i64 k0, .int .i64 t0] 94)).cell? ⟨wr.heap.size, 1, none⟩ = some (.int .i64 x0) ∧ (W1.drew.alloc (Obj.cells #[.slice q l cq, .int .i64 k0, .int .i64 t0] 94)).cell? ⟨wr.heap.size, 2, none⟩ = some (.int .i64 x1) := ⟨(hab.cell (World.block_lt_of_cell? _ _ d0)).trans d0, (hab.cell (World.block_lt_of_cell? _ _ d1)).trans d1, (hab.cell (World.block_lt_of_cell? _ _ d2)).trans d2⟩
         have HFXa : Hid (FitsB (W1.drew.alloc (Obj.cells #[.slice q l cq, .int .i64 k0, .int .i64 t0] 94)) (w.heap.size + 1) (x0, x1, qx, l2, qc) (x0, x1, x2)) := HFX.out.low (hab.mono hB1); have HBa : Hid (Below (w.heap.size + 1) w0 (W1.drew.alloc (Obj.cells #[.slice q l cq, .int .i64 k0, .int .i64 t0] 94))) := HB1.out.drew.alloc hB1 _; have HDA : Hid _ := hda; clear hab HFX HR1 HFO1 hda; refine wp_region_held_drew (S := fun _ => True) (by kernel_rfl) ?_ (fun hHeld => ?_)
         ·exact trivial
         refine hTk (i := 0) (v := .bool false) (some 30) (fun o ho W hSw => ?y0) (by assumption) ?_
         case y0 => cases ho; simp [execOp, go_sem, Act.eval]
         simp only [Act.put, zzA, zzB, zzC]; refine hTk (i := 1) (v := .bool false) (some 31) (fun o ho W hSw => ?y1) (by assumption) ?_
         case y1 => cases ho; simp [execOp, go_sem, Act.eval]
         simp only [Act.put, zzA, zzB, zzC]; refine hSk (i := 2) (some 32) (by assumption) ?_; refine hSk (i := 3) (some 33) (by assumption) ?_; refine hSk (i := 4) (some 34) (by assumption) ?_; refine hSk (i := 5) (some 35) (by assumption) ?_; simp only [Act.put, zzA, zzB, zzC]; refine hSk (i := 6) (some 36) (by assumption) ?_; refine hSk (i := 7) (some 37) (by assumption) ?_; refine hSk (i := 8) (some 38) (by assumption) ?_; simp only [Act.put, zzA, zzB, zzC]; refine hTk (i := 9) (v := .bool false) (some 39) (fun o ho W hSw => ?y9) (by assumption) ?_
         case y9 => cases ho; simp [execOp, go_sem, Act.eval]
         simp only [Act.put, zzA, zzB, zzC]; refine wpAnyH_done (by kernel_rfl) ?_ _
         all_goals
          have tok1 : True := trivial; go_wp2_with (first | (go_at_call 81; refine (l3prefix_any _ _).mono ?_; rintro e w' ⟨rfl, rfl⟩) | (at_builtin; have _t := tok1; refine app_rowB _ rfl _ _ rfl (w.heap.size + 1) p5 m c5 pre rfl HRa hBa ⟨W1.heap.size, 0, none⟩ 1 rfl (k0, t0, q, l, cq) (k0, t0, xs) HFa (news_ro (Box3.of_block (t := 94) (heap_alloc_new W1.drew _))) (by omega) ?_; intro g6 n6 cap6 w6 hrow6 hgrow6 hn6; clear tok1; obtain ⟨f0, f1, f2⟩ := kkM6 hgrow6 HDA.out (fun e => by have := (HRW.out _ e).2; omega); have hb6 : Below (w.heap.size + 1) (W1.drew.alloc (Obj.cells #[.slice q l cq, .int .i64 k0, .int .i64 t0] 94)) w6 := (Below.refl _ _).grown hgrow6 hBa (fun kk hkk => (HRW.out kk hkk).1); have hB6 : w.heap.size + 1 ≤ w6.heap.size := Nat.le_trans hBa hb6.size; have hac : Below w6.heap.size w6 (w6.alloc (Obj.cells #[.slice qx l2 qc, .int .i64 x0, .int .i64 x1] 94)) := (Below.refl _ _).alloc (Nat.le_refl _) _; have hrow6' := hrow6.below hac hB6; have hfx6 := (HFXa.out.low hb6).low (hac.mono hB6); have HB6 : Hid (Below (w.heap.size + 1) w0 (w6.alloc (Obj.cells #[.slice qx l2 qc, .int .i64 x0, .int .i64 x1] 94))) := (HBa.out.trans hb6).trans (hac.mono hB6); have hBc : w.heap.size + 1 ≤ (w6.alloc (Obj.cells #[.slice qx l2 qc, .int .i64 x0, .int .i64 x1] 94)).heap.size := Nat.le_trans hB6 hac.size) | (at_builtin; refine app_rowB _ rfl _ _ rfl (w.heap.size + 1) (some ⟨g6, 0, none⟩) n6 cap6 (pre ++ [(k0, t0, xs)]) rfl hrow6' hBc ⟨w6.heap.size, 0, none⟩ 1 rfl (x0, x1, qx, l2, qc) (x0, x1, x2) hfx6 (news_ro (Box3.of_block (t := 94) (heap_alloc_new w6 _))) (by have := hn6.out; omega) ?_; intro g7 n7 cap7 w7 hrow7 hgrow7 hn7))
          have HB7 : Hid (Below (w.heap.size + 1) w0 w7) := HB6.out.grown hgrow7 hBc (fun kk hkk => (hrow6.row hkk).1); have HR7 : Hid _ := hrow7; clear hrow7 hgrow7 hrow6 hrow6' hfx6 hac hb6 hgrow6 f0 f1 f2 HRa HFa cvx' cvo' a0 a1 a2 d0 d1 d2; go_wp2_with fail; go_roundw
          case rel => exact ⟨k + 1, n7, cap7, true, _, _, by omega, by have := hdm (by first | rfl | trivial); have := hn6.out; have := hn7.out; omega, rfl, rfl, by go_num, HZ, HR7, HB7, fun h => by cases h⟩
          case measure => simp [intOf]; omega
  ·obtain rfl : k = n := by omega
   have HQ' : Hid (putL (k0, t0, xs) (k0 == 0) cs = pre ++ (if d then [] else [(k0, t0, xs)])) := by
    show _ = _
    have h1 := HQ.out; rw [HNL.out, List.drop_length] at h1; rw [h1]; rfl
   clear HQ HIN
   cases d with
   | true =>
     have HF : Hid (PutOut w (putO cs (k0, t0, xs)) (.returned (.slice p5 m c5)) wr) := ⟨p5, m, c5, rfl, by rw [putO, HQ'.out]; simpa using HR.out.1, by rw [putO, HQ'.out]; simpa using HR.out.oin, HAL.out.trans (HB.out.mono (by omega))⟩
     go_wp2_with fail; go_ret; exact HF.out
   | false =>
     have a0 := (HB.out.cell (p := ⟨w.heap.size, 0, none⟩) (Nat.lt_succ_self _)).trans HA.out.1; have a1 := (HB.out.cell (p := ⟨w.heap.size, 1, none⟩) (Nat.lt_succ_self _)).trans HA.out.2.1; have a2 := (HB.out.cell (p := ⟨w.heap.size, 2, none⟩) (Nat.lt_succ_self _)).trans HA.out.2.2; have hab : Below wr.heap.size wr (wr.alloc (Obj.cells #[.slice q l cq, .int .i64 k0, .int .i64 t0] 94)) := (Below.refl _ _).alloc (Nat.le_refl _) _; have HRa := HR.out.below hab hBs; have HFa := ((HFO.out w0 (Below.refl _ _)).low HB.out).low (hab.mono hBs)
     have HRW : Hid (∀ kk, Value.ownBlock (.slice p5 m c5) = some kk → w.heap.size + 1 ≤ kk ∧ kk < wr.heap.size) := fun kk hkk => HR.out.row hkk
     have hBa : w.heap.size + 1 ≤ (wr.alloc (Obj.cells #[.slice q l cq, .int .i64 k0, .int .i64 t0] 94)).heap.size := by simp; omega
     clear hab; go_wp2_with (at_builtin; refine app_rowB _ rfl _ _ rfl (w.heap.size + 1) p5 m c5 pre rfl HRa hBa ⟨wr.heap.size, 0, none⟩ 1 rfl (k0, t0, q, l, cq) (k0, t0, xs) HFa (news_ro (Box3.of_block (t := 94) (heap_alloc_new _ _))) (by omega) ?_; intro g6 n6 cap6 w6 hrow6 hgrow6 hn6)
     have HF : Hid (PutOut w (putO cs (k0, t0, xs)) (.returned (.slice (some ⟨g6, 0, none⟩) n6 cap6)) w6) := ⟨_, n6, cap6, rfl, by rw [putO, HQ'.out]; simpa using hrow6.1, by rw [putO, HQ'.out]; simpa using hrow6.oin, (HAL.out.trans ((HB.out.alloc hBs _).mono (by omega))).grown hgrow6 (by simp; omega) (fun kk hkk => by have := HRW.out kk hkk; omega)⟩
     clear hrow6 hgrow6 hn6; go_wp2_with fail; go_ret; exact HF.out
end
end Go.Proofs.YtfgmenkoeflhaaaGreatDoor
