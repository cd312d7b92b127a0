/- Texts of CcJ, CcK, CcL. Own work of the verifier. -/
import Derived.Test.YtickbkcpcgmlmaaGreatDoorUqav
namespace Go.Proofs.YtickbkcpcgmlmaaGreatDoor
set_option maxRecDepth 100000
open Go Go.RowKit
set_option linter.unusedVariables false
set_option linter.unusedSimpArgs false
theorem mo_hed (C : List Int) (hC : C.length ≤ 2000) (f : Nat) (s : KS) (t : Tr) (a : Int) : Kmo s (hedK C f s t a) := by
 unfold hedK; split
 ·exact mo_get C hC f s _
 ·split
  ·exact Kmo.refl s
  ·exact mo_arg C hC _ _ _ _
theorem mo_gol (C : List Int) (hC : C.length ≤ 2000) (f : Nat) (s : KS) (t : Tr) (a : Int) : Kmo s (golK C f s t a) := by
 unfold golK; split
 ·exact mo_bld C hC f s t a
 ·exact mo_arg C hC _ _ _ _
theorem mo_alls (g : KS → Tr → Int → KS) (hg : ∀ s t r, Kmo s (g s t r)) : ∀ (ts : List Tr) (i : Int) (s : KS), Kmo s (alls g i s ts)
 | [], i, s => Kmo.refl s
 | t :: ts, i, s => (hg s t i).trans (mo_alls g hg ts (i + 1) _)
section
variable {Z : List Nat} {W0 w1 : World} {cb gb eb : Nat} {pc : Option Addr} {cc : Nat} {C : List Int} {s : KS} {w : World}
structure HR (Z : List Nat) (w1 : World) (cb gb eb : Nat) (pc : Option Addr) (cc : Nat) (C : List Int) (w : World) (wr : World) (s : KS) (m : Nat) (pa : Option Addr) (ma : Nat) (ra : List (Option Addr × Nat × Nat)) : Prop where
 st : MK Z w1 cb gb eb pc cc C s wr
 fr : FrX [cb, gb, eb] w wr
 row : wr.ownsRow w.heap.size 27 1 (.slice pa m ma) m (ra.map slV)
 hx : ∀ x ∈ [cb, gb, eb], x < w.heap.size
theorem HR.below {wr W : World} {m ma : Nat} {pa : Option Addr} {ra : List (Option Addr × Nat × Nat)} (h : HR Z w1 cb gb eb pc cc C w wr s m pa ma ra) (hb : Below wr.heap.size wr W) : HR Z w1 cb gb eb pc cc C w W s m pa ma ra := ⟨h.st.below hb, h.fr.below hb, row_below h.row hb, h.hx⟩
theorem HR.arg {wr W : World} {s2 : KS} {m ma : Nat} {pa : Option Addr} {ra : List (Option Addr × Nat × Nat)} (h : HR Z w1 cb gb eb pc cc C w wr s m pa ma ra) (hm : MK Z w1 cb gb eb pc cc C s2 W) (hf : FrX [cb, gb, eb] wr W) : HR Z w1 cb gb eb pc cc C w W s2 m pa ma ra := ⟨hm, h.fr.trans hf, hf.row h.row (by decide) h.hx, h.hx⟩
theorem varK_hed (C : List Int) (f : Nat) (s : KS) (k2 : Int) (tx : List Int) (kt : Fo) (a : Int) : varK C s k2.toNat a (-1) 0 1 = hedK C f s ((0, k2, tx), kt) a := by
 by_cases h0 : C.getD k2.toNat 0 = 0
 ·have e1 : varK C s k2.toNat a (-1) 0 1 = s := by unfold varK; rw [if_pos h0, if_neg (by decide)]
  have e2 : hedK C f s ((0, k2, tx), kt) a = s := by
   unfold hedK vcl
   rw [if_neg (show ¬ ((0 : Int) = 3) by decide), if_pos ⟨rfl, h0⟩]
  rw [e1, e2]
 ·have e2 : hedK C f s ((0, k2, tx), kt) a = argK C getJ s (0, k2, tx) a := by
   unfold hedK
   rw [if_neg (show ¬ ((0 : Int) = 3) by decide), if_neg (fun h => h0 h.2)]
  rw [e2]
  unfold varK argK vcl
  rw [if_neg h0, if_pos rfl, if_neg h0]
  rfl
set_option maxHeartbeats 4000000 in
theorem l9head_any (E : CEnv w1 cb gb eb pc cc C) (hB : CBase W0 w1 cb gb eb) (h : MK Z w1 cb gb eb pc cc C s w) (t : Tr) (p : Option Addr) (n c : Nat) (hti : TI W0 p n c t) (hg : TG C.length t) (f : Nat) (hf : 5000 ≤ f) (hM : (alls (hedK C f) 0 s (trs t.2)).out.length ≤ 700000000 ∧ (alls (hedK C f) 0 s (trs t.2)).nx ≤ 700000000) :
  Calls Tryz.prog 19 #[ptrK cb, .slice p n c] w (KUnit Z w1 cb gb eb pc cc C w (alls (hedK C f) 0 s (trs t.2))) := by
 obtain ⟨F, eF⟩ : ∃ F, F = alls (hedK C f) 0 s (trs t.2) := ⟨_, rfl⟩
 rw [← eF] at hM ⊢
 have hX : ∀ x ∈ [cb, gb, eb], x < w.heap.size := fun x hx => Nat.lt_of_lt_of_le (h.lt x hx) h.sty.size
 have hxk : (trs t.2).length ≤ 2000 := by have := Fo.count_le t.2; rw [trs_len]; have := hg.sz; omega
 have HAR := l2argsG_any hti (h.base hB) (by have := hti.1; have := hg.sz; omega) hg.ok
 have HEE : Hid (CEnv w1 cb gb eb pc cc C ∧ CBase W0 w1 cb gb eb ∧ (∀ x ∈ [cb, gb, eb], x < w.heap.size)) := ⟨E, hB, hX⟩
 have HFF : Hid (alls (hedK C f) 0 s (trs t.2) = F ∧ (F.out.length ≤ 700000000 ∧ F.nx ≤ 700000000)) := ⟨eF.symm, hM⟩
 have HTT : Hid (TG C.length t) := hg; have HMK : Hid (MK Z w1 cb gb eb pc cc C s w) := h; clear h E hB hti hg hM eF hX
 go_enter Tryz.func19, Tryz.ntmps19
 go_wp2_with fail; refine HAR.mono ?_; rintro e W2 ⟨pa, m, ma, ra, rfl, hm2, hrow2, harg2, hb2⟩
 have hmm : m ≤ 2000 := by omega
 have HBR : Hid (HR Z w1 cb gb eb pc cc C w W2 s m pa ma ra) := ⟨HMK.out.below hb2, FrX.of _ hb2, hrow2, HEE.out.2.2⟩
 have HAG : Hid (ArgRowU W0 ra (trs t.2) ∧ m = (trs t.2).length) := ⟨harg2, hm2⟩
 clear HAR hrow2 harg2 hm2 hb2 HMK; go_wp2_with fail
 go_loopw [5] (fun iv wr => ∃ (j : Nat) (s2 : KS), j ≤ m ∧ iv = .int .i64 j ∧ Hid (HR Z w1 cb gb eb pc cc C w wr s2 m pa ma ra ∧ alls (hedK C f) j s2 ((trs t.2).drop j) = F)) (fun iv _ => m - (intOf iv).toNat)
 case atStart => exact ⟨0, s, Nat.zero_le _, by go_num, HBR.out, by rw [List.drop_zero]; exact HFF.out.1⟩
 case round =>
  obtain ⟨j, s2, hjm, rfl, HI⟩ := hrel; clear HBR
  by_cases hj : j < m
  ·have hil : j < (trs t.2).length := by have := HAG.out.2; omega
   obtain ⟨x, ex⟩ : ∃ x, (trs t.2)[j]? = some x := ⟨_, List.getElem?_eq_getElem hil⟩
   have htg := HTT.out.kid (List.mem_of_getElem? ex); have hdr := drop_trs ex; obtain ⟨ga, b5, o5, rn, rc, q5, q5c, hpa, yr, hti, hrn5, HX⟩ := arg_atK HAG.out.1 ex HI.out.1.row hj (HI.out.1.st.base HEE.out.2.1); subst hpa; obtain ⟨⟨d0, d1, d2⟩, d3⟩ := HX wr (HI.out.1.st.base HEE.out.2.1)
   have HKI : Hid (alls (hedK C f) ((j + 1 : Nat) : Int) (hedK C f s2 x j) ((trs t.2).drop (j + 1)) = F ∧ s2.out.length ≤ 700000000 ∧ s2.nx ≤ 700000000) := by
    have h1 := HI.out.2; rw [hdr] at h1
    unfold alls at h1
    have h4 := mo_alls (hedK C f) (mo_hed C HEE.out.1.len f) ((trs t.2).drop (j + 1)) ((j : Int) + 1) (hedK C f s2 x j); have h5 := mo_hed C HEE.out.1.len f s2 x j; rw [h1] at h4; have h6 := HFF.out.2
    unfold Kmo at h4 h5
    exact ⟨h1, by omega, by omega⟩
   have HBV : Hid (∀ o, HR Z w1 cb gb eb pc cc C w (wr.alloc o) s2 m (some ⟨ga, 0, none⟩) ma ra) := fun o => HI.out.1.below (new_lowK _ _)
   have hbo := HKI.out.2; obtain ⟨⟨k1, k2, tx⟩, kt⟩ := x; simp only at d0 d1 d2 d3
   by_cases hk0 : k1 = 0
   ·subst hk0
    have hv0 : 0 ≤ k2 ∧ k2 < (C.length : Int) := htg.vr (0, k2, tx) (List.mem_cons_self ..) rfl
    obtain ⟨v, ev⟩ : ∃ v : Nat, (v : Int) = k2 := ⟨k2.toNat, by omega⟩
    have HV : Hid (Calls Tryz.prog 47 #[ptrK cb, .int .i64 k2, .int .i64 j, .int .i64 (-1), .int .i64 0, .int .i64 1] (wr.alloc (.cells #[.int .i64 0, .int .i64 k2, .slice q5 tx.length q5c] 52)) fun e W6 => e = .returned (.tuple #[]) ∧ HR Z w1 cb gb eb pc cc C w W6 (hedK C f s2 ((0, k2, tx), kt) j) m (some ⟨ga, 0, none⟩) ma ra) := by
     have h1 := l9var_any HEE.out.1 (HBV.out (.cells #[.int .i64 0, .int .i64 k2, .slice q5 tx.length q5c] 52)).st v (by omega) j (-1) 0 1 (by omega) (by omega) (by omega)
     have h2 : varK C s2 v j (-1) 0 1 = hedK C f s2 ((0, k2, tx), kt) j := by
      rw [← varK_hed C f s2 k2 tx kt j]
      congr 1
      omega
     rw [h2, ev] at h1
     exact h1.mono fun e W6 ⟨a1, a2, a3⟩ => ⟨a1, (HBV.out _).arg a2 a3⟩
    clear HBV htg hdr hti HX d3 ex ev hv0 HI; go_wp2_with fail; refine HV.out.mono ?_; rintro e W6 ⟨rfl, hb6⟩; have HB6 : Hid _ := hb6; clear HV hb6; go_wp2_with fail; go_roundw
    case rel => exact ⟨j + 1, _, by omega, by go_num, HB6.out, HKI.out.1⟩
    case measure => (simp [intOf] <;> omega)
   ·by_cases hk3 : k1 = 3
    ·subst hk3
     have HV : Hid (Calls Tryz.prog 48 #[ptrK cb, .slice (some ⟨b5, o5, none⟩) rn rc, .int .i64 j] (wr.alloc (.cells #[.int .i64 3, .int .i64 k2, .slice q5 tx.length q5c] 52)) fun e W6 => e = .returned (.tuple #[]) ∧ HR Z w1 cb gb eb pc cc C w W6 (hedK C f s2 ((3, k2, tx), kt) j) m (some ⟨ga, 0, none⟩) ma ra) := by
      have hsz : twK ((3, k2, tx), kt) ≤ 4001 := by have := htg.sz; unfold twK; simp only at *; omega
      have h1 := l9get_any HEE.out.1 HEE.out.2.1 (HBV.out (.cells #[.int .i64 3, .int .i64 k2, .slice q5 tx.length q5c] 52)).st ((3, k2, tx), kt) (some ⟨b5, o5, none⟩) rn rc hti rfl htg j 800000000 f (Nat.le_refl _) (by omega) (by omega) (by omega)
      have h2 : getK C f s2 [(((3, k2, tx), kt), (j : Int))] = hedK C f s2 ((3, k2, tx), kt) j := by unfold hedK; rw [if_pos rfl]
      rw [h2] at h1
      exact h1.mono fun e W6 ⟨a1, a2, a3⟩ => ⟨a1, (HBV.out _).arg a2 a3⟩
     have yr' : (wr.alloc (.cells #[.int .i64 3, .int .i64 k2, .slice q5 tx.length q5c] 52)).cell? ⟨ga, j, none⟩ = some (.slice (some ⟨b5, o5, none⟩) rn rc) := ((new_lowK wr _).cell (World.block_lt_of_cell? _ _ yr)).trans yr; clear HBV htg hdr hti HX d3 ex HI; go_wp2_with fail; refine HV.out.mono ?_; rintro e W6 ⟨rfl, hb6⟩; have HB6 : Hid _ := hb6; clear HV hb6 yr'; go_wp2_with fail; go_roundw
     case rel => exact ⟨j + 1, _, by omega, by go_num, HB6.out, HKI.out.1⟩
     case measure => (simp [intOf] <;> omega)
    ·have HV : Hid (Calls Tryz.prog 21 #[ptrK cb, .int .i64 2, .int .i64 0, .int .i64 j, celV (k1, k2, tx) q5 q5c] (wr.alloc (.cells #[.int .i64 k1, .int .i64 k2, .slice q5 tx.length q5c] 52)) fun e W6 => e = .returned (.tuple #[]) ∧ HR Z w1 cb gb eb pc cc C w W6 (hedK C f s2 ((k1, k2, tx), kt) j) m (some ⟨ga, 0, none⟩) ma ra) := by
      have h1 := l9emitC_any HEE.out.1 (HBV.out (.cells #[.int .i64 k1, .int .i64 k2, .slice q5 tx.length q5c] 52)).st 2 0 j (k1, k2, tx) q5 q5c (d3.below (new_lowK _ _)) htg.text (by omega)
      have h2 : s2.put (insC 2 0 j (k1, k2, tx)) = hedK C f s2 ((k1, k2, tx), kt) j := by unfold hedK argK; rw [if_neg hk3, if_neg (fun h => hk0 h.1), if_neg hk0]; rfl
      rw [h2] at h1
      exact h1.mono fun e W6 ⟨a1, a2, a3⟩ => ⟨a1, (HBV.out _).arg a2 a3⟩
     clear HBV htg hdr hti HX d3 ex HI; go_wp2_with fail; refine HV.out.mono ?_; rintro e W6 ⟨rfl, hb6⟩; have HB6 : Hid _ := hb6; clear HV hb6; go_wp2_with fail; go_roundw
     case rel => exact ⟨j + 1, _, by omega, by go_num, HB6.out, HKI.out.1⟩
     case measure => (simp [intOf] <;> omega)
  ·obtain rfl : j = m := by omega
   have HEND : Hid (KUnit Z w1 cb gb eb pc cc C w F (.returned (.tuple #[])) wr) := by
    have h1 := HI.out.2; rw [List.drop_of_length_le (by have := HAG.out.2; omega)] at h1; have h2 : s2 = F := h1; rw [← h2]; exact ⟨rfl, HI.out.1.st, HI.out.1.fr⟩
   clear HI; go_wp2_with fail
   go_end0
   exact HEND.out
end
theorem below_setK {B : Nat} {w w' : World} (h : Below B w w') {q : Nat} (hq : B ≤ q) (o : Nat) (v : Value) : Below B w (w'.setCell ⟨q, o, none⟩ v) := ⟨h.os, h.tape, h.output, by simpa using h.size, fun j hj => (Below.heap_setCell _ _ _ _ (by show j ≠ q; omega)).trans (h.block j hj)⟩
def putCK (w : World) (R : Nat) (a b c : Value) : World := ((w.setCell ⟨R, 0, none⟩ a).setCell ⟨R, 1, none⟩ b).setCell ⟨R, 2, none⟩ c
theorem putCK_below {B : Nat} {w w' : World} (h : Below B w w') {R : Nat} (hR : B ≤ R) (a b c : Value) : Below B w (putCK w' R a b c) := below_setK (below_setK (below_setK h hR _ _) hR _ _) hR _ _
theorem resC {V : World} {R : Nat} {a b c : Value} {t : TypeId} (h : V.heap[R]? = some (.cells #[a, b, c] t)) : V.cell? ⟨R, 0, none⟩ = some a ∧ V.cell? ⟨R, 1, none⟩ = some b ∧ V.cell? ⟨R, 2, none⟩ = some c ∧ V.frozen? ⟨R, 0, none⟩ = false ∧ V.frozen? ⟨R, 1, none⟩ = false ∧ V.frozen? ⟨R, 2, none⟩ = false := by
 simp [World.cell?, World.frozen?, h]
theorem setC3 {W : World} {R : Nat} {x y z : Value} (h0 : W.cell? ⟨R, 0, none⟩ = some x) (h1 : W.cell? ⟨R, 1, none⟩ = some y) (h2 : W.cell? ⟨R, 2, none⟩ = some z) (a b c : Value) : (putCK W R a b c).cell? ⟨R, 0, none⟩ = some a ∧ (putCK W R a b c).cell? ⟨R, 1, none⟩ = some b ∧ (putCK W R a b c).cell? ⟨R, 2, none⟩ = some c := by
 unfold putCK
 refine ⟨?_, ?_, ?_⟩
 ·rw [World.cell?_setCell_other _ _ _ _ (by simp), World.cell?_setCell_other _ _ _ _ (by simp)]
  exact World.cell?_setCell_same' _ _ _ (by rw [h0]; rfl)
 ·rw [World.cell?_setCell_other _ _ _ _ (by simp)]
  exact World.cell?_setCell_same' _ _ _ (by rw [World.cell?_setCell_other _ _ _ _ (by simp), h1]; rfl)
 ·exact World.cell?_setCell_same' _ _ _ (by rw [World.cell?_setCell_other _ _ _ _ (by simp), World.cell?_setCell_other _ _ _ _ (by simp), h2]; rfl)
def NmOK (t : Tr) (w : World) (e : Ending) (w' : World) : Prop := ∃ tp tc, e = .returned (celV (namC t.1) tp tc) ∧ BIn w' tp t.1.2.2 ∧ Below w.heap.size w w'
set_option maxHeartbeats 2000000 in
theorem l9name_any {w : World} {q : Option Addr} {n c : Nat} {t : Tr} (h : TI w q n c t) (hn : n ≤ 1000000) (hok : t.fo.ok) (hcal : calC t.1 = true) : Calls Tryz.prog 22 #[.slice q n c] w (NmOK t w) := by
 obtain ⟨bt, ot, qt, qtc, rfl, d0, d1, d2, d3⟩ := h.head
 have hrn : 0 < n ∧ n ≤ c ∧ c ≤ 9223372036854775807 := ⟨by have := h.1; omega, h.2.1, h.2.2.1⟩
 obtain ⟨W, eW⟩ : ∃ W, W = (w.alloc (.cells #[.int .i64 0, .int .i64 0, .slice none 0 0] 52)).drew := ⟨_, rfl⟩
 have hW : Below w.heap.size w W := by rw [eW]; exact below_drewK (new_lowK w _)
 have HAR : Hid (Calls Tryz.prog 16 #[.slice (some ⟨bt, ot, none⟩) n c] W fun e w' => e = .returned (.int .i64 (fA t.1)) ∧ w' = W) := arity_any (h.below hW) hn
 have hbx : W.heap[w.heap.size]? = some (.cells #[.int .i64 0, .int .i64 0, .slice none 0 0] 52) := by rw [eW]; exact heap_alloc_new w _
 obtain ⟨g0, g1, g2, z0, z1, z2⟩ := resC hbx; have hlt : w.heap.size < W.heap.size := World.block_lt_of_cell? _ _ g0
 have hS0 : W.cell? ⟨bt, ot, none⟩ = some (.int .i64 t.1.1) ∧ W.cell? ⟨bt, ot + 2, none⟩ = some (.slice qt t.1.2.2.length qtc) := ⟨(hW.cell (World.block_lt_of_cell? _ _ d0)).trans d0, (hW.cell (World.block_lt_of_cell? _ _ d2)).trans d2⟩
 have hbt : bt < w.heap.size := World.block_lt_of_cell? _ _ d0
 have hSP : ∀ a b c : Value, (putCK W w.heap.size a b c).cell? ⟨bt, ot, none⟩ = some (.int .i64 t.1.1) ∧ (putCK W w.heap.size a b c).cell? ⟨bt, ot + 2, none⟩ = some (.slice qt t.1.2.2.length qtc) := fun a b c => by
  have hp := putCK_below hW (Nat.le_refl _) a b c; exact ⟨(hp.cell (World.block_lt_of_cell? _ _ d0)).trans d0, (hp.cell (World.block_lt_of_cell? _ _ d2)).trans d2⟩
 have HSP : Hid _ := hSP
 have efa : (namC t.1) = (t.1.1, fA t.1, t.1.2.2) := by unfold namC fA; rfl
 have HF : Hid (NmOK t w (.returned (.agg #[.int .i64 t.1.1, .int .i64 (fA t.1), .slice qt t.1.2.2.length qtc])) (putCK W w.heap.size (.int .i64 t.1.1) (.int .i64 (fA t.1)) (.slice qt t.1.2.2.length qtc))) := ⟨qt, qtc, by rw [efa], d3.below (putCK_below hW (Nat.le_refl _) _ _ _), putCK_below hW (Nat.le_refl _) _ _ _⟩
 have HA3 : Hid _ := setC3 g0 g1 g2 (.int .i64 t.1.1) (.int .i64 (fA t.1)) (.slice qt t.1.2.2.length qtc); have HW : Hid (W = (w.alloc (.cells #[.int .i64 0, .int .i64 0, .slice none 0 0] 52)).drew) := eW
 generalize t.1.1 = k1 at *
 generalize fA t.1 = k2 at *
 generalize t.1.2.2.length = tl at *
 clear h hok hcal eW hW hbx d0 d1 d2 d3 hn efa hSP
 go_enter Tryz.func22, Tryz.ntmps22
 go_wp2_with fail; refine wp_region_held_drew (S := fun W => W.cell? ⟨bt, ot, none⟩ = some (.int .i64 k1) ∧ W.cell? ⟨bt, ot + 2, none⟩ = some (.slice qt tl qtc)) (by kernel_rfl) (by rw [← HW.out]; exact hS0) (fun hHeld => ?_); rw [← HW.out]; clear hHeld; refine hTk (i := 0) (v := .slice (some ⟨bt, ot, none⟩) n c) (some 3) (fun o ho W hSw => ?y0) (by assumption) ?_
 case y0 => cases ho; simp [execOp, go_sem, Act.eval]
 simp only [Act.put, zzA, zzB, zzC]; refine hTk (i := 1) (v := .pointer (some ⟨bt, ot, none⟩)) (some 4) (fun o ho W hSw => ?y1) (by assumption) ?_
 case y1 => cases ho; simp [execOp, go_sem, Act.eval, hrn]
 simp only [Act.put, zzA, zzB, zzC]; refine hTk (i := 2) (v := .pointer (some ⟨bt, ot, none⟩)) (some 5) (fun o ho W hSw => ?y2) (by assumption) ?_
 case y2 => cases ho; simp [execOp, go_sem, Act.eval]
 simp only [Act.put, zzA, zzB, zzC]; refine hTk (i := 3) (v := .int .i64 k1) (some 6) (fun o ho W hSw => ?y3) (by assumption) ?_
 case y3 => cases ho; obtain ⟨s1, s2⟩ := hSw; simp [execOp, go_sem, Act.eval, s1]
 simp only [Act.put, zzA, zzB, zzC]; refine hTk (i := 4) (v := .slice (some ⟨bt, ot, none⟩) n c) (some 7) (fun o ho W hSw => ?y4) (by assumption) ?_
 case y4 => cases ho; simp [execOp, go_sem, Act.eval]
 simp only [Act.put, zzA, zzB, zzC]; refine hTk (i := 6) (v := .slice (some ⟨bt, ot, none⟩) n c) (some 9) (fun o ho W hSw => ?y5) (by assumption) ?_
 case y5 => cases ho; simp [execOp, go_sem, Act.eval]
 simp only [Act.put, zzA, zzB, zzC]; refine hTk (i := 7) (v := .pointer (some ⟨bt, ot, none⟩)) (some 10) (fun o ho W hSw => ?y6) (by assumption) ?_
 case y6 => cases ho; simp [execOp, go_sem, Act.eval, hrn]
 simp only [Act.put, zzA, zzB, zzC]; refine hTk (i := 8) (v := .pointer (some ⟨bt, ot + 2, none⟩)) (some 11) (fun o ho W hSw => ?y7) (by assumption) ?_
 case y7 => cases ho; simp [execOp, go_sem, Act.eval]
 simp only [Act.put, zzA, zzB, zzC]; refine hTk (i := 9) (v := .slice qt tl qtc) (some 12) (fun o ho W hSw => ?y8) (by assumption) ?_
 case y8 => cases ho; obtain ⟨s1, s2⟩ := hSw; simp [execOp, go_sem, Act.eval, s2]
 simp only [Act.put, zzA, zzB, zzC]; refine hCallE (i := 5) (f := 16) (args := #[.slice (some ⟨bt, ot, none⟩) n c]) (some 8) (by kernel_rfl) (by kernel_rfl) (by kernel_rfl) (fun o ho => ?c9) HAR.out ?k9 (fun ch w' hh => by cases hh.1) (fun w' hh => by cases hh.1)
 case c9 => cases ho; simp [execOp, go_sem, Act.eval]
 case k9 =>
  rintro u W2 ⟨eq, eW2⟩
  cases eq
  subst eW2; refine ⟨hS0, ?_⟩; simp only [Act.put, zzA, zzB, zzC]; refine hTk (i := 10) (v := .agg #[.int .i64 k1, .int .i64 k2, .slice qt tl qtc]) (some 13) (fun o ho W hSw => ?y10) (by assumption) ?_
  case y10 => cases ho; simp [execOp, go_sem, Act.eval]
  simp only [Act.put, zzA, zzB, zzC]; refine hStore (i := 11) (w' := putCK W2 w.heap.size (.int .i64 k1) (.int .i64 k2) (.slice qt tl qtc)) (by kernel_rfl) (by kernel_rfl) (by kernel_rfl) (fun o ho => ?ys) (HSP.out _ _ _) ?_
  case ys => cases ho; simp [execOp, go_sem, Act.eval, g0, g1, g2, z0, z1, z2, putCK]
  refine wpAnyH_done (by kernel_rfl) ?_ _
  change Exit.then _ _ _ _ (putCK W2 w.heap.size (.int .i64 k1) (.int .i64 k2) (.slice qt tl qtc))
  obtain ⟨a0, a1, a2⟩ := HA3.out; go_wp2_with fail; refine bodyPost_ret (v := .agg #[.int .i64 k1, .int .i64 k2, .slice qt tl qtc]) (by simp [results, Tryz.results22, go_sem, a0, a1, a2]) rfl ?_; exact HF.out
def golM (C : List Int) (f : Nat) (s : KS) (g : Tr) : KS :=
 if spcC g.1 = true then (choK C s (kid0 g).1).2.put (insN (spcO g.1) (choK C s (kid0 g).1).1 0)
 else if buC g.1 = true then (alls (golK C f) 0 s (trs g.2)).put (insC 22 0 0 (namC g.1)) else alls (golK C f) 0 s (trs g.2)
section
variable {Z : List Nat} {W0 w1 : World} {cb gb eb : Nat} {pc : Option Addr} {cc : Nat} {C : List Int} {s : KS} {w : World}
set_option maxHeartbeats 4000000 in
theorem l9goalA_any (E : CEnv w1 cb gb eb pc cc C) (hB : CBase W0 w1 cb gb eb) (h : MK Z w1 cb gb eb pc cc C s w) (t : Tr) (p : Option Addr) (n c : Nat) (hti : TI W0 p n c t) (hg : TG C.length t) (hgd : calC t.1 = true) (hsp : spcC t.1 = false) (f : Nat) (hf : 5000 ≤ f) (hM : (alls (golK C f) 0 s (trs t.2)).out.length ≤ 700000000 ∧ (alls (golK C f) 0 s (trs t.2)).nx ≤ 700000000) :
  Calls Tryz.prog 20 #[ptrK cb, .slice p n c] w (KUnit Z w1 cb gb eb pc cc C w (golM C f s t)) := by
 obtain ⟨F, eF⟩ : ∃ F, F = alls (golK C f) 0 s (trs t.2) := ⟨_, rfl⟩
 have eM : golM C f s t = if buC t.1 = true then F.put (insC 22 0 0 (namC t.1)) else F := by unfold golM; rw [hsp, ← eF]; simp
 obtain ⟨R, eR⟩ : ∃ R, R = golM C f s t := ⟨_, rfl⟩
 rw [← eR] at eM ⊢; have HRR : Hid (R = if buC t.1 = true then F.put (insC 22 0 0 (namC t.1)) else F) := eM; rw [← eF] at hM
 have hX : ∀ x ∈ [cb, gb, eb], x < w.heap.size := fun x hx => Nat.lt_of_lt_of_le (h.lt x hx) h.sty.size
 have hxk : (trs t.2).length ≤ 2000 := by have := Fo.count_le t.2; rw [trs_len]; have := hg.sz; omega
 have HAR := l2argsG_any hti (h.base hB) (by have := hti.1; have := hg.sz; omega) hg.ok
 have HEE : Hid (CEnv w1 cb gb eb pc cc C ∧ CBase W0 w1 cb gb eb ∧ (∀ x ∈ [cb, gb, eb], x < w.heap.size)) := ⟨E, hB, hX⟩
 have HFF : Hid (alls (golK C f) 0 s (trs t.2) = F ∧ (F.out.length ≤ 700000000 ∧ F.nx ≤ 700000000)) := ⟨eF.symm, hM⟩
 have HTT : Hid (TG C.length t) := hg; have HMK : Hid (MK Z w1 cb gb eb pc cc C s w) := h; have HSP := special_any (hti.below (h.base hB)) hg.ok.2.1; rw [hsp] at HSP
 have hn2 : n ≤ 2000 := by have := hti.1; have := hg.sz; omega
 have HIN : Hid (∀ W, Below W0.heap.size W0 W → Calls Tryz.prog 17 #[.slice p n c] W fun e w' => e = .returned (.bool (buC t.1)) ∧ Below W.heap.size W w') := fun W hW => by
  have h1 := inline_any (hti.below hW) (by omega) hg.ok hgd
  have h2 : inlG t = buC t.1 := by unfold inlG; rw [hsp]; rfl
  rwa [h2] at h1
 have HNA : Hid (∀ W, Below W0.heap.size W0 W → Calls Tryz.prog 22 #[.slice p n c] W (NmOK t W)) := fun W hW => l9name_any (hti.below hW) (by omega) hg.ok hgd
 clear h E hB hti hg hM eF hX eM hsp hgd eR
 go_enter Tryz.func20, Tryz.ntmps20
 go_wp2_with fail; refine HSP.mono ?_; rintro e W1 ⟨rfl, hW1⟩; rw [hW1]; clear hW1; clear HSP; go_wp2_with fail; refine HAR.mono ?_; rintro e W2 ⟨pa, m, ma, ra, rfl, hm2, hrow2, harg2, hb2⟩
 have hmm : m ≤ 2000 := by omega
 have HBR : Hid (HR Z w1 cb gb eb pc cc C w W2 s m pa ma ra) := ⟨HMK.out.below hb2, FrX.of _ hb2, hrow2, HEE.out.2.2⟩
 have HAG : Hid (ArgRowU W0 ra (trs t.2) ∧ m = (trs t.2).length) := ⟨harg2, hm2⟩
 clear HAR hrow2 harg2 hm2 hb2 HMK; go_wp2_with fail
 go_loopw [7] (fun iv wr => ∃ (j : Nat) (s2 : KS), j ≤ m ∧ iv = .int .i64 j ∧ Hid (HR Z w1 cb gb eb pc cc C w wr s2 m pa ma ra ∧ alls (golK C f) j s2 ((trs t.2).drop j) = F)) (fun iv _ => m - (intOf iv).toNat)
 case atStart => exact ⟨0, s, Nat.zero_le _, by go_num, HBR.out, by rw [List.drop_zero]; exact HFF.out.1⟩
 case round =>
  obtain ⟨j, s2, hjm, rfl, HI⟩ := hrel; clear HBR
  by_cases hj : j < m
  ·have hil : j < (trs t.2).length := by have := HAG.out.2; omega
   obtain ⟨x, ex⟩ : ∃ x, (trs t.2)[j]? = some x := ⟨_, List.getElem?_eq_getElem hil⟩
   have htg := HTT.out.kid (List.mem_of_getElem? ex); have hdr := drop_trs ex; obtain ⟨ga, b5, o5, rn, rc, q5, q5c, hpa, yr, hti, hrn5, HX⟩ := arg_atK HAG.out.1 ex HI.out.1.row hj (HI.out.1.st.base HEE.out.2.1); subst hpa; obtain ⟨⟨d0, d1, d2⟩, d3⟩ := HX wr (HI.out.1.st.base HEE.out.2.1)
   have HKI : Hid (alls (golK C f) ((j + 1 : Nat) : Int) (golK C f s2 x j) ((trs t.2).drop (j + 1)) = F ∧ s2.out.length ≤ 700000000 ∧ s2.nx ≤ 700000000) := by
    have h1 := HI.out.2; rw [hdr] at h1
    unfold alls at h1
    have h4 := mo_alls (golK C f) (mo_gol C HEE.out.1.len f) ((trs t.2).drop (j + 1)) ((j : Int) + 1) (golK C f s2 x j); have h5 := mo_gol C HEE.out.1.len f s2 x j; rw [h1] at h4; have h6 := HFF.out.2
    unfold Kmo at h4 h5
    exact ⟨h1, by omega, by omega⟩
   have HBV : Hid (∀ o, HR Z w1 cb gb eb pc cc C w (wr.alloc o) s2 m (some ⟨ga, 0, none⟩) ma ra) := fun o => HI.out.1.below (new_lowK _ _)
   have HKB : Hid ((golK C f s2 x j).out.length ≤ 800000000 ∧ (golK C f s2 x j).nx ≤ 800000000) := by
    have h1 := HKI.out.1; have h4 := mo_alls (golK C f) (mo_gol C HEE.out.1.len f) ((trs t.2).drop (j + 1)) ((j + 1 : Nat) : Int) (golK C f s2 x j); rw [h1] at h4; have h6 := HFF.out.2
    unfold Kmo at h4
    exact ⟨by omega, by omega⟩
   have hbo := HKI.out.2; obtain ⟨⟨k1, k2, tx⟩, kt⟩ := x; simp only at d0 d1 d2 d3
   by_cases hk0 : k1 = 0
   ·subst hk0
    have hv0 : 0 ≤ k2 ∧ k2 < (C.length : Int) := htg.vr (0, k2, tx) (List.mem_cons_self ..) rfl
    obtain ⟨v, ev⟩ : ∃ v : Nat, (v : Int) = k2 := ⟨k2.toNat, by omega⟩
    have HV : Hid (Calls Tryz.prog 47 #[ptrK cb, .int .i64 k2, .int .i64 j, .int .i64 11, .int .i64 8, .int .i64 9] (wr.alloc (.cells #[.int .i64 0, .int .i64 k2, .slice q5 tx.length q5c] 52)) fun e W6 => e = .returned (.tuple #[]) ∧ HR Z w1 cb gb eb pc cc C w W6 (golK C f s2 ((0, k2, tx), kt) j) m (some ⟨ga, 0, none⟩) ma ra) := by
     have h1 := l9var_any HEE.out.1 (HBV.out (.cells #[.int .i64 0, .int .i64 k2, .slice q5 tx.length q5c] 52)).st v (by omega) j 11 8 9 (by omega) (by omega) (by omega)
     have h2 : varK C s2 v j 11 8 9 = golK C f s2 ((0, k2, tx), kt) j := by
      have := varK_arg C putJ s2 (0, k2, tx) j rfl (by decide)
      unfold golK
      rw [if_neg (show ¬ ((0 : Int) = 3) by decide), ← this]
      show _ = varK C s2 k2.toNat j 11 8 9
      congr 1
      omega
     rw [h2, ev] at h1
     exact h1.mono fun e W6 ⟨a1, a2, a3⟩ => ⟨a1, (HBV.out _).arg a2 a3⟩
    clear HBV htg hdr hti HX d3 ex ev hv0 HI; go_wp2_with fail; refine HV.out.mono ?_; rintro e W6 ⟨rfl, hb6⟩; have HB6 : Hid _ := hb6; clear HV hb6; go_wp2_with fail; go_roundw
    case rel => exact ⟨j + 1, _, by omega, by go_num, HB6.out, HKI.out.1⟩
    case measure => (simp [intOf] <;> omega)
   ·by_cases hk3 : k1 = 3
    ·subst hk3
     have HV : Hid (Calls Tryz.prog 50 #[ptrK cb, .slice (some ⟨b5, o5, none⟩) rn rc, .int .i64 j] (wr.alloc (.cells #[.int .i64 3, .int .i64 k2, .slice q5 tx.length q5c] 52)) fun e W6 => e = .returned (.tuple #[]) ∧ HR Z w1 cb gb eb pc cc C w W6 (golK C f s2 ((3, k2, tx), kt) j) m (some ⟨ga, 0, none⟩) ma ra) := by
      have hsz : kt.cells.length < f := by have := htg.sz; simp only at this; omega
      have h2 : bldK C f s2 ((3, k2, tx), kt) (j : Int) = golK C f s2 ((3, k2, tx), kt) j := by unfold golK; rw [if_pos rfl]
      have h1 := l9build_all HEE.out.1 HEE.out.2.1 f Z s2 _ ((3, k2, tx), kt) (some ⟨b5, o5, none⟩) rn rc j (HBV.out (.cells #[.int .i64 3, .int .i64 k2, .slice q5 tx.length q5c] 52)).st hti rfl htg hsz (by rw [h2]; exact HKB.out); rw [h2] at h1
      exact h1.mono fun e W6 ⟨a1, a2, a3⟩ => ⟨a1, (HBV.out _).arg a2 a3⟩
     have yr' : (wr.alloc (.cells #[.int .i64 3, .int .i64 k2, .slice q5 tx.length q5c] 52)).cell? ⟨ga, j, none⟩ = some (.slice (some ⟨b5, o5, none⟩) rn rc) := ((new_lowK wr _).cell (World.block_lt_of_cell? _ _ yr)).trans yr; clear HBV htg hdr hti HX d3 ex HI; go_wp2_with fail; refine HV.out.mono ?_; rintro e W6 ⟨rfl, hb6⟩; have HB6 : Hid _ := hb6; clear HV hb6 yr'; go_wp2_with fail; go_roundw
     case rel => exact ⟨j + 1, _, by omega, by go_num, HB6.out, HKI.out.1⟩
     case measure => (simp [intOf] <;> omega)
    ·have HV : Hid (Calls Tryz.prog 21 #[ptrK cb, .int .i64 10, .int .i64 0, .int .i64 j, celV (k1, k2, tx) q5 q5c] (wr.alloc (.cells #[.int .i64 k1, .int .i64 k2, .slice q5 tx.length q5c] 52)) fun e W6 => e = .returned (.tuple #[]) ∧ HR Z w1 cb gb eb pc cc C w W6 (golK C f s2 ((k1, k2, tx), kt) j) m (some ⟨ga, 0, none⟩) ma ra) := by
      have h1 := l9emitC_any HEE.out.1 (HBV.out (.cells #[.int .i64 k1, .int .i64 k2, .slice q5 tx.length q5c] 52)).st 10 0 j (k1, k2, tx) q5 q5c (d3.below (new_lowK _ _)) htg.text (by omega)
      have h2 : s2.put (insC 10 0 j (k1, k2, tx)) = golK C f s2 ((k1, k2, tx), kt) j := by unfold golK argK; rw [if_neg hk3, if_neg hk0]; rfl
      rw [h2] at h1
      exact h1.mono fun e W6 ⟨a1, a2, a3⟩ => ⟨a1, (HBV.out _).arg a2 a3⟩
     clear HBV htg hdr hti HX d3 ex HI; go_wp2_with fail; refine HV.out.mono ?_; rintro e W6 ⟨rfl, hb6⟩; have HB6 : Hid _ := hb6; clear HV hb6; go_wp2_with fail; go_roundw
     case rel => exact ⟨j + 1, _, by omega, by go_num, HB6.out, HKI.out.1⟩
     case measure => (simp [intOf] <;> omega)
  ·obtain rfl : j = m := by omega
   have HEN : Hid (MK Z w1 cb gb eb pc cc C F wr ∧ FrX [cb, gb, eb] w wr) := by
    have h1 := HI.out.2; rw [List.drop_of_length_le (by have := HAG.out.2; omega)] at h1; have h2 : s2 = F := h1; rw [← h2]; exact ⟨HI.out.1.st, HI.out.1.fr⟩
   have HI2 := HIN.out wr (HEN.out.1.base HEE.out.2.1); clear HI
   cases hbu : buC t.1 with
   | false =>
     rw [hbu] at HI2
     have HR1 : Hid (R = F) := by have := HRR.out; rw [hbu] at this; exact this
     clear hbu HRR; go_wp2_with fail; refine HI2.mono ?_; rintro e W6 ⟨rfl, hb6⟩
     have HF6 : Hid (KUnit Z w1 cb gb eb pc cc C w R (.returned (.tuple #[])) W6) := by rw [HR1.out]; exact ⟨rfl, HEN.out.1.below hb6, HEN.out.2.below hb6⟩
     clear HI2 hb6; go_wp2_with fail
     go_end0
     exact HF6.out
   | true =>
     rw [hbu] at HI2
     have HR1 : Hid (R = F.put (insC 22 0 0 (namC t.1))) := by have := HRR.out; rw [hbu] at this; exact this
     clear hbu HRR; go_wp2_with fail; refine HI2.mono ?_; rintro e W6 ⟨rfl, hb6⟩
     have HM6 : Hid (MK Z w1 cb gb eb pc cc C F W6 ∧ FrX [cb, gb, eb] w W6) := ⟨HEN.out.1.below hb6, HEN.out.2.below hb6⟩
     have HN6 := HNA.out W6 (HM6.out.1.base HEE.out.2.1); clear HI2 hb6; go_wp2_with fail; refine HN6.mono ?_; rintro e W7 ⟨tp, tc, rfl, hbin, hb7⟩
     have HE7 : Hid (Calls Tryz.prog 21 #[ptrK cb, .int .i64 22, .int .i64 0, .int .i64 0, celV (namC t.1) tp tc] W7 (KUnit Z w1 cb gb eb pc cc C w (F.put (insC 22 0 0 (namC t.1))))) := by
      have h6 := HFF.out.2; refine (l9emitC_any HEE.out.1 (HM6.out.1.below hb7) 22 0 0 (namC t.1) tp tc hbin HTT.out.text (by omega)).mono ?_; rintro e W8 ⟨a1, a2, a3⟩; exact ⟨a1, a2, (HM6.out.2.below hb7).trans a3⟩
     clear HN6 hbin hb7 HM6; go_wp2_with fail; refine HE7.out.mono ?_; rintro e W8 ⟨rfl, hk⟩; have HK8 : Hid _ := hk; clear HE7 hk; go_wp2_with fail
     go_end0
     rw [HR1.out]; exact ⟨rfl, HK8.out⟩
end
end Go.Proofs.YtickbkcpcgmlmaaGreatDoor
