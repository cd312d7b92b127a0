/- Texts of CeF, CeG, CeH. Own work of the verifier. -/
import Derived.Test.YtickbkcpcgmlmaaGreatDoorUqbb
import Derived.Test.YtickbkcpcgmlmaaGreatDoorUqaw
namespace Go.Proofs.YtickbkcpcgmlmaaGreatDoor
set_option maxRecDepth 100000
open Go Go.RowKit Go.Maps
set_option linter.unusedVariables false
set_option linter.unusedSimpArgs false
theorem peArgs_atom (x : Value) (w : World) : Calls Tryz.prog 101 #[.iface 143 x] w fun e w' => e = .returned (.slice none 0 0) ∧ w' = w := by
 have n1 := nbA_atom_comp
 go_enter Tryz.func101, Tryz.ntmps101
 go_wp2_with fail; go_ret; exact ⟨rfl, rfl⟩
theorem peArgs_comp (b g q : Nat) (w : World) (h : w.cell? ⟨b, 1, none⟩ = some (.slice (some ⟨g, 0, none⟩) q q)) :
  Calls Tryz.prog 101 #[.iface 156 (.pointer (some ⟨b, 0, none⟩))] w fun e w' => e = .returned (.slice (some ⟨g, 0, none⟩) q q) ∧ w' = w := by
 have n1 := nbA_comp_comp
 go_enter Tryz.func101, Tryz.ntmps101
 go_wp2_with fail; go_ret; exact ⟨rfl, rfl⟩
def ArK (W0 : World) (p : Option Addr) (ts : List Tr) : Prop := ∀ (j : Nat) (x : Tr), ts[j]? = some x → ∃ g ty y, p = some ⟨g, 0, none⟩ ∧ W0.cell? ⟨g, j, none⟩ = some (.iface ty y) ∧ FoIn W0 0 x.fo [.iface ty y]
theorem argsK {W0 : World} {t : Tr} {v : Value} (hok : t.fo.ok) (hk : t.1.1 = 2 ∨ t.1.1 = 3) (hfo : FoIn W0 0 t.fo [v]) : ∃ p, ArK W0 p (trs t.2) ∧ ∀ W, Below W0.heap.size W0 W → Calls Tryz.prog 101 #[v] W fun e w' => e = .returned (.slice p (trs t.2).length (trs t.2).length) ∧ w' = W := by
 rcases hk with h2 | h3
 ·have hnil : t.2 = .nil := hok.2.2.2.1 (by rw [h2]; decide)
  obtain ⟨v', vr, e, hn, _⟩ := hfo; obtain ⟨rfl, rfl⟩ := List.cons.inj e
  have hv : v = .iface 143 (.string (strOfNums t.1.2.2)) := by
   rcases hn with ⟨h1, _⟩ | ⟨h1, _⟩ | ⟨h1, hv⟩ | ⟨h1, _⟩
   ·rw [h1] at h2; cases h2
   ·rw [h1] at h2; cases h2
   ·exact hv
   ·rw [h1] at h2; cases h2
  rw [hnil, hv]; exact ⟨none, fun j x hx => by simp [trs] at hx, fun W _ => peArgs_atom _ W⟩
 ·obtain ⟨b, g, rfl, c0, c1, ck⟩ := comp_of hfo h3
  refine ⟨some ⟨g, 0, none⟩, fun j x hx => ?_, fun W hW => peArgs_comp b g _ W ((hW.cell (World.block_lt_of_cell? _ _ c1)).trans c1)⟩; obtain ⟨ty, y, k1, k2⟩ := ck j x hx; exact ⟨g, ty, y, rfl, k1, k2⟩
section
variable {Z : List Nat} {W0 w1 : World} {kb pb rb : Nat} {pc : Option Addr} {cc : Nat} {C : List Int} {s : KS} {w : World}
theorem isVoid_any (E : CEnv w1 kb pb rb pc cc C) (h : PK Z w1 kb pb rb pc cc C s w) (t : Tr) (v : Value) (hfo : FoIn W0 0 t.fo [v]) (hg : TG C.length t) : Calls Tryz.prog 174 #[ptrK kb, v] w fun e w' => e = .returned (.bool (decide (t.1.1 = 0 ∧ vcl C t.1 = 0))) ∧ w' = w := by
 by_cases h0 : t.1.1 = 0
 ·have hv := hg.vr t.1 (List.mem_cons_self ..) h0
  obtain ⟨u, eu⟩ : ∃ u : Nat, (u : Int) = t.1.2.1 := ⟨t.1.2.1.toNat, by omega⟩
  have et : t.1.2.1.toNat = u := by omega
  have hb : decide (t.1.1 = 0 ∧ vcl C t.1 = 0) = (C.getD u 0 == 0) := by
   unfold vcl
   rw [et]; rw [Bool.eq_iff_iff]; simp only [decide_eq_true_eq, beq_iff_eq]; exact ⟨fun q => q.2, fun q => ⟨h0, q⟩⟩
  rw [hb, varV hfo h0, ← eu]; exact isVoidV_any E h u (by omega)
 ·obtain ⟨ty, x, rfl, hty⟩ := othV hfo h0
  have hb : decide (t.1.1 = 0 ∧ vcl C t.1 = 0) = false := decide_eq_false fun q => h0 q.1
  rw [hb]; exact isVoidO_any ty x hty w
set_option maxHeartbeats 4000000 in
theorem head_any (E : CEnv w1 kb pb rb pc cc C) (hB : CBase W0 w1 kb pb rb) (h : PK Z w1 kb pb rb pc cc C s w) (t : Tr) (p : Option Addr) (hp : ArK W0 p (trs t.2)) (hg : TG C.length t) (f : Nat) (hf : 5000 ≤ f) (hM : (alls (hedK C f) 0 s (trs t.2)).out.length ≤ 700000000 ∧ (alls (hedK C f) 0 s (trs t.2)).nx ≤ 700000000) :
  Calls Tryz.prog 106 #[ptrK kb, .slice p (trs t.2).length (trs t.2).length] w (PUnit' Z w1 kb pb rb pc cc C w (alls (hedK C f) 0 s (trs t.2))) := by
 obtain ⟨F, eF⟩ : ∃ F, F = alls (hedK C f) 0 s (trs t.2) := ⟨_, rfl⟩
 rw [← eF] at hM ⊢
 obtain ⟨m, em⟩ : ∃ m, m = (trs t.2).length := ⟨_, rfl⟩
 have hmm : m ≤ 2000 := by have := Fo.count_le t.2; rw [em, trs_len]; have := hg.sz; omega
 have HST : Hid ((PK Z w1 kb pb rb pc cc C s w ∧ FrP Z [kb, pb, rb] w w) ∧ alls (hedK C f) 0 s (trs t.2) = F) := ⟨⟨h, FrP.refl _ _⟩, eF.symm⟩
 have HE : Hid (CEnv w1 kb pb rb pc cc C ∧ CBase W0 w1 kb pb rb ∧ TG C.length t ∧ ArK W0 p (trs t.2) ∧ m = (trs t.2).length ∧ (F.out.length ≤ 700000000 ∧ F.nx ≤ 700000000)) := ⟨E, hB, hg, hp, em, hM⟩
 rw [← em]; have n1 := nbA_comp_comp; clear h E hB hp hg hM eF em
 go_enter Tryz.func106, Tryz.ntmps106
 go_wp2_with fail
 go_loopw [10] (fun iv wr => ∃ (j : Nat) (s2 : KS), j ≤ m ∧ iv = .int .i64 j ∧ Hid ((PK Z w1 kb pb rb pc cc C s2 wr ∧ FrP Z [kb, pb, rb] w wr) ∧ alls (hedK C f) j s2 ((trs t.2).drop j) = F)) (fun iv _ => m - (intOf iv).toNat)
 case atStart => exact ⟨0, s, Nat.zero_le _, by go_num, HST.out.1, by rw [List.drop_zero]; exact HST.out.2⟩
 case round =>
  obtain ⟨j, s2, hjm, rfl, HI⟩ := hrel; clear HST
  by_cases hj : j < m
  ·obtain ⟨x, ex⟩ : ∃ x, (trs t.2)[j]? = some x := ⟨_, List.getElem?_eq_getElem (by have := HE.out.2.2.2.2.1; omega)⟩
   have htg := HE.out.2.2.1.kid (List.mem_of_getElem? ex); have hdr := drop_trs ex; obtain ⟨ga, ty, vy, hpa, yv, hfx⟩ := HE.out.2.2.2.1 j x ex; subst hpa; have hbs := HI.out.1.1.base HE.out.2.1; have yr := (hbs.cell (World.block_lt_of_cell? _ _ yv)).trans yv
   have HKI : Hid (alls (hedK C f) ((j + 1 : Nat) : Int) (hedK C f s2 x j) ((trs t.2).drop (j + 1)) = F ∧ s2.out.length ≤ 700000000 ∧ s2.nx ≤ 700000000) := by
    have h1 := HI.out.2; rw [hdr] at h1
    unfold alls at h1
    have h4 := mo_alls (hedK C f) (mo_hed C HE.out.1.len f) ((trs t.2).drop (j + 1)) ((j : Int) + 1) (hedK C f s2 x j); have h5 := mo_hed C HE.out.1.len f s2 x j; rw [h1] at h4; have h6 := HE.out.2.2.2.2.2
    unfold Kmo at h4 h5
    exact ⟨h1, by omega, by omega⟩
   have hbo := HKI.out.2
   by_cases h3 : x.1.1 = 3
   ·obtain ⟨bz, gz, ez, _⟩ := comp_of hfx h3
    obtain ⟨rfl, rfl⟩ : ty = 156 ∧ vy = ptrK bz := by injection ez with e1 e2; exact ⟨e1, e2⟩
    have HV : Hid (Calls Tryz.prog 173 #[ptrK kb, .slice (some ⟨wr.heap.size, 0, none⟩) 1 1] (wr.alloc (.cells #[ptrK bz, .int .i64 j] 209)) fun e W6 => e = .returned (.tuple #[]) ∧ PK Z w1 kb pb rb pc cc C (hedK C f s2 x j) W6 ∧ FrP Z [kb, pb, rb] w W6) := by
     have hsz : twK x ≤ 4001 := by have := htg.sz; unfold twK; omega
     have h1 := takeApart_any HE.out.1 HE.out.2.1 HI.out.1.1 x bz hfx h3 htg j 800000000 f (Nat.le_refl _) (by omega) (by omega) (by omega)
     have h2 : getK C f s2 [(x, (j : Int))] = hedK C f s2 x j := by unfold hedK; rw [if_pos h3]
     rw [h2] at h1
     exact h1.mono fun e W6 ⟨a1, a2, a3⟩ => ⟨a1, a2, HI.out.1.2.trans a3⟩
    clear hfx htg hdr ex hbs yv ez HI; go_wp2_with fail; refine HV.out.mono ?_; rintro e W6 ⟨rfl, hb6⟩; have HB6 : Hid _ := hb6; clear HV hb6 yr; go_wp2_with fail; go_roundw
    case rel => exact ⟨j + 1, _, by omega, by go_num, HB6.out, HKI.out.1⟩
    case measure => (simp [intOf] <;> omega)
   ·obtain ⟨ty', vy', ez, hna⟩ := notComp hfx h3
    obtain ⟨rfl, rfl⟩ : ty = ty' ∧ vy = vy' := by injection ez with e1 e2; exact ⟨e1, e2⟩
    have HVD := isVoid_any HE.out.1 HI.out.1.1 x (.iface ty vy) hfx htg
    by_cases h0 : x.1.1 = 0 ∧ vcl C x.1 = 0
    ·rw [decide_eq_true h0] at HVD
     have HN : Hid ((PK Z w1 kb pb rb pc cc C (hedK C f s2 x j) wr ∧ FrP Z [kb, pb, rb] w wr)) := by
      have h2 : s2 = hedK C f s2 x j := by unfold hedK; rw [if_neg h3, if_pos h0]
      rw [← h2]; exact HI.out.1
     clear hfx htg hdr ex hbs yv ez HI h0; go_wp2_with fail; refine HVD.mono ?_; rintro e W6 ⟨rfl, hW6⟩; rw [hW6]; clear HVD hW6 yr; go_wp2_with fail; go_roundw
     case rel => exact ⟨j + 1, _, by omega, by go_num, HN.out, HKI.out.1⟩
     case measure => (simp [intOf] <;> omega)
    ·rw [decide_eq_false h0] at HVD
     have HV : Hid (Calls Tryz.prog 175 #[ptrK kb, .iface ty vy, .agg #[.int .i64 0, .int .i64 1, .int .i64 2, .int .i64 0], .int .i64 j] wr fun e W6 => e = .returned (.tuple #[]) ∧ PK Z w1 kb pb rb pc cc C (hedK C f s2 x j) W6 ∧ FrP Z [kb, pb, rb] w W6) := by
      have h2 : argK C getJ s2 x.1 j = hedK C f s2 x j := by unfold hedK; rw [if_neg h3, if_neg h0]
      have h1 := argument_any HE.out.1 HE.out.2.1 HI.out.1.1 x (.iface ty vy) hfx htg getJ j (by omega) (by omega); rw [h2] at h1
      exact h1.mono fun e W6 ⟨a1, a2, a3⟩ => ⟨a1, a2, HI.out.1.2.trans a3⟩
     clear hfx htg hdr ex hbs yv ez HI h0; go_wp2_with fail; refine HVD.mono ?_; rintro e W6 ⟨rfl, hW6⟩; rw [hW6]; clear HVD hW6 yr; go_wp2_with fail; refine HV.out.mono ?_; rintro e W6 ⟨rfl, hb6⟩; have HB6 : Hid _ := hb6; clear HV hb6; go_wp2_with fail; go_roundw
     case rel => exact ⟨j + 1, _, by omega, by go_num, HB6.out, HKI.out.1⟩
     case measure => (simp [intOf] <;> omega)
  ·obtain rfl : j = m := by omega
   have HEND : Hid (PUnit' Z w1 kb pb rb pc cc C w F (.returned (.tuple #[])) wr) := by
    have h1 := HI.out.2; rw [List.drop_of_length_le (by have := HE.out.2.2.2.2.1; omega)] at h1; have h2 : s2 = F := h1; rw [← h2]; exact ⟨rfl, HI.out.1⟩
   clear HI; go_wp2_with fail
   go_end0
   exact HEND.out
end
section
variable {Z : List Nat} {W0 w1 : World} {kb pb rb : Nat} {pc : Option Addr} {cc : Nat} {C : List Int} {s : KS} {w : World}
theorem PK.setZ (h : PK Z w1 kb pb rb pc cc C s w) {b : Nat} (hb : b ∈ Z) (hB : w1.heap.size ≤ b) (o : Nat) (v : Value) : PK Z w1 kb pb rb pc cc C s (w.setCell ⟨b, o, none⟩ v) := h.queue Z hb (fun _ => hB) (qfr_set w b o v) (fun y hy => .inl hy)
structure BP (Z : List Nat) (w1 : World) (kb pb rb : Nat) (pc : Option Addr) (cc : Nat) (C : List Int) (w wr : World) (s : KS) (m ib : Nat) (vs : List Value) (L : List (Nat × Array Value × TypeId)) : Prop where
 st : PK (ib :: Z) w1 kb pb rb pc cc C s wr
 fr : FrP Z [kb, pb, rb] w wr
 inn : QR wr w.heap.size 3 1 (some ⟨ib, 0, none⟩) ib 0 m m vs
 ge : w.heap.size ≤ ib
 lw : w1.heap.size ≤ w.heap.size
 hx : ∀ x ∈ [kb, pb, rb], x < w.heap.size
 bx : ∀ x ∈ L, w.heap.size ≤ x.1 ∧ wr.heap[x.1]? = some (.cells x.2.1 x.2.2 (0, 0)) ∧ x.2.2 ≠ 72 ∧ x.2.2 ≠ 3
section
variable {wr W : World} {m ib : Nat} {vs : List Value} {L : List (Nat × Array Value × TypeId)}
theorem BP.below (h : BP Z w1 kb pb rb pc cc C w wr s m ib vs L) (hb : Below wr.heap.size wr W) : BP Z w1 kb pb rb pc cc C w W s m ib vs L := ⟨h.st.below hb, h.fr.below hb, h.inn.below hb, h.ge, h.lw, h.hx, fun x hx => ⟨(h.bx x hx).1, (hb.block _ (Array.getElem?_eq_some_iff.1 (h.bx x hx).2.1).1).trans (h.bx x hx).2.1, (h.bx x hx).2.2⟩⟩
theorem BP.arg {s2 : KS} (h : BP Z w1 kb pb rb pc cc C w wr s m ib vs L) (hm : PK (ib :: Z) w1 kb pb rb pc cc C s2 W) (hf : FrP (ib :: Z) [kb, pb, rb] wr W) : BP Z w1 kb pb rb pc cc C w W s2 m ib vs L :=
 ⟨hm, h.fr.trans (hf.less fun y hy => List.mem_cons_of_mem _ hy), h.inn.frp hf (by decide) h.hx, h.ge, h.lw, h.hx, fun x hx => ⟨(h.bx x hx).1, FrP.box hf (h.bx x hx).2.1 (h.bx x hx).2.2.1 (fun hm => by have := h.hx _ hm; have := (h.bx x hx).1; omega), (h.bx x hx).2.2⟩⟩
theorem BP.set (h : BP Z w1 kb pb rb pc cc C w wr s m ib vs L) {j : Nat} (hj : j < m) (v : Value) : BP Z w1 kb pb rb pc cc C w (wr.setCell ⟨ib, j, none⟩ v) s m ib (vs.set j v) L := by
 refine ⟨h.st.setZ (List.mem_cons_self ..) (Nat.le_trans h.lw h.ge) _ _, (qfr_set wr ib j v).frp h.fr (fun _ => h.ge), h.inn.set hj v, h.ge, h.lw, h.hx, fun x hx => ⟨(h.bx x hx).1, (Below.heap_setCell _ _ _ _ (show x.1 ≠ ib from fun e => ?_)).trans (h.bx x hx).2.1, (h.bx x hx).2.2⟩⟩; obtain ⟨_, _, cur2, h3, _⟩ := h.inn.low (by have := h.inn.le; omega); rw [← e, (h.bx x hx).2.1] at h3
 injection h3 with h3
 injection h3 with _ h5 _
 exact (h.bx x hx).2.2.2 h5
theorem BP.open (h : BP Z w1 kb pb rb pc cc C w wr s m ib vs L) {j : Nat} {v : Value} (hj : vs[j]? = some v) : wr.cell? ⟨ib, j, none⟩ = some v ∧ wr.frozen? ⟨ib, j, none⟩ = false ∧ ib < wr.heap.size := by
 have h1 := (h.inn.cell hj).2; rw [Nat.zero_add] at h1
 have hm : 0 < m := by
  have h2 := h.inn.len; have h3 := (List.getElem?_eq_some_iff.1 hj).1
  omega
 obtain ⟨_, _, cur, h3, _⟩ := h.inn.low hm; exact ⟨h1, frozen_block h3 j, h.inn.lt hm⟩
theorem BP.box (h : BP Z w1 kb pb rb pc cc C w wr s m ib vs L) (cs : Array Value) (ty : TypeId) (h1 : ty ≠ 72) (h2 : ty ≠ 3) : BP Z w1 kb pb rb pc cc C w (wr.alloc (.cells cs ty)) s m ib vs ((wr.heap.size, cs, ty) :: L) := by
 have h' := h.below (new_lowK wr (.cells cs ty)); refine ⟨h'.st, h'.fr, h'.inn, h'.ge, h'.lw, h'.hx, fun x hx => ?_⟩
 rcases List.mem_cons.1 hx with rfl | hx
 ·exact ⟨h.fr.size, heap_alloc_new wr _, h1, h2⟩
 ·exact h'.bx x hx
end
def BOp (W0 w1 : World) (kb pb rb : Nat) (pc : Option Addr) (cc : Nat) (C : List Int) (f : Nat) : Prop := ∀ (Z : List Nat) (s : KS) (w : World) (t : Tr) (bt : Nat) (r : Int), PK Z w1 kb pb rb pc cc C s w → FoIn W0 0 t.fo [.iface 156 (ptrK bt)] → t.1.1 = 3 → TG C.length t → t.2.cells.length < f → (bldK C f s t r).out.length ≤ 800000000 ∧ (bldK C f s t r).nx ≤ 800000000 →
 Calls Tryz.prog 177 #[ptrK kb, .agg #[ptrK bt, .int .i64 r]] w (PUnit' Z w1 kb pb rb pc cc C w (bldK C f s t r))
set_option maxHeartbeats 4000000 in
theorem build_step (E : CEnv w1 kb pb rb pc cc C) (hB : CBase W0 w1 kb pb rb) (f : Nat) (IH : BOp W0 w1 kb pb rb pc cc C f) : BOp W0 w1 kb pb rb pc cc C (f + 1) := fun Z s w t bt r h hfo h3 hg hf hM => by
 obtain ⟨F, eF⟩ : ∃ F, F = bldK C (f + 1) s t r := ⟨_, rfl⟩
 rw [← eF] at hM ⊢
 have hX : ∀ x ∈ [kb, pb, rb], x < w.heap.size := fun x hx => Nat.lt_of_lt_of_le (h.lt x hx) h.sty.size
 obtain ⟨I, eI⟩ : ∃ I, I = innK (bldK C f) s (trs t.2) := ⟨_, rfl⟩
 have eF2 : F = setK C (I.1.put (insC 12 r 0 t.1)) (trs t.2) I.2 := by rw [eF, eI]; rfl
 have hmo1 : Kmo I.1 F := by rw [eF2]; exact (mo_put _ _).trans (mo_set C E.len _ _ _)
 obtain ⟨b', g, eb, D0, D1, DK⟩ := comp_of hfo h3
 obtain rfl : bt = b' := by injection eb with _ e; injection e with e; injection e with e; exact congrArg Addr.block e
 clear eb
 obtain ⟨m, em⟩ : ∃ m, m = (trs t.2).length := ⟨_, rfl⟩
 rw [← em] at D1
 have hmm : m ≤ 2000 := by have := Fo.count_le t.2; rw [em, trs_len]; have := hg.sz; omega
 have HIL : Hid (I.2.length = m) := by rw [eI, em]; exact inn_len _ _ _
 have HEE : Hid (CEnv w1 kb pb rb pc cc C ∧ CBase W0 w1 kb pb rb ∧ BOp W0 w1 kb pb rb pc cc C f) := ⟨E, hB, IH⟩
 have HFF : Hid (F = setK C (I.1.put (insC 12 r 0 t.1)) (trs t.2) I.2 ∧ Kmo I.1 F ∧ (F.out.length ≤ 800000000 ∧ F.nx ≤ 800000000)) := ⟨eF2, hmo1, hM⟩
 have HII : Hid (innK (bldK C f) s (trs t.2) = I) := eI.symm
 have HTT : Hid (FoIn W0 0 t.fo [.iface 156 (ptrK bt)] ∧ TG C.length t ∧ t.2.cells.length < f + 1 ∧ m = (trs t.2).length) := ⟨hfo, hg, hf, em⟩
 have HDK : Hid (∀ (j : Nat) (x : Tr), (trs t.2)[j]? = some x → ∃ ty y, W0.cell? ⟨g, j, none⟩ = some (.iface ty y) ∧ FoIn W0 0 x.fo [.iface ty y]) := DK
 have HD1 : Hid (∀ W, Below W0.heap.size W0 W → W.cell? ⟨bt, 1, none⟩ = some (.slice (some ⟨g, 0, none⟩) m m)) := fun W hW => (hW.cell (World.block_lt_of_cell? _ _ D1)).trans D1
 obtain ⟨V, eV⟩ : ∃ V, V = w.alloc (.cells #[ptrK bt, .int .i64 r] 209) := ⟨_, rfl⟩
 have hV : Below w.heap.size w V := by rw [eV]; exact new_lowK w _
 have hVs : V.heap.size = w.heap.size + 1 := by rw [eV]; simp
 obtain ⟨U, eU⟩ : ∃ U, U = V.alloc (.cells (madeCells #[Value.int .i64 0] m) 3) := ⟨_, rfl⟩
 have hU : Below V.heap.size V U := by rw [eU]; exact new_lowK V _
 have hbV : V.heap[w.heap.size]? = some (.cells #[ptrK bt, .int .i64 r] 209 (0, 0)) := by rw [eV]; exact heap_alloc_new w _
 have hbU : U.heap[w.heap.size]? = some (.cells #[ptrK bt, .int .i64 r] 209 (0, 0)) := (hU.block _ (by omega)).trans hbV
 have y0 : V.cell? ⟨w.heap.size, 0, none⟩ = some (ptrK bt) := by rw [cell_block hbV]; rfl
 have z0 : U.cell? ⟨w.heap.size, 0, none⟩ = some (ptrK bt) := by rw [cell_block hbU]; rfl
 have y1 := HD1.out V ((h.below hV).base hB); have z1 := HD1.out U ((h.below (Below.on hV hU)).base hB)
 have HBR : Hid (BP Z w1 kb pb rb pc cc C w U s m V.heap.size (innV I.2 m 0) [(w.heap.size, #[ptrK bt, .int .i64 r], 209)]) := by
  refine ⟨(h.below hV).fresh (Nat.le_refl _) hU (by rw [eU]; simp), FrP.of _ (Below.on hV hU), ?_, by omega, h.sty.size, hX, fun x hx => ?_⟩
  ·rw [innV_zero, eU]
   exact madeI V w.heap.size m hV.size (by omega)
  ·simp at hx; subst hx
   exact ⟨Nat.le_refl _, hbU, show 209 ≠ 72 by decide, show 209 ≠ 3 by decide⟩
 have hmk : ∀ W : World, (Instr.makeSlice 42 (.int .i64 (m : Int)) (.int .i64 (m : Int))).run Tryz.prog W = .ok (.slice (some ⟨W.heap.size, 0, none⟩) m m) (W.alloc (.cells (madeCells #[Value.int .i64 0] m) 3)) := run_makeI m (by omega); have HV : Hid (V = w.alloc (.cells #[ptrK bt, .int .i64 r] 209)) := eV; have HU : Hid (U = V.alloc (.cells (madeCells #[Value.int .i64 0] m) 3)) := eU
 obtain ⟨nb, enb⟩ : ∃ nb, nb = w.heap.size := ⟨_, rfl⟩
 have HNB : Hid (nb = w.heap.size) := enb
 obtain ⟨ib, eib⟩ : ∃ ib, ib = V.heap.size := ⟨_, rfl⟩
 have HIB : Hid (ib = w.heap.size + 1) := by rw [eib]; exact hVs
 have y0' : (w.alloc (.cells #[ptrK bt, .int .i64 r] 209)).cell? ⟨w.heap.size, 0, none⟩ = some (ptrK bt) := by rw [← eV]; exact y0
 have y1' : (w.alloc (.cells #[ptrK bt, .int .i64 r] 209)).cell? ⟨bt, 1, none⟩ = some (.slice (some ⟨g, 0, none⟩) m m) := by rw [← eV]; exact y1
 have z0' : ((w.alloc (.cells #[ptrK bt, .int .i64 r] 209)).alloc (.cells (madeCells #[Value.int .i64 0] m) 3)).cell? ⟨w.heap.size, 0, none⟩ = some (ptrK bt) := by rw [← eV, ← eU]; exact z0
 have z1' : ((w.alloc (.cells #[ptrK bt, .int .i64 r] 209)).alloc (.cells (madeCells #[Value.int .i64 0] m) 3)).cell? ⟨bt, 1, none⟩ = some (.slice (some ⟨g, 0, none⟩) m m) := by rw [← eV, ← eU]; exact z1
 rw [← enb, ← eib] at HBR; have n1 := nbA_comp_comp; clear h E hB hfo h3 hg hf hM eF eI eF2 hmo1 hX IH D0 D1 DK eV eU hV hVs hU hbV hbU em y0 z0 y1 z1 enb eib
 go_enter Tryz.func177, Tryz.ntmps177
 go_wp2_with fail; rw [← HV.out, ← HU.out, ← HIB.out, ← HNB.out]; clear HV HU HIB HNB y0' y1' z0' z1'
 go_loopw [27] (fun iv wr => ∃ (i : Nat) (s2 : KS), i ≤ m ∧ iv = .int .i64 i ∧ Hid (BP Z w1 kb pb rb pc cc C w wr s2 m ib (innV I.2 m i) [(nb, #[ptrK bt, .int .i64 r], 209)] ∧ innK (bldK C f) s2 ((trs t.2).drop i) = (I.1, I.2.drop i))) (fun iv _ => m - (intOf iv).toNat)
 case atStart => exact ⟨0, s, Nat.zero_le _, by go_num, HBR.out, by rw [List.drop_zero, List.drop_zero]; exact HII.out⟩
 case round =>
  obtain ⟨i, s2, him, rfl, HI⟩ := hrel; clear HBR HII hmk
  by_cases hi : i < m
  ·obtain ⟨x, ex⟩ : ∃ x, (trs t.2)[i]? = some x := ⟨_, List.getElem?_eq_getElem (by have := HTT.out.2.2.2; omega)⟩
   have htg := HTT.out.2.1.kid (List.mem_of_getElem? ex); have hdr := drop_trs ex; obtain ⟨ty, vy, yv, hfx⟩ := HDK.out i x ex; have hbs := HI.out.1.st.base HEE.out.2.1; have yr := (hbs.cell (World.block_lt_of_cell? _ _ yv)).trans yv
   have HKI : Hid (innK (bldK C f) s2 (x :: (trs t.2).drop (i + 1)) = (I.1, I.2.drop i)) := by show _ = _; rw [← hdr]; exact HI.out.2
   by_cases h3 : x.1.1 = 3
   ·obtain ⟨bz, gz, ez, _⟩ := comp_of hfx h3
    obtain ⟨rfl, rfl⟩ : ty = 156 ∧ vy = ptrK bz := by injection ez with e1 e2; exact ⟨e1, e2⟩
    obtain ⟨nx, enx⟩ : ∃ nx : Int, nx = (s2.nx : Int) := ⟨_, rfl⟩
    obtain ⟨s3, es3⟩ : ∃ s3, s3 = bldK C f s2.take x s2.nx := ⟨_, rfl⟩
    have HK2 : Hid (innK (bldK C f) s3 ((trs t.2).drop (i + 1)) = (I.1, I.2.drop (i + 1)) ∧ I.2.getD i 0 = nx ∧ Kmo s3 I.1 ∧ Kmo s2.take s3) := by
     have h1 := HKI.out
     unfold innK at h1
     rw [if_pos h3, ← es3] at h1
     injection h1 with h1 h2
     obtain ⟨h4, h5⟩ := drop_cons h2.symm; refine ⟨by rw [h5, ← h1], by rw [h4, enx], ?_, by rw [es3]; exact mo_bld C HEE.out.1.len f _ _ _⟩; rw [← h1]; exact mo_inn _ (mo_bld C HEE.out.1.len f) _ _
    have hbo : s2.nx ≤ 800000000 ∧ s2.out.length ≤ 800000000 ∧ (s3.out.length ≤ 800000000 ∧ s3.nx ≤ 800000000) := by
     have h1 := HK2.out.2.2.1; have h2 := HK2.out.2.2.2; have h4 := HFF.out.2.1; have h5 := HFF.out.2.2; have h6 := mo_take s2
     unfold Kmo at h1 h2 h4 h6
     omega
    have HT : Hid (Calls Tryz.prog 221 #[ptrK kb] wr fun e W3 => e = .returned (.int .i64 nx) ∧ BP Z w1 kb pb rb pc cc C w W3 s2.take m ib (innV I.2 m i) [(nb, #[ptrK bt, .int .i64 r], 209)]) := by
     rw [enx]
     exact (takeX_any HEE.out.1 HI.out.1.st (by omega)).mono fun e W3 ⟨a1, a2, a3⟩ => ⟨a1, HI.out.1.arg a2 a3⟩
    have HSE : Hid (∀ W3, BP Z w1 kb pb rb pc cc C w W3 s2.take m ib (innV I.2 m i) [(nb, #[ptrK bt, .int .i64 r], 209)] → (W3.cell? ⟨ib, i, none⟩ = some (.int .i64 0) ∧ W3.frozen? ⟨ib, i, none⟩ = false ∧ ib < W3.heap.size) ∧ (W3.setCell ⟨ib, i, none⟩ (.int .i64 nx)).cell? ⟨ib, i, none⟩ = some (.int .i64 nx) ∧ Calls Tryz.prog 177 #[ptrK kb, .agg #[ptrK bz, .int .i64 nx]] (W3.setCell ⟨ib, i, none⟩ (.int .i64 nx)) fun e W5 => e = .returned (.tuple #[]) ∧ BP Z w1 kb pb rb pc cc C w W5 s3 m ib (innV I.2 m (i + 1)) [(nb, #[ptrK bt, .int .i64 r], 209)]) := fun W3 hb3 => by
     have h1 := hb3.open (innV_at I.2 (i := i) hi); rw [if_neg (by omega)] at h1; have h2 := hb3.set hi (.int .i64 nx); rw [innV_set I.2 hi nx HK2.out.2.1] at h2; refine ⟨h1, World.cell?_setCell_same' _ _ _ (by rw [h1.1]; rfl), ?_⟩
     have hsz : x.2.cells.length < f := by have := mem_trs_cells t.2 x (List.mem_of_getElem? ex); have := HTT.out.2.2.1; omega
     have h4 := HEE.out.2.2 (ib :: Z) s2.take _ x bz s2.nx h2.st hfx h3 htg hsz (by rw [← es3]; exact hbo.2.2); rw [← es3, ← enx] at h4
     exact h4.mono fun e W5 ⟨a1, a2, a3⟩ => ⟨a1, h2.arg a2 a3⟩
    have HK3 : Hid (innK (bldK C f) s3 ((trs t.2).drop (i + 1)) = (I.1, I.2.drop (i + 1))) := HK2.out.1; clear HK2 hbo es3 enx HI hfx htg hdr ex hbs yv ez HKI HDK; go_wp2_with fail; refine HT.out.mono ?_; rintro e W3 ⟨rfl, hb3⟩; obtain ⟨⟨k1, k2, k3⟩, k4, k5⟩ := HSE.out W3 hb3; clear HT hb3 yr HSE; go_wp2_with fail; refine k5.mono ?_; rintro e W5 ⟨rfl, hb5⟩; have HB5 : Hid _ := hb5; clear k5 hb5 k1 k2 k3 k4; go_wp2_with fail; go_roundw
    case rel => exact ⟨i + 1, s3, by omega, by go_num, HB5.out, HK3.out⟩
    case measure => (simp [intOf] <;> omega)
   ·obtain ⟨ty', vy', ez, hna⟩ := notComp hfx h3
    obtain ⟨rfl, rfl⟩ : ty = ty' ∧ vy = vy' := by injection ez with e1 e2; exact ⟨e1, e2⟩
    have HN : Hid (BP Z w1 kb pb rb pc cc C w wr s2 m ib (innV I.2 m (i + 1)) [(nb, #[ptrK bt, .int .i64 r], 209)] ∧ innK (bldK C f) s2 ((trs t.2).drop (i + 1)) = (I.1, I.2.drop (i + 1))) := by
     have h1 := HKI.out
     unfold innK at h1
     rw [if_neg h3] at h1
     injection h1 with h1 h2
     obtain ⟨h4, h5⟩ := drop_cons h2.symm; refine ⟨?_, by rw [h5, ← h1]⟩; rw [← innV_skip I.2 h4]; exact HI.out.1
    clear HI hfx htg hdr ex hbs yv ez HKI HDK; go_wp2_with fail; go_roundw
    case rel => exact ⟨i + 1, s2, by omega, by go_num, HN.out⟩
    case measure => (simp [intOf] <;> omega)
  ·obtain rfl : i = m := by omega
   have HB2 : Hid (BP Z w1 kb pb rb pc cc C w wr I.1 i ib (innV I.2 i i) [(nb, #[ptrK bt, .int .i64 r], 209)]) := by
    have h1 := HI.out.2; rw [List.drop_of_length_le (by have := HTT.out.2.2.2; omega), List.drop_of_length_le (by have := HIL.out; omega)] at h1; have h2 : s2 = I.1 := congrArg Prod.fst h1; rw [← h2]; exact HI.out.1
   obtain ⟨s1, es1⟩ : ∃ s1, s1 = I.1.put (insC 12 r 0 t.1) := ⟨_, rfl⟩
   have hbI : I.1.out.length ≤ 800000000 := by have h4 := HFF.out.2.1; have h5 := HFF.out.2.2; unfold Kmo at h4; omega
   have hbx := HB2.out.bx _ (List.mem_cons_self ..); simp only at hbx
   have HEF : Hid (Calls Tryz.prog 109 #[.iface 156 (ptrK bt)] wr.drew fun e W2 => ∃ tp tc, e = .returned (.agg #[.int .i64 t.1.1, .int .i64 t.1.2.1, .slice tp t.1.2.2.length tc]) ∧ W2.heap[nb]? = some (.cells #[ptrK bt, .int .i64 r] 209 (0, 0)) ∧ (W2.alloc (.cells #[.int .i64 12, .int .i64 r, .int .i64 0, .int .i64 t.1.1, .int .i64 t.1.2.1, .slice tp t.1.2.2.length tc, .slice none 0 0, .slice none 0 0] 72)).heap[nb]? = some (.cells #[ptrK bt, .int .i64 r] 209 (0, 0)) ∧
     Calls Tryz.prog 105 #[ptrK kb, .slice (some ⟨W2.heap.size, 0, none⟩) 1 1] (W2.alloc (.cells #[.int .i64 12, .int .i64 r, .int .i64 0, .int .i64 t.1.1, .int .i64 t.1.2.1, .slice tp t.1.2.2.length tc, .slice none 0 0, .slice none 0 0] 72)) fun e w' => (∃ x, e = .returned (.int .i64 x)) ∧ w'.heap[nb]? = some (.cells #[ptrK bt, .int .i64 r] 209 (0, 0)) ∧ BP Z w1 kb pb rb pc cc C w w' s1 i ib (innV I.2 i i) [(nb, #[ptrK bt, .int .i64 r], 209)]) := by
    have hd : Below wr.heap.size wr wr.drew := below_drewK (Below.refl _ _); refine (emF_any HEE.out.1 HEE.out.2.1 HB2.out.st t (.iface 156 (ptrK bt)) HTT.out.1 HTT.out.2.1.ok 12 r 0 hbI hd).mono ?_; rintro e W2 ⟨tp, tc, rfl, hb2, hem⟩; have k2 : W2.heap[nb]? = some (.cells #[ptrK bt, .int .i64 r] 209 (0, 0)) := (hb2.block _ (Array.getElem?_eq_some_iff.1 hbx.2.1).1).trans hbx.2.1; refine ⟨tp, tc, rfl, k2, ((new_lowK W2 _).block _ (Array.getElem?_eq_some_iff.1 k2).1).trans k2, ?_⟩; refine hem.mono ?_; rintro e w' ⟨a1, a2, a3⟩; rw [← es1] at a2; have hbp := HB2.out.arg a2 a3; exact ⟨a1, (hbp.bx _ (List.mem_cons_self ..)).2.1, hbp⟩
   have hS0 : wr.drew.heap[nb]? = some (.cells #[ptrK bt, .int .i64 r] 209 (0, 0)) := hbx.2.1
   have HBX : Hid (∀ W : World, W.heap[nb]? = some (.cells #[ptrK bt, .int .i64 r] 209 (0, 0)) → W.cell? ⟨nb, 0, none⟩ = some (ptrK bt) ∧ W.cell? ⟨nb, 1, none⟩ = some (.int .i64 r)) := fun W hW => ⟨by rw [cell_block hW]; rfl, by rw [cell_block hW]; rfl⟩
   have HFE : Hid (F = setK C s1 (trs t.2) I.2) := by rw [es1]; exact HFF.out.1
   obtain ⟨t1, et1⟩ : ∃ t1, t1 = t.1.1 := ⟨_, rfl⟩
   obtain ⟨t2, et2⟩ : ∃ t2, t2 = t.1.2.1 := ⟨_, rfl⟩
   obtain ⟨ml, eml⟩ : ∃ ml, ml = t.1.2.2.length := ⟨_, rfl⟩
   rw [← et1, ← et2, ← eml] at HEF; clear HI HB2 hbI es1 hbx et1 et2 eml; go_wp2_with fail; refine wp_region_held_drew (S := fun W => W.heap[nb]? = some (.cells #[ptrK bt, .int .i64 r] 209 (0, 0))) (by kernel_rfl) hS0 (fun hHeld => ?_)
   change wpAnyH _ _ _ _ _ _ _ _ wr.drew
   clear hHeld; refine hTk (i := 0) (v := ptrK kb) (some 52) (fun o ho W hSw => ?y0) (by assumption) ?_
   case y0 => cases ho; simp [execOp, go_sem, Act.eval]
   simp only [Act.put, zzA, zzB, zzC]; refine hTk (i := 1) (v := ptrK kb) (some 53) (fun o ho W hSw => ?y1) (by assumption) ?_
   case y1 => cases ho; simp [execOp, go_sem, Act.eval]
   simp only [Act.put, zzA, zzB, zzC]; refine hTk (i := 2) (v := ptrK kb) (some 54) (fun o ho W hSw => ?y2) (by assumption) ?_
   case y2 => cases ho; simp [execOp, go_sem, Act.eval]
   simp only [Act.put, zzA, zzB, zzC]; refine hTk (i := 3) (v := .pointer (some ⟨nb, 1, none⟩)) (some 55) (fun o ho W hSw => ?y3) (by assumption) ?_
   case y3 => cases ho; simp [execOp, go_sem, Act.eval]
   simp only [Act.put, zzA, zzB, zzC]; refine hTk (i := 4) (v := .int .i64 r) (some 56) (fun o ho W hSw => ?y4) (by assumption) ?_
   case y4 => cases ho; simp [execOp, go_sem, Act.eval, (HBX.out W hSw).2]
   simp only [Act.put, zzA, zzB, zzC]; refine hTk (i := 5) (v := .pointer (some ⟨nb, 0, none⟩)) (some 57) (fun o ho W hSw => ?y5) (by assumption) ?_
   case y5 => cases ho; simp [execOp, go_sem, Act.eval]
   simp only [Act.put, zzA, zzB, zzC]; refine hTk (i := 6) (v := ptrK bt) (some 58) (fun o ho W hSw => ?y6) (by assumption) ?_
   case y6 => cases ho; simp [execOp, go_sem, Act.eval, (HBX.out W hSw).1]
   simp only [Act.put, zzA, zzB, zzC]; refine hTk (i := 7) (v := .iface 156 (ptrK bt)) (some 59) (fun o ho W hSw => ?y7) (by assumption) ?_
   case y7 => cases ho; simp [execOp, go_sem, Act.eval]
   simp only [Act.put, zzA, zzB, zzC]; refine hCallE (i := 8) (f := 109) (args := #[.iface 156 (ptrK bt)]) (some 60) (by kernel_rfl) (by kernel_rfl) (by kernel_rfl) (fun o ho => ?c8) HEF.out ?k8 (fun ch w' hh => by obtain ⟨_, _, h, _⟩ := hh; cases h) (fun w' hh => by obtain ⟨_, _, h, _⟩ := hh; cases h)
   case c8 => cases ho; simp [execOp, go_sem, Act.eval]
   case k8 =>
    rintro u W2 ⟨tp, tc, eq, hk2, hk3, hem⟩
    cases eq
    refine ⟨hk2, ?_⟩; have HE2 : Hid (Calls _ _ _ _ _) := hem; clear hem HEF hS0; simp only [Act.put, zzA, zzB, zzC]; refine hTk (i := 9) (v := .agg #[.int .i64 12, .int .i64 r, .int .i64 0, .int .i64 t1, .int .i64 t2, .slice tp ml tc, .slice none 0 0, .slice none 0 0]) (some 61) (fun o ho W hSw => ?y9) (by assumption) ?_
    case y9 => cases ho; simp [execOp, go_sem, Act.eval]
    simp only [Act.put, zzA, zzB, zzC]; refine hStep (i := 10) (v := .slice (some ⟨W2.heap.size, 0, none⟩) 1 1) (w' := W2.alloc (.cells #[.int .i64 12, .int .i64 r, .int .i64 0, .int .i64 t1, .int .i64 t2, .slice tp ml tc, .slice none 0 0, .slice none 0 0] 72)) (some 62) (by kernel_rfl) (by kernel_rfl) (by kernel_rfl) (fun o ho => ?y10) hk3 ?_
    case y10 => cases ho; simp [execOp, go_sem, Act.eval]
    simp only [Act.put, zzA, zzB, zzC]; refine hCallE (i := 11) (f := 105) (args := #[ptrK kb, .slice (some ⟨W2.heap.size, 0, none⟩) 1 1]) (some 63) (by kernel_rfl) (by kernel_rfl) (by kernel_rfl) (fun o ho => ?c11) HE2.out ?k11 (fun ch w' hh => by obtain ⟨⟨_, h⟩, _⟩ := hh; cases h) (fun w' hh => by obtain ⟨⟨_, h⟩, _⟩ := hh; cases h)
    case c11 => cases ho; simp [execOp, go_sem, Act.eval]
    case k11 =>
     rintro u W4 ⟨⟨y, eq⟩, hk4, hp4⟩
     cases eq
     refine ⟨hk4, ?_⟩; have hp5 := hp4.box #[.int .i64 13, .int .i64 14, .int .i64 15, .int .i64 16] 212 (by decide) (by decide); have q0 := (HBX.out _ (hp5.bx _ (List.mem_cons_of_mem _ (List.mem_cons_self ..))).2.1).1; have q1 := HD1.out _ (hp5.st.base HEE.out.2.1); have HP5 : Hid _ := hp5; clear hp4 hp5 HE2 hk2 hk3 hk4; simp only [Act.put, zzA, zzB, zzC]; refine wpAnyH_done (by kernel_rfl) ?_ _
     change Exit.then _ _ _ _ W4
     go_wp2_with fail
     go_loopw [71] (fun iv wr => ∃ (j : Nat) (s2 : KS), j ≤ i ∧ iv = .int .i64 j ∧ Hid (BP Z w1 kb pb rb pc cc C w wr s2 i ib (innV I.2 i i) [(W4.heap.size, #[.int .i64 13, .int .i64 14, .int .i64 15, .int .i64 16], 212), (nb, #[ptrK bt, .int .i64 r], 209)] ∧ setK C s2 ((trs t.2).drop j) (I.2.drop j) = F)) (fun iv _ => i - (intOf iv).toNat)
     case atStart => exact ⟨0, s1, Nat.zero_le _, by go_num, HP5.out, by rw [List.drop_zero, List.drop_zero]; exact HFE.out.symm⟩
     case round =>
      obtain ⟨j, s2, hjm, rfl, HI⟩ := hrel; clear HP5 q0 q1 HFE HBX HD1
      by_cases hj : j < i
      ·have hil : j < (trs t.2).length := by have := HTT.out.2.2.2; omega
       obtain ⟨x, ex⟩ : ∃ x, (trs t.2)[j]? = some x := ⟨_, List.getElem?_eq_getElem hil⟩
       have htg := HTT.out.2.1.kid (List.mem_of_getElem? ex); have hdr := drop_trs ex; obtain ⟨ty, vy, yv, hfx⟩ := HDK.out j x ex; have hbs := HI.out.1.st.base HEE.out.2.1; have yr := (hbs.cell (World.block_lt_of_cell? _ _ yv)).trans yv; have yi := (HI.out.1.open (innV_at I.2 (i := i) hj)).1; rw [if_pos hj] at yi
       obtain ⟨ri, eri⟩ : ∃ ri, ri = I.2.getD j 0 := ⟨_, rfl⟩
       rw [← eri] at yi
       have HKI : Hid (setK C (stpK C s2 x ri) ((trs t.2).drop (j + 1)) (I.2.drop (j + 1)) = F ∧ (stpK C s2 x ri).out.length ≤ 800000000 ∧ (stpK C s2 x ri).nx ≤ 800000000 ∧ s2.out.length ≤ 800000000 ∧ s2.nx ≤ 800000000) := by
        have h1 := HI.out.2; rw [hdr] at h1
        unfold setK at h1
        have hjl : j < I.2.length := by rw [HIL.out]; exact hj
        have h2 : (I.2.drop j).headD 0 = ri := by
         rw [eri, List.drop_eq_getElem_cons hjl]
         simp [List.getD_eq_getElem?_getD, hjl]
        have h3 : (I.2.drop j).tail = I.2.drop (j + 1) := by rw [List.tail_drop]
        rw [h2, h3] at h1; have h4 := mo_set C HEE.out.1.len ((trs t.2).drop (j + 1)) (stpK C s2 x ri) (I.2.drop (j + 1)); have h5 := mo_stp C HEE.out.1.len s2 x ri; rw [h1] at h4; have h6 := HFF.out.2.2
        unfold Kmo at h4 h5
        exact ⟨h1, by omega, by omega, by omega, by omega⟩
       have hbo := HKI.out.2
       by_cases h3 : x.1.1 = 3
       ·obtain ⟨bz, gz, ez, _⟩ := comp_of hfx h3
        obtain ⟨rfl, rfl⟩ : ty = 156 ∧ vy = ptrK bz := by injection ez with e1 e2; exact ⟨e1, e2⟩
        have est : s2.put (insN 14 ri 0) = stpK C s2 x ri := by unfold stpK; rw [if_pos h3]
        have HEM : Hid (Calls Tryz.prog 105 #[ptrK kb, .slice (some ⟨wr.drew.heap.size, 0, none⟩) 1 1] (wr.drew.alloc (.cells #[.int .i64 14, .int .i64 ri, .int .i64 0, .int .i64 0, .int .i64 0, .slice none 0 0, .slice none 0 0, .slice none 0 0] 72)) fun e w' => (∃ x, e = .returned (.int .i64 x)) ∧ w'.cell? ⟨ib, j, none⟩ = some (.int .i64 ri) ∧ BP Z w1 kb pb rb pc cc C w w' (stpK C s2 x ri) i ib (innV I.2 i i) [(W4.heap.size, #[.int .i64 13, .int .i64 14, .int .i64 15, .int .i64 16], 212), (nb, #[ptrK bt, .int .i64 r], 209)]) := by
         have hd : Below wr.heap.size wr wr.drew := below_drewK (Below.refl _ _); have h1 := emN_any HEE.out.1 HI.out.1.st 14 ri 0 (by omega) hd; rw [est] at h1; refine h1.mono ?_; rintro e w' ⟨a1, a2, a3⟩; have hbp := HI.out.1.arg a2 a3; have := (hbp.open (innV_at I.2 (i := i) hj)).1; rw [if_pos hj, ← eri] at this; exact ⟨a1, this, hbp⟩
        obtain ⟨WD, eWD⟩ : ∃ WD, WD = wr.drew := ⟨_, rfl⟩
        have hyd : WD.cell? ⟨ib, j, none⟩ = some (.int .i64 ri) := by rw [eWD]; exact yi
        have hya : (WD.alloc (.cells #[.int .i64 14, .int .i64 ri, .int .i64 0, .int .i64 0, .int .i64 0, .slice none 0 0, .slice none 0 0, .slice none 0 0] 72)).cell? ⟨ib, j, none⟩ = some (.int .i64 ri) := ((new_lowK WD _).cell (World.block_lt_of_cell? _ _ hyd)).trans hyd; have HWD : Hid (WD = wr.drew) := eWD; rw [← eWD] at HEM; clear est HI hfx htg hdr ex hbs yv ez eri hil eWD HDK; go_wp2_with fail; refine wp_region_held_drew (S := fun W => W.cell? ⟨ib, j, none⟩ = some (.int .i64 ri)) (by kernel_rfl) yi (fun hHeld => ?_)
        change wpAnyH _ _ _ _ _ _ _ _ wr.drew
        rw [← HWD.out]; clear hHeld HWD yi; refine hTk (i := 0) (v := ptrK kb) (some 82) (fun o ho W hSw => ?y12) (by assumption) ?_
        case y12 => cases ho; simp [execOp, go_sem, Act.eval]
        simp only [Act.put, zzA, zzB, zzC]; refine hTk (i := 1) (v := ptrK kb) (some 83) (fun o ho W hSw => ?y13) (by assumption) ?_
        case y13 => cases ho; simp [execOp, go_sem, Act.eval]
        simp only [Act.put, zzA, zzB, zzC]; refine hTk (i := 2) (v := ptrK kb) (some 84) (fun o ho W hSw => ?y14) (by assumption) ?_
        case y14 => cases ho; simp [execOp, go_sem, Act.eval]
        simp only [Act.put, zzA, zzB, zzC]; refine hTk (i := 3) (v := .slice (some ⟨ib, 0, none⟩) i i) (some 85) (fun o ho W hSw => ?y15) (by assumption) ?_
        case y15 => cases ho; simp [execOp, go_sem, Act.eval]
        simp only [Act.put, zzA, zzB, zzC]; refine hTk (i := 4) (v := .int .i64 j) (some 86) (fun o ho W hSw => ?y16) (by assumption) ?_
        case y16 => cases ho; simp [execOp, go_sem, Act.eval]
        simp only [Act.put, zzA, zzB, zzC]; refine hTk (i := 5) (v := .pointer (some ⟨ib, j, none⟩)) (some 87) (fun o ho W hSw => ?y17) (by assumption) ?_
        case y17 => cases ho; simp [execOp, go_sem, Act.eval, hj]
        simp only [Act.put, zzA, zzB, zzC]; refine hTk (i := 6) (v := .int .i64 ri) (some 88) (fun o ho W hSw => ?y18) (by assumption) ?_
        case y18 => cases ho; simp [execOp, go_sem, Act.eval, hSw]
        simp only [Act.put, zzA, zzB, zzC]; refine hTk (i := 7) (v := .agg #[.int .i64 14, .int .i64 ri, .int .i64 0, .int .i64 0, .int .i64 0, .slice none 0 0, .slice none 0 0, .slice none 0 0]) (some 89) (fun o ho W hSw => ?y19) (by assumption) ?_
        case y19 => cases ho; simp [execOp, go_sem, Act.eval]
        simp only [Act.put, zzA, zzB, zzC]; refine hStep (i := 8) (v := .slice (some ⟨WD.heap.size, 0, none⟩) 1 1) (w' := WD.alloc (.cells #[.int .i64 14, .int .i64 ri, .int .i64 0, .int .i64 0, .int .i64 0, .slice none 0 0, .slice none 0 0, .slice none 0 0] 72)) (some 90) (by kernel_rfl) (by kernel_rfl) (by kernel_rfl) (fun o ho => ?y20) hya ?_
        case y20 => cases ho; simp [execOp, go_sem, Act.eval]
        simp only [Act.put, zzA, zzB, zzC]; refine hCallE (i := 9) (f := 105) (args := #[ptrK kb, .slice (some ⟨WD.heap.size, 0, none⟩) 1 1]) (some 91) (by kernel_rfl) (by kernel_rfl) (by kernel_rfl) (fun o ho => ?c21) HEM.out ?k21 (fun ch w' hh => by obtain ⟨⟨_, h⟩, _⟩ := hh; cases h) (fun w' hh => by obtain ⟨⟨_, h⟩, _⟩ := hh; cases h)
        case c21 => cases ho; simp [execOp, go_sem, Act.eval]
        case k21 =>
         rintro u W6 ⟨⟨y, eq⟩, hk6, hp6⟩
         cases eq
         refine ⟨hk6, ?_⟩; have HP6 : Hid _ := hp6; clear hp6 HEM hk6 hya; simp only [Act.put, zzA, zzB, zzC]; refine wpAnyH_done (by kernel_rfl) ?_ _
         unfold Exit.inBlock
         go_wp2_with fail; go_roundw
         case rel => exact ⟨j + 1, _, by omega, by go_num, HP6.out, HKI.out.1⟩
         case measure => (simp [intOf] <;> omega)
       ·obtain ⟨ty', vy', ez, hna⟩ := notComp hfx h3
        obtain ⟨rfl, rfl⟩ : ty = ty' ∧ vy = vy' := by injection ez with e1 e2; exact ⟨e1, e2⟩
        have HA : Hid (Calls Tryz.prog 175 #[ptrK kb, .iface ty vy, .agg #[.int .i64 13, .int .i64 14, .int .i64 15, .int .i64 16], .int .i64 0] wr fun e W6 => e = .returned (.tuple #[]) ∧ BP Z w1 kb pb rb pc cc C w W6 (stpK C s2 x ri) i ib (innV I.2 i i) [(W4.heap.size, #[.int .i64 13, .int .i64 14, .int .i64 15, .int .i64 16], 212), (nb, #[ptrK bt, .int .i64 r], 209)]) := by
         have est : argK C setJ s2 x.1 0 = stpK C s2 x ri := by unfold stpK; rw [if_neg h3]
         have h1 := argument_any HEE.out.1 HEE.out.2.1 HI.out.1.st x (.iface ty vy) hfx htg setJ 0 (by omega) (by omega); rw [est] at h1; refine h1.mono ?_; rintro e W6 ⟨a1, a2, a3⟩; exact ⟨a1, HI.out.1.arg a2 a3⟩
        have hbo2 := (HI.out.1.bx _ (List.mem_cons_self ..)).2.1; simp only at hbo2
        have o1' : wr.cell? ⟨W4.heap.size, 0, none⟩ = some (.int .i64 13) := by rw [cell_block hbo2]; rfl
        have o2' : wr.cell? ⟨W4.heap.size, 1, none⟩ = some (.int .i64 14) := by rw [cell_block hbo2]; rfl
        have o3' : wr.cell? ⟨W4.heap.size, 2, none⟩ = some (.int .i64 15) := by rw [cell_block hbo2]; rfl
        have o4' : wr.cell? ⟨W4.heap.size, 3, none⟩ = some (.int .i64 16) := by rw [cell_block hbo2]; rfl
        clear HI hfx htg hdr ex hbs yv ez eri hil hbo2 yi HDK; go_wp2_with fail; refine HA.out.mono ?_; rintro e W6 ⟨rfl, hp6⟩; have HP6 : Hid _ := hp6; clear HA hp6 yr o1' o2' o3' o4'; go_wp2_with fail; go_roundw
        case rel => exact ⟨j + 1, _, by omega, by go_num, HP6.out, HKI.out.1⟩
        case measure => (simp [intOf] <;> omega)
      ·obtain rfl : j = i := by omega
       have HEND : Hid (PUnit' Z w1 kb pb rb pc cc C w F (.returned (.tuple #[])) wr) := by
        have h1 := HI.out.2; rw [List.drop_of_length_le (by have := HTT.out.2.2.2; omega)] at h1; have h2 : s2 = F := h1; rw [← h2]; exact ⟨rfl, HI.out.1.st.less (fun z hz => List.mem_cons_of_mem _ hz), HI.out.1.fr⟩
       clear HI; go_wp2_with fail
       go_end0
       exact HEND.out
theorem build_all (E : CEnv w1 kb pb rb pc cc C) (hB : CBase W0 w1 kb pb rb) : ∀ f, BOp W0 w1 kb pb rb pc cc C f
 | 0 => fun Z s w t bt r h hfo h3 hg hf hM => by omega
 | f + 1 => build_step E hB f (build_all E hB f)
end
theorem giO_spc {c : Cel} (h : spcC c = true) : giO c = spcO c ∧ (giO c = 23 ∨ giO c = 24 ∨ giO c = 25) := by
 rcases (spc_iff c).1 h with rfl | rfl | rfl
 ·exact ⟨by decide, .inl (by decide)⟩
 ·exact ⟨by decide, .inr (.inl (by decide))⟩
 ·exact ⟨by decide, .inr (.inr (by decide))⟩
theorem giO_rest {c : Cel} (h : spcC c = false) : giO c = 22 ∨ giO c = 19 := by
 have hn : ¬ (c = (3, 1, lvlN) ∨ c = (3, 1, mrkN) ∨ c = (3, 1, cutN)) := fun q => by
  have := (spc_iff c).2 q
  rw [h] at this; cases this
 unfold giO
 rw [if_neg (fun q => hn (.inl q)), if_neg (fun q => hn (.inr (.inl q))), if_neg (fun q => hn (.inr (.inr q)))]
 split
 ·exact .inl rfl
 ·exact .inr rfl
theorem giO_bu {g : Tr} (hok : g.fo.ok) (hg : goodG g = true) (h : spcC g.1 = false) : giO g.1 = if buC g.1 = true then 22 else 19 := by
 have h1 := giO_call hok hg
 have h2 : inlG g = buC g.1 := by unfold inlG; rw [h]; rfl
 rw [h2] at h1
 rcases giO_rest h with e | e
 ·rw [e] at h1 ⊢
  cases hb : buC g.1 with
  | true => rfl
  | false => rw [hb] at h1; cases h1
 ·rw [e] at h1 ⊢
  cases hb : buC g.1 with
  | true => rw [hb] at h1; cases h1
  | false => rfl
theorem namC_eq {g : Tr} (hok : g.fo.ok) (hc : calC g.1 = true) : namC g.1 = g.1 := by
 obtain ⟨⟨a, b, d⟩, k⟩ := g
 unfold calC at hc
 simp only [decide_eq_true_eq] at hc
 unfold namC
 rcases hc with h | h
 ·have h9 : cellB a b d.length = true := hok.1
  rw [h] at h9
  simp [cellB] at h9
  simp only [h]; rw [if_neg (by decide), h9.2]
 ·simp only [h]
  rw [if_pos trivial]
abbrev fgV (ty : TypeId) (x : Value) (op : Int) : Value := .agg #[.iface ty x, .int .i64 op]
set_option maxHeartbeats 1000000 in
theorem isChoice_any (ty : TypeId) (x : Value) (op : Int) (w : World) (h : op = 23 ∨ op = 24 ∨ op = 25) : Calls Tryz.prog 176 #[fgV ty x op] w fun e w' => e = .returned (.bool true) ∧ Below w.heap.size w w' := by
 have HB : Hid (∀ o, Below w.heap.size w (w.alloc o)) := fun o => (Below.refl _ _).alloc (Nat.le_refl _) _
 rcases h with rfl | rfl | rfl
 all_goals
  go_enter Tryz.func176, Tryz.ntmps176
  go_wp2_with fail; go_ret; exact ⟨rfl, HB.out _⟩
set_option maxHeartbeats 1000000 in
theorem noChoice_any (ty : TypeId) (x : Value) (op : Int) (w : World) (h : op = 22 ∨ op = 19) : Calls Tryz.prog 176 #[fgV ty x op] w fun e w' => e = .returned (.bool false) ∧ Below w.heap.size w w' := by
 have HB : Hid (∀ o, Below w.heap.size w (w.alloc o)) := fun o => (Below.refl _ _).alloc (Nat.le_refl _) _
 rcases h with rfl | rfl
 all_goals
  go_enter Tryz.func176, Tryz.ntmps176
  go_wp2_with fail; go_ret; exact ⟨rfl, HB.out _⟩
section
variable {Z : List Nat} {W0 w1 : World} {kb pb rb : Nat} {pc : Option Addr} {cc : Nat} {C : List Int} {s : KS} {w : World}
set_option maxHeartbeats 1000000 in
theorem argumentsC_any (h : PK Z w1 kb pb rb pc cc C s w) (ty : TypeId) (x : Value) (op : Int) (hop : op = 23 ∨ op = 24 ∨ op = 25) :
  Calls Tryz.prog 107 #[ptrK kb, fgV ty x op] w (PUnit' Z w1 kb pb rb pc cc C w s) := by
 have HI := isChoice_any ty x op (w.alloc (.cells #[.iface ty x, .int .i64 op] 118)) hop
 have HF : Hid (∀ W, Below (w.alloc (.cells #[.iface ty x, .int .i64 op] 118)).heap.size (w.alloc (.cells #[.iface ty x, .int .i64 op] 118)) W → PUnit' Z w1 kb pb rb pc cc C w s (.returned (.tuple #[])) W) := fun W hW => ⟨rfl, h.below (Below.on (new_lowK w _) hW), FrP.of _ (Below.on (new_lowK w _) hW)⟩
 clear h hop
 go_enter Tryz.func107, Tryz.ntmps107
 go_wp2_with fail; refine HI.mono ?_; rintro e W ⟨rfl, hb⟩; have HFW : Hid _ := HF.out W hb; clear HI hb HF; go_wp2_with fail
 go_end0
 exact ⟨rfl, HFW.out.2⟩
set_option maxHeartbeats 4000000 in
theorem argumentsA_any (E : CEnv w1 kb pb rb pc cc C) (hB : CBase W0 w1 kb pb rb) (h : PK Z w1 kb pb rb pc cc C s w) (t : Tr) (ty : TypeId) (x : Value) (op : Int) (hop : op = 22 ∨ op = 19) (hfo : FoIn W0 0 t.fo [.iface ty x]) (hcal : calC t.1 = true) (hg : TG C.length t) (f : Nat) (hf : 5000 ≤ f) (hM : (alls (golK C f) 0 s (trs t.2)).out.length ≤ 700000000 ∧ (alls (golK C f) 0 s (trs t.2)).nx ≤ 700000000) :
  Calls Tryz.prog 107 #[ptrK kb, fgV ty x op] w (PUnit' Z w1 kb pb rb pc cc C w (alls (golK C f) 0 s (trs t.2))) := by
 obtain ⟨F, eF⟩ : ∃ F, F = alls (golK C f) 0 s (trs t.2) := ⟨_, rfl⟩
 rw [← eF] at hM ⊢
 obtain ⟨m, em⟩ : ∃ m, m = (trs t.2).length := ⟨_, rfl⟩
 have hmm : m ≤ 2000 := by have := Fo.count_le t.2; rw [em, trs_len]; have := hg.sz; omega
 have HI := noChoice_any ty x op (w.alloc (.cells #[.iface ty x, .int .i64 op] 118)) hop; obtain ⟨p, hp, HAR⟩ := argsK hg.ok (by unfold calC at hcal; simpa using hcal) hfo; rw [← em] at HAR
 have HW : Hid (∀ W, Below (w.alloc (.cells #[.iface ty x, .int .i64 op] 118)).heap.size (w.alloc (.cells #[.iface ty x, .int .i64 op] 118)) W → W.cell? ⟨w.heap.size, 0, none⟩ = some (.iface ty x) ∧ Below W0.heap.size W0 W ∧ (PK Z w1 kb pb rb pc cc C s W ∧ FrP Z [kb, pb, rb] w W) ∧ alls (golK C f) 0 s (trs t.2) = F) := fun W hW => by
  have hpk := h.below (Below.on (new_lowK w (.cells #[.iface ty x, .int .i64 op] 118)) hW); refine ⟨?_, hpk.base hB, ⟨hpk, FrP.of _ (Below.on (new_lowK w _) hW)⟩, eF.symm⟩; have hbx := (hW.block w.heap.size (by simp)).trans (heap_alloc_new w _); rw [cell_block hbx]; rfl
 have HE : Hid (CEnv w1 kb pb rb pc cc C ∧ CBase W0 w1 kb pb rb ∧ TG C.length t ∧ ArK W0 p (trs t.2) ∧ m = (trs t.2).length ∧ (F.out.length ≤ 700000000 ∧ F.nx ≤ 700000000)) := ⟨E, hB, hg, hp, em, hM⟩
 have HAA : Hid _ := HAR; have n1 := nbA_comp_comp; clear h E hB hp hg hM eF em HAR hfo hcal hop
 go_enter Tryz.func107, Tryz.ntmps107
 go_wp2_with fail; refine HI.mono ?_; rintro e W ⟨rfl, hb⟩; obtain ⟨k0, k1, k2⟩ := HW.out W hb; have HAR := HAA.out W k1; have HST : Hid _ := k2; clear HI hb HW k1 k2 HAA; go_wp2_with fail; refine HAR.mono ?_; rintro e W2 ⟨rfl, hW2⟩; rw [hW2]; clear hW2 HAR k0; go_wp2_with fail
 go_loopw [14] (fun iv wr => ∃ (j : Nat) (s2 : KS), j ≤ m ∧ iv = .int .i64 j ∧ Hid ((PK Z w1 kb pb rb pc cc C s2 wr ∧ FrP Z [kb, pb, rb] w wr) ∧ alls (golK C f) j s2 ((trs t.2).drop j) = F)) (fun iv _ => m - (intOf iv).toNat)
 case atStart => exact ⟨0, s, Nat.zero_le _, by go_num, HST.out.1, by rw [List.drop_zero]; exact HST.out.2⟩
 case round =>
  obtain ⟨j, s2, hjm, rfl, HI⟩ := hrel; clear HST
  by_cases hj : j < m
  ·obtain ⟨y, ey⟩ : ∃ y, (trs t.2)[j]? = some y := ⟨_, List.getElem?_eq_getElem (by have := HE.out.2.2.2.2.1; omega)⟩
   have htg := HE.out.2.2.1.kid (List.mem_of_getElem? ey); have hdr := drop_trs ey; obtain ⟨ga, tz, vz, hpa, yv, hfx⟩ := HE.out.2.2.2.1 j y ey; subst hpa; have hbs := HI.out.1.1.base HE.out.2.1; have yr := (hbs.cell (World.block_lt_of_cell? _ _ yv)).trans yv
   have HKI : Hid (alls (golK C f) ((j + 1 : Nat) : Int) (golK C f s2 y j) ((trs t.2).drop (j + 1)) = F ∧ s2.out.length ≤ 700000000 ∧ s2.nx ≤ 700000000 ∧ ((golK C f s2 y j).out.length ≤ 800000000 ∧ (golK C f s2 y j).nx ≤ 800000000)) := by
    have h1 := HI.out.2; rw [hdr] at h1
    unfold alls at h1
    have h4 := mo_alls (golK C f) (mo_gol C HE.out.1.len f) ((trs t.2).drop (j + 1)) ((j : Int) + 1) (golK C f s2 y j); have h5 := mo_gol C HE.out.1.len f s2 y j; rw [h1] at h4; have h6 := HE.out.2.2.2.2.2
    unfold Kmo at h4 h5
    exact ⟨h1, by omega, by omega, by omega, by omega⟩
   have hbo := HKI.out.2
   by_cases h3 : y.1.1 = 3
   ·obtain ⟨bz, gz, ez, _⟩ := comp_of hfx h3
    obtain ⟨rfl, rfl⟩ : tz = 156 ∧ vz = ptrK bz := by injection ez with e1 e2; exact ⟨e1, e2⟩
    have HV : Hid (Calls Tryz.prog 177 #[ptrK kb, .agg #[ptrK bz, .int .i64 j]] wr fun e W6 => e = .returned (.tuple #[]) ∧ PK Z w1 kb pb rb pc cc C (golK C f s2 y j) W6 ∧ FrP Z [kb, pb, rb] w W6) := by
     have h2 : bldK C f s2 y (j : Int) = golK C f s2 y j := by unfold golK; rw [if_pos h3]
     have h1 := build_all HE.out.1 HE.out.2.1 f Z s2 wr y bz j HI.out.1.1 hfx h3 htg (by have := htg.sz; omega) (by rw [h2]; exact hbo.2.2); rw [h2] at h1
     exact h1.mono fun e W6 ⟨a1, a2, a3⟩ => ⟨a1, a2, HI.out.1.2.trans a3⟩
    clear hfx htg hdr ey hbs yv ez HI; go_wp2_with fail; refine HV.out.mono ?_; rintro e W6 ⟨rfl, hb6⟩; have HB6 : Hid _ := hb6; clear HV hb6 yr; go_wp2_with fail; go_roundw
    case rel => exact ⟨j + 1, _, by omega, by go_num, HB6.out, HKI.out.1⟩
    case measure => (simp [intOf] <;> omega)
   ·obtain ⟨tz', vz', ez, hna⟩ := notComp hfx h3
    obtain ⟨rfl, rfl⟩ : tz = tz' ∧ vz = vz' := by injection ez with e1 e2; exact ⟨e1, e2⟩
    have HV : Hid (Calls Tryz.prog 175 #[ptrK kb, .iface tz vz, .agg #[.int .i64 8, .int .i64 9, .int .i64 10, .int .i64 11], .int .i64 j] wr fun e W6 => e = .returned (.tuple #[]) ∧ PK Z w1 kb pb rb pc cc C (golK C f s2 y j) W6 ∧ FrP Z [kb, pb, rb] w W6) := by
     have h2 : argK C putJ s2 y.1 j = golK C f s2 y j := by unfold golK; rw [if_neg h3]
     have h1 := argument_any HE.out.1 HE.out.2.1 HI.out.1.1 y (.iface tz vz) hfx htg putJ j (by omega) (by omega); rw [h2] at h1
     exact h1.mono fun e W6 ⟨a1, a2, a3⟩ => ⟨a1, a2, HI.out.1.2.trans a3⟩
    clear hfx htg hdr ey hbs yv ez HI; go_wp2_with fail; refine HV.out.mono ?_; rintro e W6 ⟨rfl, hb6⟩; have HB6 : Hid _ := hb6; clear HV hb6 yr; go_wp2_with fail; go_roundw
    case rel => exact ⟨j + 1, _, by omega, by go_num, HB6.out, HKI.out.1⟩
    case measure => (simp [intOf] <;> omega)
  ·obtain rfl : j = m := by omega
   have HEND : Hid (PUnit' Z w1 kb pb rb pc cc C w F (.returned (.tuple #[])) wr) := by
    have h1 := HI.out.2; rw [List.drop_of_length_le (by have := HE.out.2.2.2.2.1; omega)] at h1; have h2 : s2 = F := h1; rw [← h2]; exact ⟨rfl, HI.out.1⟩
   clear HI; go_wp2_with fail
   go_end0
   exact HEND.out
set_option maxHeartbeats 1000000 in
theorem regCh_any (E : CEnv w1 kb pb rb pc cc C) (h : PK Z w1 kb pb rb pc cc C s w) (c : Cel) (v : Nat) (hc : c.2.1 = v) (hv : v < C.length) (hn : s.nx ≤ 800000000) :
  Calls Tryz.prog 178 #[ptrK kb, .iface 94 (.int .i64 v)] w fun e w' => e = .returned (.int .i64 (choK C s c).1) ∧ PK Z w1 kb pb rb pc cc C (choK C s c).2 w' ∧ FrP Z [kb, pb, rb] w w' := by
 have HIV := isVoidV_any E h v hv
 have ecn : c.2.1.toNat = v := by omega
 have n1 := nbA_var_var
 by_cases h0 : C.getD v 0 = 0
 ·have e1 : choK C s c = (255, s) := by unfold choK vcl; rw [ecn, if_pos h0]
  rw [e1]; rw [show (C.getD v 0 == 0) = true by simpa using h0] at HIV
  have HP : Hid (PK Z w1 kb pb rb pc cc C s w ∧ FrP Z [kb, pb, rb] w w) := ⟨h, FrP.refl _ _⟩
  clear h E e1 h0 hc ecn hv hn
  go_enter Tryz.func178, Tryz.ntmps178
  go_wp2_with fail; refine HIV.mono ?_; rintro e W ⟨rfl, hW⟩; rw [hW]; clear hW HIV; go_wp2_with fail; go_ret; exact ⟨rfl, HP.out⟩
 ·have e1 : choK C s c = ((regK C s v).1, (regK C s v).2.2) := by unfold choK vcl; rw [ecn, if_neg h0]
  rw [e1]; rw [show (C.getD v 0 == 0) = false by simpa using h0] at HIV; have HR := register_any E h v hv (by omega)
  obtain ⟨X, eX⟩ : ∃ X, X = regK C s v := ⟨_, rfl⟩
  rw [← eX] at HR ⊢; obtain ⟨r, fi, st⟩ := X; clear h E e1 h0 hc ecn hv hn eX
  go_enter Tryz.func178, Tryz.ntmps178
  go_wp2_with fail; refine HIV.mono ?_; rintro e W ⟨rfl, hW⟩; rw [hW]; clear hW HIV; go_wp2_with fail; refine HR.mono ?_; rintro e W ⟨rfl, hm⟩; have HM : Hid _ := hm; clear hm HR; go_wp2_with fail; go_ret; exact ⟨rfl, HM.out⟩
set_option maxHeartbeats 4000000 in
theorem carryA_any (E : CEnv w1 kb pb rb pc cc C) (hB : CBase W0 w1 kb pb rb) (h : PK Z w1 kb pb rb pc cc C s w) (t : Tr) (ty : TypeId) (x : Value) (op : Int) (hop : op = 22 ∨ op = 19) (hfo : FoIn W0 0 t.fo [.iface ty x]) (hok : t.fo.ok) (hn : s.out.length ≤ 800000000) :
  Calls Tryz.prog 110 #[ptrK kb, fgV ty x op] w (PUnit' Z w1 kb pb rb pc cc C w (s.put (insC op 0 0 t.1))) := by
 obtain ⟨V, eV⟩ : ∃ V, V = w.alloc (.cells #[.iface ty x, .int .i64 op] 118) := ⟨_, rfl⟩
 have hV : Below w.heap.size w V := by rw [eV]; exact new_lowK w _
 have hbV : V.heap[w.heap.size]? = some (.cells #[.iface ty x, .int .i64 op] 118 (0, 0)) := by rw [eV]; exact heap_alloc_new w _
 have HI := noChoice_any ty x op V hop
 obtain ⟨nb, enb⟩ : ∃ nb, nb = w.heap.size := ⟨_, rfl⟩
 have HNB : Hid (nb = w.heap.size) := enb
 have HEF : Hid (∀ W, Below V.heap.size V W → W.heap[nb]? = some (.cells #[.iface ty x, .int .i64 op] 118 (0, 0)) ∧ Calls Tryz.prog 109 #[.iface ty x] W.drew fun e W2 => ∃ tp tc, e = .returned (.agg #[.int .i64 t.1.1, .int .i64 t.1.2.1, .slice tp t.1.2.2.length tc]) ∧ W2.heap[nb]? = some (.cells #[.iface ty x, .int .i64 op] 118 (0, 0)) ∧ (W2.alloc (.cells #[.int .i64 op, .int .i64 0, .int .i64 0, .int .i64 t.1.1, .int .i64 t.1.2.1, .slice tp t.1.2.2.length tc, .slice none 0 0, .slice none 0 0] 72)).heap[nb]? = some (.cells #[.iface ty x, .int .i64 op] 118 (0, 0)) ∧
   Calls Tryz.prog 105 #[ptrK kb, .slice (some ⟨W2.heap.size, 0, none⟩) 1 1] (W2.alloc (.cells #[.int .i64 op, .int .i64 0, .int .i64 0, .int .i64 t.1.1, .int .i64 t.1.2.1, .slice tp t.1.2.2.length tc, .slice none 0 0, .slice none 0 0] 72)) fun e w' => (∃ x, e = .returned (.int .i64 x)) ∧ w'.heap[nb]? = some (.cells #[.iface ty x, .int .i64 op] 118 (0, 0)) ∧ PK Z w1 kb pb rb pc cc C (s.put (insC op 0 0 t.1)) w' ∧ FrP Z [kb, pb, rb] w w') := fun W hW => by
  rw [enb]; have hbW := (hW.block _ (Array.getElem?_eq_some_iff.1 hbV).1).trans hbV; refine ⟨hbW, ?_⟩; have hd : Below W.heap.size W W.drew := below_drewK (Below.refl _ _); refine (emF_any E hB (h.below (Below.on hV hW)) t (.iface ty x) hfo hok op 0 0 hn hd).mono ?_; rintro e W2 ⟨tp, tc, rfl, hb2, hem⟩; have k2 := (hb2.block _ (Array.getElem?_eq_some_iff.1 hbW).1).trans hbW; refine ⟨tp, tc, rfl, k2, ((new_lowK W2 _).block _ (Array.getElem?_eq_some_iff.1 k2).1).trans k2, ?_⟩; refine hem.mono ?_; rintro e w' ⟨a1, a2, a3⟩; exact ⟨a1, FrP.box a3 hbW (by decide) (xlt E h), a2, (FrP.of _ (Below.on hV hW)).trans a3⟩
 have HBX : Hid (∀ W : World, W.heap[nb]? = some (.cells #[.iface ty x, .int .i64 op] 118 (0, 0)) → W.cell? ⟨nb, 0, none⟩ = some (.iface ty x) ∧ W.cell? ⟨nb, 1, none⟩ = some (.int .i64 op)) := fun W hW => ⟨by rw [cell_block hW]; rfl, by rw [cell_block hW]; rfl⟩
 obtain ⟨t1, et1⟩ : ∃ t1, t1 = t.1.1 := ⟨_, rfl⟩
 obtain ⟨t2, et2⟩ : ∃ t2, t2 = t.1.2.1 := ⟨_, rfl⟩
 obtain ⟨ml, eml⟩ : ∃ ml, ml = t.1.2.2.length := ⟨_, rfl⟩
 obtain ⟨F, eF⟩ : ∃ F, F = s.put (insC op 0 0 t.1) := ⟨_, rfl⟩
 rw [← et1, ← et2, ← eml, ← eF] at HEF; rw [← eF]; rw [eV] at HI; have HV : Hid (V = w.alloc (.cells #[.iface ty x, .int .i64 op] 118)) := eV; clear h E hB hfo hok hn hV hbV eV enb et1 et2 eml eF hop
 go_enter Tryz.func110, Tryz.ntmps110
 go_wp2_with fail; refine HI.mono ?_; rintro e W ⟨rfl, hb⟩; obtain ⟨hbW, hef⟩ := HEF.out W (by rw [HV.out]; exact hb); rw [← HNB.out]; have HF2 : Hid (Calls _ _ _ _ _) := hef; clear HI hb HEF hef HV HNB; go_wp2_with fail; refine wp_region_held_drew (S := fun W => W.heap[nb]? = some (.cells #[.iface ty x, .int .i64 op] 118 (0, 0))) (by kernel_rfl) hbW (fun hHeld => ?_)
 change wpAnyH _ _ _ _ _ _ _ _ W.drew
 have hS0 : W.drew.heap[nb]? = some (.cells #[.iface ty x, .int .i64 op] 118 (0, 0)) := hbW; clear hHeld hbW; refine hTk (i := 0) (v := ptrK kb) (some 21) (fun o ho W hSw => ?y0) (by assumption) ?_
 case y0 => cases ho; simp [execOp, go_sem, Act.eval]
 simp only [Act.put, zzA, zzB, zzC]; refine hTk (i := 1) (v := ptrK kb) (some 22) (fun o ho W hSw => ?y1) (by assumption) ?_
 case y1 => cases ho; simp [execOp, go_sem, Act.eval]
 simp only [Act.put, zzA, zzB, zzC]; refine hTk (i := 2) (v := ptrK kb) (some 23) (fun o ho W hSw => ?y2) (by assumption) ?_
 case y2 => cases ho; simp [execOp, go_sem, Act.eval]
 simp only [Act.put, zzA, zzB, zzC]; refine hTk (i := 3) (v := .pointer (some ⟨nb, 1, none⟩)) (some 24) (fun o ho W hSw => ?y3) (by assumption) ?_
 case y3 => cases ho; simp [execOp, go_sem, Act.eval]
 simp only [Act.put, zzA, zzB, zzC]; refine hTk (i := 4) (v := .int .i64 op) (some 25) (fun o ho W hSw => ?y4) (by assumption) ?_
 case y4 => cases ho; simp [execOp, go_sem, Act.eval, (HBX.out W hSw).2]
 simp only [Act.put, zzA, zzB, zzC]; refine hTk (i := 5) (v := .pointer (some ⟨nb, 0, none⟩)) (some 26) (fun o ho W hSw => ?y5) (by assumption) ?_
 case y5 => cases ho; simp [execOp, go_sem, Act.eval]
 simp only [Act.put, zzA, zzB, zzC]; refine hTk (i := 6) (v := .iface ty x) (some 27) (fun o ho W hSw => ?y6) (by assumption) ?_
 case y6 => cases ho; simp [execOp, go_sem, Act.eval, (HBX.out W hSw).1]
 simp only [Act.put, zzA, zzB, zzC]; refine hCallE (i := 7) (f := 109) (args := #[.iface ty x]) (some 28) (by kernel_rfl) (by kernel_rfl) (by kernel_rfl) (fun o ho => ?c7) HF2.out ?k7 (fun ch w' hh => by obtain ⟨_, _, h, _⟩ := hh; cases h) (fun w' hh => by obtain ⟨_, _, h, _⟩ := hh; cases h)
 case c7 => cases ho; simp [execOp, go_sem, Act.eval]
 case k7 =>
  rintro u W2 ⟨tp, tc, eq, hk2, hk3, hem⟩
  cases eq
  refine ⟨hk2, ?_⟩; have HE2 : Hid (Calls _ _ _ _ _) := hem; clear hem HF2 hS0; simp only [Act.put, zzA, zzB, zzC]; refine hTk (i := 8) (v := .agg #[.int .i64 op, .int .i64 0, .int .i64 0, .int .i64 t1, .int .i64 t2, .slice tp ml tc, .slice none 0 0, .slice none 0 0]) (some 29) (fun o ho W hSw => ?y8) (by assumption) ?_
  case y8 => cases ho; simp [execOp, go_sem, Act.eval]
  simp only [Act.put, zzA, zzB, zzC]; refine hStep (i := 9) (v := .slice (some ⟨W2.heap.size, 0, none⟩) 1 1) (w' := W2.alloc (.cells #[.int .i64 op, .int .i64 0, .int .i64 0, .int .i64 t1, .int .i64 t2, .slice tp ml tc, .slice none 0 0, .slice none 0 0] 72)) (some 30) (by kernel_rfl) (by kernel_rfl) (by kernel_rfl) (fun o ho => ?y9) hk3 ?_
  case y9 => cases ho; simp [execOp, go_sem, Act.eval]
  simp only [Act.put, zzA, zzB, zzC]; refine hCallE (i := 10) (f := 105) (args := #[ptrK kb, .slice (some ⟨W2.heap.size, 0, none⟩) 1 1]) (some 31) (by kernel_rfl) (by kernel_rfl) (by kernel_rfl) (fun o ho => ?c10) HE2.out ?k10 (fun ch w' hh => by obtain ⟨⟨_, h⟩, _⟩ := hh; cases h) (fun w' hh => by obtain ⟨⟨_, h⟩, _⟩ := hh; cases h)
  case c10 => cases ho; simp [execOp, go_sem, Act.eval]
  case k10 =>
   rintro u W4 ⟨⟨y, eq⟩, hk4, hp4⟩
   cases eq
   refine ⟨hk4, ?_⟩; have HP4 : Hid _ := hp4; clear hp4 HE2 hk2 hk3 hk4; simp only [Act.put, zzA, zzB, zzC]; refine wpAnyH_done (by kernel_rfl) ?_ _
   go_end0
   exact ⟨rfl, HP4.out⟩
set_option maxHeartbeats 4000000 in
theorem carryC_any (E : CEnv w1 kb pb rb pc cc C) (hB : CBase W0 w1 kb pb rb) (h : PK Z w1 kb pb rb pc cc C s w) (t : Tr) (c : Cel) (ty : TypeId) (x : Value) (op : Int) (hop : op = 23 ∨ op = 24 ∨ op = 25) (hfo : FoIn W0 0 t.fo [.iface ty x]) (hg : TG C.length t) (h3 : t.1.1 = 3) (hk : trs t.2 = [(c, .nil)]) (hc0 : c.1 = 0) (hn : s.out.length ≤ 800000000) (hx : s.nx ≤ 800000000) :
  Calls Tryz.prog 110 #[ptrK kb, fgV ty x op] w (PUnit' Z w1 kb pb rb pc cc C w ((choK C s c).2.put (insN op (choK C s c).1 0))) := by
 have hgk := hg.kid (x := (c, .nil)) (by rw [hk]; exact List.mem_cons_self ..); have hv := hgk.vr c (List.mem_cons_self ..) hc0
 obtain ⟨v, ev⟩ : ∃ v : Nat, c.2.1 = v := ⟨c.2.1.toNat, by omega⟩
 have hvl : v < C.length := by omega
 obtain ⟨b', g, evx, D0, D1, DK⟩ := comp_of hfo h3; rw [hk] at D1 DK; obtain ⟨ty2, y2, k1, k2⟩ := DK 0 (c, .nil) rfl; have ey := varV k2 hc0; rw [ey] at k1; simp only at k1; rw [ev] at k1
 obtain ⟨rfl, rfl⟩ : ty = 156 ∧ x = ptrK b' := by injection evx with e1 e2; exact ⟨e1, e2⟩
 obtain ⟨V, eV⟩ : ∃ V, V = w.alloc (.cells #[.iface 156 (ptrK b'), .int .i64 op] 118) := ⟨_, rfl⟩
 have hV : Below w.heap.size w V := by rw [eV]; exact new_lowK w _
 have hbV : V.heap[w.heap.size]? = some (.cells #[.iface 156 (ptrK b'), .int .i64 op] 118 (0, 0)) := by rw [eV]; exact heap_alloc_new w _
 have HI := isChoice_any 156 (ptrK b') op V hop
 obtain ⟨nb, enb⟩ : ∃ nb, nb = w.heap.size := ⟨_, rfl⟩
 have HNB : Hid (nb = w.heap.size) := enb
 obtain ⟨X, eX⟩ : ∃ X, X = choK C s c := ⟨_, rfl⟩
 have hXo : X.2.out.length ≤ 800000000 := by
  rw [eX]; unfold choK
  split
  ·exact hn
  ·show (regK C s c.2.1.toNat).2.2.out.length ≤ _
   rw [reg_out]; exact hn
 obtain ⟨F, eF⟩ : ∃ F, F = X.2.put (insN op X.1 0) := ⟨_, rfl⟩
 have HAR : Hid (∀ W, Below V.heap.size V W → (W.heap[nb]? = some (.cells #[.iface 156 (ptrK b'), .int .i64 op] 118 (0, 0)) ∧ W.cell? ⟨g, 0, none⟩ = some (.iface 94 (.int .i64 v))) ∧ Calls Tryz.prog 101 #[.iface 156 (ptrK b')] W.drew (fun e w' => e = .returned (.slice (some ⟨g, 0, none⟩) 1 1) ∧ w' = W.drew) ∧
   Calls Tryz.prog 178 #[ptrK kb, .iface 94 (.int .i64 v)] W.drew fun e W2 => e = .returned (.int .i64 X.1) ∧ (W2.heap[nb]? = some (.cells #[.iface 156 (ptrK b'), .int .i64 op] 118 (0, 0)) ∧ W2.cell? ⟨g, 0, none⟩ = some (.iface 94 (.int .i64 v))) ∧ ((W2.alloc (.cells #[.int .i64 op, .int .i64 X.1, .int .i64 0, .int .i64 0, .int .i64 0, .slice none 0 0, .slice none 0 0, .slice none 0 0] 72)).heap[nb]? = some (.cells #[.iface 156 (ptrK b'), .int .i64 op] 118 (0, 0)) ∧ (W2.alloc (.cells #[.int .i64 op, .int .i64 X.1, .int .i64 0, .int .i64 0, .int .i64 0, .slice none 0 0, .slice none 0 0, .slice none 0 0] 72)).cell? ⟨g, 0, none⟩ = some (.iface 94 (.int .i64 v))) ∧
   Calls Tryz.prog 105 #[ptrK kb, .slice (some ⟨W2.heap.size, 0, none⟩) 1 1] (W2.alloc (.cells #[.int .i64 op, .int .i64 X.1, .int .i64 0, .int .i64 0, .int .i64 0, .slice none 0 0, .slice none 0 0, .slice none 0 0] 72)) fun e w' => (∃ x, e = .returned (.int .i64 x)) ∧ (w'.heap[nb]? = some (.cells #[.iface 156 (ptrK b'), .int .i64 op] 118 (0, 0)) ∧ w'.cell? ⟨g, 0, none⟩ = some (.iface 94 (.int .i64 v))) ∧ PK Z w1 kb pb rb pc cc C F w' ∧ FrP Z [kb, pb, rb] w w') := fun W hW => by
  rw [enb]; have hbW := (hW.block _ (Array.getElem?_eq_some_iff.1 hbV).1).trans hbV; have hpW := h.below (Below.on hV hW)
  have hcell : ∀ U : World, Below W0.heap.size W0 U → U.cell? ⟨g, 0, none⟩ = some (.iface 94 (.int .i64 v)) := fun U hU => (hU.cell (World.block_lt_of_cell? _ _ k1)).trans k1
  have hd : Below W.heap.size W W.drew := below_drewK (Below.refl _ _); have hbs := hpW.base hB; refine ⟨⟨hbW, hcell W hbs⟩, peArgs_comp b' g 1 W.drew (((Below.on hbs hd).cell (World.block_lt_of_cell? _ _ D1)).trans D1), ?_⟩; refine (regCh_any E (hpW.below hd) c v ev hvl hx).mono ?_; rintro e W2 ⟨rfl, a2, a3⟩; rw [← eX] at a2 ⊢; have b2 := FrP.box a3 (show W.drew.heap[w.heap.size]? = _ from hbW) (by decide) (xlt E h); refine ⟨rfl, ⟨b2, hcell W2 (a2.base hB)⟩, ⟨((new_lowK W2 _).block _ (Array.getElem?_eq_some_iff.1 b2).1).trans b2, hcell _ ((a2.below (new_lowK W2 _)).base hB)⟩, ?_⟩; have h5 := emN_any E a2 op X.1 0 hXo (Below.refl _ _); rw [← eF] at h5; refine h5.mono ?_; rintro e w' ⟨c1, c2, c3⟩; exact ⟨c1, ⟨FrP.box c3 b2 (by decide) (xlt E h), hcell w' (c2.base hB)⟩, c2, (((FrP.of _ (Below.on hV hW)).trans (FrP.of _ hd)).trans a3).trans c3⟩
 have HBX : Hid (∀ W : World, W.heap[nb]? = some (.cells #[.iface 156 (ptrK b'), .int .i64 op] 118 (0, 0)) → W.cell? ⟨nb, 0, none⟩ = some (.iface 156 (ptrK b')) ∧ W.cell? ⟨nb, 1, none⟩ = some (.int .i64 op)) := fun W hW => ⟨by rw [cell_block hW]; rfl, by rw [cell_block hW]; rfl⟩
 obtain ⟨r, er⟩ : ∃ r, r = X.1 := ⟨_, rfl⟩
 rw [← eX, ← eF]; rw [← er] at HAR; rw [eV] at HI; have HV : Hid (V = w.alloc (.cells #[.iface 156 (ptrK b'), .int .i64 op] 118)) := eV; clear h E hB hfo hn hx hV hbV eV enb hop hgk hv ev hvl evx D0 D1 DK k1 k2 ey hXo eF eX er hg h3 hk hc0
 go_enter Tryz.func110, Tryz.ntmps110
 go_wp2_with fail; refine HI.mono ?_; rintro e W ⟨rfl, hb⟩; obtain ⟨hbW, har, hrg⟩ := HAR.out W (by rw [HV.out]; exact hb); rw [← HNB.out]; have HA2 : Hid (Calls _ _ _ _ _) := har; have HR2 : Hid (Calls _ _ _ _ _) := hrg; clear HI hb HAR har hrg HV HNB; go_wp2_with fail; refine wp_region_held_drew (S := fun W => W.heap[nb]? = some (.cells #[.iface 156 (ptrK b'), .int .i64 op] 118 (0, 0)) ∧ W.cell? ⟨g, 0, none⟩ = some (.iface 94 (.int .i64 v))) (by kernel_rfl) hbW (fun hHeld => ?_)
 change wpAnyH _ _ _ _ _ _ _ _ W.drew
 have hS0 : W.drew.heap[nb]? = some (.cells #[.iface 156 (ptrK b'), .int .i64 op] 118 (0, 0)) ∧ W.drew.cell? ⟨g, 0, none⟩ = some (.iface 94 (.int .i64 v)) := hbW; clear hHeld hbW; refine hTk (i := 0) (v := ptrK kb) (some 6) (fun o ho W hSw => ?y0) (by assumption) ?_
 case y0 => cases ho; simp [execOp, go_sem, Act.eval]
 simp only [Act.put, zzA, zzB, zzC]; refine hTk (i := 1) (v := ptrK kb) (some 7) (fun o ho W hSw => ?y1) (by assumption) ?_
 case y1 => cases ho; simp [execOp, go_sem, Act.eval]
 simp only [Act.put, zzA, zzB, zzC]; refine hTk (i := 2) (v := ptrK kb) (some 8) (fun o ho W hSw => ?y2) (by assumption) ?_
 case y2 => cases ho; simp [execOp, go_sem, Act.eval]
 simp only [Act.put, zzA, zzB, zzC]; refine hTk (i := 3) (v := .pointer (some ⟨nb, 1, none⟩)) (some 9) (fun o ho W hSw => ?y3) (by assumption) ?_
 case y3 => cases ho; simp [execOp, go_sem, Act.eval]
 simp only [Act.put, zzA, zzB, zzC]; refine hTk (i := 4) (v := .int .i64 op) (some 10) (fun o ho W hSw => ?y4) (by assumption) ?_
 case y4 => cases ho; simp [execOp, go_sem, Act.eval, (HBX.out W hSw.1).2]
 simp only [Act.put, zzA, zzB, zzC]; refine hTk (i := 5) (v := ptrK kb) (some 11) (fun o ho W hSw => ?y5) (by assumption) ?_
 case y5 => cases ho; simp [execOp, go_sem, Act.eval]
 simp only [Act.put, zzA, zzB, zzC]; refine hTk (i := 6) (v := .pointer (some ⟨nb, 0, none⟩)) (some 12) (fun o ho W hSw => ?y6) (by assumption) ?_
 case y6 => cases ho; simp [execOp, go_sem, Act.eval]
 simp only [Act.put, zzA, zzB, zzC]; refine hTk (i := 7) (v := .iface 156 (ptrK b')) (some 13) (fun o ho W hSw => ?y7) (by assumption) ?_
 case y7 => cases ho; simp [execOp, go_sem, Act.eval, (HBX.out W hSw.1).1]
 simp only [Act.put, zzA, zzB, zzC]; refine hCallE (i := 8) (f := 101) (args := #[.iface 156 (ptrK b')]) (some 14) (by kernel_rfl) (by kernel_rfl) (by kernel_rfl) (fun o ho => ?c8) HA2.out ?k8 (fun ch w' hh => by obtain ⟨h, _⟩ := hh; cases h) (fun w' hh => by obtain ⟨h, _⟩ := hh; cases h)
 case c8 => cases ho; simp [execOp, go_sem, Act.eval]
 case k8 =>
  rintro u W2 ⟨eq, hW2⟩
  cases eq
  rw [hW2]; refine ⟨hS0, ?_⟩; clear HA2 hW2; simp only [Act.put, zzA, zzB, zzC]; refine hTk (i := 9) (v := .pointer (some ⟨g, 0, none⟩)) (some 15) (fun o ho W hSw => ?y9) (by assumption) ?_
  case y9 => cases ho; simp [execOp, go_sem, Act.eval]
  simp only [Act.put, zzA, zzB, zzC]; refine hTk (i := 10) (v := .iface 94 (.int .i64 v)) (some 16) (fun o ho W hSw => ?y10) (by assumption) ?_
  case y10 => cases ho; simp [execOp, go_sem, Act.eval, hSw.2]
  simp only [Act.put, zzA, zzB, zzC]; refine hCallE (i := 11) (f := 178) (args := #[ptrK kb, .iface 94 (.int .i64 v)]) (some 17) (by kernel_rfl) (by kernel_rfl) (by kernel_rfl) (fun o ho => ?c11) HR2.out ?k11 (fun ch w' hh => by obtain ⟨h, _⟩ := hh; cases h) (fun w' hh => by obtain ⟨h, _⟩ := hh; cases h)
  case c11 => cases ho; simp [execOp, go_sem, Act.eval]
  case k11 =>
   rintro u W2 ⟨eq, hk2, hk3, hem⟩
   cases eq
   refine ⟨hk2, ?_⟩; have HE2 : Hid (Calls _ _ _ _ _) := hem; clear hem HR2 hS0; simp only [Act.put, zzA, zzB, zzC]; refine hTk (i := 12) (v := .agg #[.int .i64 op, .int .i64 r, .int .i64 0, .int .i64 0, .int .i64 0, .slice none 0 0, .slice none 0 0, .slice none 0 0]) (some 18) (fun o ho W hSw => ?y12) (by assumption) ?_
   case y12 => cases ho; simp [execOp, go_sem, Act.eval]
   simp only [Act.put, zzA, zzB, zzC]; refine hStep (i := 13) (v := .slice (some ⟨W2.heap.size, 0, none⟩) 1 1) (w' := W2.alloc (.cells #[.int .i64 op, .int .i64 r, .int .i64 0, .int .i64 0, .int .i64 0, .slice none 0 0, .slice none 0 0, .slice none 0 0] 72)) (some 19) (by kernel_rfl) (by kernel_rfl) (by kernel_rfl) (fun o ho => ?y13) hk3 ?_
   case y13 => cases ho; simp [execOp, go_sem, Act.eval]
   simp only [Act.put, zzA, zzB, zzC]; refine hCallE (i := 14) (f := 105) (args := #[ptrK kb, .slice (some ⟨W2.heap.size, 0, none⟩) 1 1]) (some 20) (by kernel_rfl) (by kernel_rfl) (by kernel_rfl) (fun o ho => ?c14) HE2.out ?k14 (fun ch w' hh => by obtain ⟨⟨_, h⟩, _⟩ := hh; cases h) (fun w' hh => by obtain ⟨⟨_, h⟩, _⟩ := hh; cases h)
   case c14 => cases ho; simp [execOp, go_sem, Act.eval]
   case k14 =>
    rintro u W4 ⟨⟨y, eq⟩, hk4, hp4⟩
    cases eq
    refine ⟨hk4, ?_⟩; have HP4 : Hid _ := hp4; clear hp4 HE2 hk2 hk3 hk4; simp only [Act.put, zzA, zzB, zzC]; refine wpAnyH_done (by kernel_rfl) ?_ _
    change Exit.then _ _ _ _ W4
    go_wp2_with fail
    go_end0
    exact ⟨rfl, HP4.out⟩
end
end Go.Proofs.YtickbkcpcgmlmaaGreatDoor
