/- Texts of CeD, CeE. Own work of the verifier. -/
import Derived.Test.YtickbkcpcgmlmaaGreatDoorUqar
import Derived.Test.YtickbkcpcgmlmaaGreatDoorUqax
import Derived.Test.YtickbkcpcgmlmaaGreatDoorUqav
namespace Go.Proofs.YtickbkcpcgmlmaaGreatDoor
set_option maxRecDepth 100000
open Go Go.RowKit Go.Maps
set_option linter.unusedVariables false
set_option linter.unusedSimpArgs false
theorem FrP.box {Z X : List Nat} {w w' : World} (h : FrP Z X w w') {b : Nat} {cs : Array Value} {t : TypeId} {fr : Nat × Nat} (hb : w.heap[b]? = some (.cells cs t fr)) (ht : t ≠ 72) (hX : b ∉ X) : w'.heap[b]? = some (.cells cs t fr) :=
 (h.block b (Array.getElem?_eq_some_iff.1 hb).1 hX fun ⟨vs, fr', hv⟩ => by
   rw [hb] at hv
   injection hv with hv
   injection hv with _ h2 _
   exact ht h2).trans hb
abbrev aoV (o : AO) : Value := .agg #[.int .i64 o.first, .int .i64 o.again, .int .i64 o.const, .int .i64 o.void]
def aoB (o : AO) : Obj := .cells #[.int .i64 o.first, .int .i64 o.again, .int .i64 o.const, .int .i64 o.void] 212 (0, 0)
section
variable {Z : List Nat} {W0 w1 : World} {kb pb rb : Nat} {pc : Option Addr} {cc : Nat} {C : List Int} {s : KS} {w : World}
theorem xlt (E : CEnv w1 kb pb rb pc cc C) (h : PK Z w1 kb pb rb pc cc C s w) : w.heap.size ∉ [kb, pb, rb] := fun hm => by
 have := h.lt _ hm; have := h.sty.size
 omega
theorem emit1_any (E : CEnv w1 kb pb rb pc cc C) {w0 : World} (h : PK Z w1 kb pb rb pc cc C s w0) (hb : Below w0.heap.size w0 w) (i : Iv) (tp : Option Addr) (tn tc : Nat) (hK : i.K = [] ∧ i.L = []) (ht : OwnT w w0.heap.size tp tn tc i.c.2.2) (hn : s.out.length ≤ 900000000) :
  Calls Tryz.prog 105 #[ptrK kb, .slice (some ⟨w.heap.size, 0, none⟩) 1 1] (w.alloc (.cells (riV (hdI i, tp, tn, tc)).toArray 72)) (PEm Z w1 kb pb rb pc cc C w0 (s.put i)) :=
 emit_any E h (Below.on hb (new_lowK w _)) i tp tn tc w.heap.size hK (ht.below (new_lowK w _)) (World.news_of_block (heap_alloc_new w _)) hn
set_option maxHeartbeats 4000000 in
theorem argC_any (E : CEnv w1 kb pb rb pc cc C) (hB : CBase W0 w1 kb pb rb) (h : PK Z w1 kb pb rb pc cc C s w) (t : Tr) (v : Value) (hfo : FoIn W0 0 t.fo [v]) (hok : t.fo.ok) (h0 : t.1.1 ≠ 0) (o : AO) (a : Int) (hn : s.out.length ≤ 800000000) :
  Calls Tryz.prog 175 #[ptrK kb, v, aoV o, .int .i64 a] w (PUnit' Z w1 kb pb rb pc cc C w (s.put (insC o.const 0 a t.1))) := by
 obtain ⟨ty, x, rfl, hty⟩ := othV hfo h0
 obtain ⟨W, eW⟩ : ∃ W, W = (w.alloc (aoB o)).drew := ⟨_, rfl⟩
 have hW : Below w.heap.size w W := by rw [eW]; exact below_drewK (new_lowK w _)
 have hbx : W.heap[w.heap.size]? = some (aoB o) := by rw [eW]; exact heap_alloc_new w _
 have HFC := firstCell_any t (.iface ty x) W hok (hfo.below (Below.on (h.base hB) hW)); obtain ⟨⟨t1, t2, tx⟩, tk⟩ := t; simp only at HFC
 have HEM : Hid (∀ tp tc W2, OwnT W2 W.heap.size tp tx.length tc tx → Below W.heap.size W W2 → W2.heap[w.heap.size]? = some (aoB o) ∧ (W2.alloc (.cells #[.int .i64 o.const, .int .i64 0, .int .i64 a, .int .i64 t1, .int .i64 t2, .slice tp tx.length tc, .slice none 0 0, .slice none 0 0] 72)).heap[w.heap.size]? = some (aoB o) ∧
   Calls Tryz.prog 105 #[ptrK kb, .slice (some ⟨W2.heap.size, 0, none⟩) 1 1] (W2.alloc (.cells #[.int .i64 o.const, .int .i64 0, .int .i64 a, .int .i64 t1, .int .i64 t2, .slice tp tx.length tc, .slice none 0 0, .slice none 0 0] 72)) fun e w' => (∃ x, e = .returned (.int .i64 x)) ∧ w'.heap[w.heap.size]? = some (aoB o) ∧ PUnit' Z w1 kb pb rb pc cc C w (s.put (insC o.const 0 a (t1, t2, tx))) (.returned (.tuple #[])) w') := fun tp tc W2 ht hb2 => by
  have hk2 : W2.heap[w.heap.size]? = some (aoB o) := (hb2.block _ (Array.getElem?_eq_some_iff.1 hbx).1).trans hbx; have hk3 := ((new_lowK W2 (.cells #[.int .i64 o.const, .int .i64 0, .int .i64 a, .int .i64 t1, .int .i64 t2, .slice tp tx.length tc, .slice none 0 0, .slice none 0 0] 72)).block _ (Array.getElem?_eq_some_iff.1 hk2).1).trans hk2; refine ⟨hk2, hk3, ?_⟩; have h1 := emit1_any E (h.below hW) hb2 (insC o.const 0 a (t1, t2, tx)) tp tx.length tc ⟨rfl, rfl⟩ ht (by omega)
  refine h1.mono fun e w' ⟨a1, a2, a3⟩ => ⟨a1, ?_, rfl, a2, (FrP.of _ hW).trans a3⟩
  exact FrP.box a3 hbx (by decide) (xlt E h)
 have HW : Hid (W = (w.alloc (aoB o)).drew) := eW
 obtain ⟨k, ek⟩ : ∃ k, k = w.heap.size := ⟨_, rfl⟩
 have HK : Hid (k = w.heap.size) := ek; rw [← ek] at HEM hbx; have hobj : aoB o = .cells #[.int .i64 o.first, .int .i64 o.again, .int .i64 o.const, .int .i64 o.void] 212 (0, 0) := rfl; obtain ⟨o1, o2, o3, o4⟩ := o; simp only at HEM hobj
 obtain ⟨ob, eob⟩ : ∃ ob, ob = aoB ⟨o1, o2, o3, o4⟩ := ⟨_, rfl⟩
 have HOB : Hid (ob = Obj.cells #[.int .i64 o1, .int .i64 o2, .int .i64 o3, .int .i64 o4] 212 (0, 0)) := by rw [eob]; exact hobj
 rw [← eob] at HEM hbx HW
 have HC2 : Hid (∀ W : World, W.heap[k]? = some ob → W.cell? ⟨k, 2, none⟩ = some (.int .i64 o3)) := fun W hW => by rw [HOB.out] at hW; rw [cell_block hW]; rfl
 obtain ⟨m, em⟩ : ∃ m, m = tx.length := ⟨_, rfl⟩
 have HM : Hid (m = tx.length) := em
 have HFC' : Calls Tryz.prog 109 #[.iface ty x] W fun e w' => ∃ tp tc, e = .returned (.agg #[.int .i64 t1, .int .i64 t2, .slice tp m tc]) ∧ OwnT w' W.heap.size tp m tc tx ∧ Below W.heap.size W w' := by rw [em]; exact HFC
 rw [← em] at HEM; clear h E hB hfo hok h0 hW eW ek eob hobj hn em HFC
 have hna : ∀ (w : World) (x : Value), (Instr.typeAssert (.iface ty x) 56 94 true).run Tryz.prog w = .ok (.tuple #[.int .i64 0, .bool false]) w := by
  rcases hty with rfl | rfl | rfl
  ·exact nbA_num_var
  ·exact nbA_atom_var
  ·exact nbA_comp_var
 clear hty
 ·go_enter Tryz.func175, Tryz.ntmps175
  go_wp2_with fail; refine wp_region_held_drew (S := fun W => W.heap[k]? = some ob) (by kernel_rfl) ?_ (fun hHeld => ?_)
  ·change (w.alloc (.cells #[.int .i64 o1, .int .i64 o2, .int .i64 o3, .int .i64 o4] 212 (0, 0))).drew.heap[k]? = some ob
   rw [← HOB.out, ← HW.out]; exact hbx
  change wpAnyH _ _ _ _ _ _ _ _ (w.alloc (.cells #[.int .i64 o1, .int .i64 o2, .int .i64 o3, .int .i64 o4] 212 (0, 0))).drew
  rw [← HOB.out, ← HW.out, ← HK.out]; clear hHeld HW HK HOB; refine hTk (i := 0) (v := ptrK kb) (some 41) (fun o ho W hSw => ?y0) (by assumption) ?_
  case y0 => cases ho; simp [execOp, go_sem, Act.eval]
  simp only [Act.put, zzA, zzB, zzC]; refine hTk (i := 1) (v := ptrK kb) (some 42) (fun o ho W hSw => ?y1) (by assumption) ?_
  case y1 => cases ho; simp [execOp, go_sem, Act.eval]
  simp only [Act.put, zzA, zzB, zzC]; refine hTk (i := 2) (v := ptrK kb) (some 43) (fun o ho W hSw => ?y2) (by assumption) ?_
  case y2 => cases ho; simp [execOp, go_sem, Act.eval]
  simp only [Act.put, zzA, zzB, zzC]; refine hTk (i := 3) (v := .pointer (some ⟨k, 2, none⟩)) (some 44) (fun o ho W hSw => ?y3) (by assumption) ?_
  case y3 => cases ho; simp [execOp, go_sem, Act.eval]
  simp only [Act.put, zzA, zzB, zzC]; refine hTk (i := 4) (v := .int .i64 o3) (some 45) (fun o ho W hSw => ?y4) (by assumption) ?_
  case y4 => cases ho; simp [execOp, go_sem, Act.eval, HC2.out W hSw]
  simp only [Act.put, zzA, zzB, zzC]; refine hTk (i := 5) (v := .int .i64 a) (some 46) (fun o ho W hSw => ?y5) (by assumption) ?_
  case y5 => cases ho; simp [execOp, go_sem, Act.eval]
  simp only [Act.put, zzA, zzB, zzC]; refine hTk (i := 6) (v := .iface ty x) (some 47) (fun o ho W hSw => ?y6) (by assumption) ?_
  case y6 => cases ho; simp [execOp, go_sem, Act.eval]
  simp only [Act.put, zzA, zzB, zzC]; refine hCallE (i := 7) (f := 109) (args := #[.iface ty x]) (some 48) (by kernel_rfl) (by kernel_rfl) (by kernel_rfl) (fun o ho => ?c7) HFC' ?k7 (fun ch w' hh => by obtain ⟨_, _, h, _⟩ := hh; cases h) (fun w' hh => by obtain ⟨_, _, h, _⟩ := hh; cases h)
  case c7 => cases ho; simp [execOp, go_sem, Act.eval]
  case k7 =>
   rintro u W2 ⟨tp, tc, eq, hT, hb2⟩
   cases eq
   obtain ⟨k2, k3, hem⟩ := HEM.out tp tc W2 hT hb2; refine ⟨k2, ?_⟩; have HE2 : Hid _ := hem; clear hT hb2 HFC' HEM; simp only [Act.put, zzA, zzB, zzC]; refine hTk (i := 8) (v := .agg #[.int .i64 o3, .int .i64 0, .int .i64 a, .int .i64 t1, .int .i64 t2, .slice tp m tc, .slice none 0 0, .slice none 0 0]) (some 49) (fun o ho W hSw => ?y8) (by assumption) ?_
   case y8 => cases ho; simp [execOp, go_sem, Act.eval]
   simp only [Act.put, zzA, zzB, zzC]; refine hStep (i := 9) (v := .slice (some ⟨W2.heap.size, 0, none⟩) 1 1) (w' := W2.alloc (.cells #[.int .i64 o3, .int .i64 0, .int .i64 a, .int .i64 t1, .int .i64 t2, .slice tp m tc, .slice none 0 0, .slice none 0 0] 72)) (some 50) (by kernel_rfl) (by kernel_rfl) (by kernel_rfl) (fun o ho => ?y9) k3 ?_
   case y9 => cases ho; simp [execOp, go_sem, Act.eval]
   simp only [Act.put, zzA, zzB, zzC]; refine hCallE (i := 10) (f := 105) (args := #[ptrK kb, .slice (some ⟨W2.heap.size, 0, none⟩) 1 1]) (some 51) (by kernel_rfl) (by kernel_rfl) (by kernel_rfl) (fun o ho => ?c10) HE2.out ?k10 (fun ch w' hh => by obtain ⟨⟨_, h⟩, _⟩ := hh; cases h) (fun w' hh => by obtain ⟨⟨_, h⟩, _⟩ := hh; cases h)
   case c10 => cases ho; simp [execOp, go_sem, Act.eval]
   case k10 =>
    rintro u W4 ⟨⟨y, eq⟩, hk4, hp4⟩
    cases eq
    refine ⟨hk4, ?_⟩; have HP4 : Hid _ := hp4; clear hp4 HE2; simp only [Act.put, zzA, zzB, zzC]; refine wpAnyH_done (by kernel_rfl) ?_ _
    unfold Exit.inBlock
    go_wp2_with fail
    go_end0
    exact ⟨rfl, HP4.out.2⟩
set_option maxHeartbeats 4000000 in
theorem argV0_any (E : CEnv w1 kb pb rb pc cc C) (h : PK Z w1 kb pb rb pc cc C s w) (v : Nat) (hv : v < C.length) (hc : C.getD v 0 = 0) (o : AO) (a : Int) (hn : s.out.length ≤ 800000000) :
  Calls Tryz.prog 175 #[ptrK kb, .iface 94 (.int .i64 v), aoV o, .int .i64 a] w (PUnit' Z w1 kb pb rb pc cc C w (s.put (insN o.void 0 a))) := by
 obtain ⟨W, eW⟩ : ∃ W, W = w.alloc (aoB o) := ⟨_, rfl⟩
 have hW : Below w.heap.size w W := by rw [eW]; exact new_lowK w _
 have hbx : W.heap[w.heap.size]? = some (aoB o) := by rw [eW]; exact heap_alloc_new w _
 have HIV := isVoidV_any E (h.below hW) v hv; rw [hc] at HIV; have hWd : Below w.heap.size w W.drew := below_drewK hW; have hk3 : (W.drew.alloc (.cells #[.int .i64 o.void, .int .i64 0, .int .i64 a, .int .i64 0, .int .i64 0, .slice none 0 0, .slice none 0 0, .slice none 0 0] 72)).heap[w.heap.size]? = some (aoB o) := ((new_lowK W.drew _).block _ (Array.getElem?_eq_some_iff.1 hbx).1).trans hbx
 have HEM : Hid (Calls Tryz.prog 105 #[ptrK kb, .slice (some ⟨W.drew.heap.size, 0, none⟩) 1 1] (W.drew.alloc (.cells #[.int .i64 o.void, .int .i64 0, .int .i64 a, .int .i64 0, .int .i64 0, .slice none 0 0, .slice none 0 0, .slice none 0 0] 72)) fun e w' => (∃ x, e = .returned (.int .i64 x)) ∧ w'.heap[w.heap.size]? = some (aoB o) ∧ PUnit' Z w1 kb pb rb pc cc C w (s.put (insN o.void 0 a)) (.returned (.tuple #[])) w') := by
  have h1 := emit1_any E (h.below hWd) (Below.refl _ _) (insN o.void 0 a) none 0 0 ⟨rfl, rfl⟩ ⟨rfl, fun h => by omega⟩ (by omega)
  refine h1.mono fun e w' ⟨a1, a2, a3⟩ => ⟨a1, ?_, rfl, a2, (FrP.of _ hWd).trans a3⟩
  exact FrP.box a3 (show W.drew.heap[w.heap.size]? = _ from hbx) (by decide) (xlt E h)
 have HW : Hid (W = w.alloc (aoB o)) := eW
 obtain ⟨k, ek⟩ : ∃ k, k = w.heap.size := ⟨_, rfl⟩
 have HK : Hid (k = w.heap.size) := ek; rw [← ek] at HEM hbx hk3; obtain ⟨o1, o2, o3, o4⟩ := o; simp only at HEM hk3
 obtain ⟨ob, eob⟩ : ∃ ob, ob = aoB ⟨o1, o2, o3, o4⟩ := ⟨_, rfl⟩
 have HOB : Hid (ob = Obj.cells #[.int .i64 o1, .int .i64 o2, .int .i64 o3, .int .i64 o4] 212 (0, 0)) := by rw [eob]; rfl
 rw [← eob] at HEM hbx HW hk3
 have HC2 : Hid (∀ W : World, W.heap[k]? = some ob → W.cell? ⟨k, 3, none⟩ = some (.int .i64 o4)) := fun W hW => by rw [HOB.out] at hW; rw [cell_block hW]; rfl
 obtain ⟨WD, eWD⟩ : ∃ WD, WD = W.drew := ⟨_, rfl⟩
 have hbd : WD.heap[k]? = some ob := by rw [eWD]; exact hbx
 have HWD : Hid (WD = W.drew) := eWD; rw [← eWD] at HEM hk3
 have HIV' : Calls Tryz.prog 174 #[ptrK kb, .iface 94 (.int .i64 v)] (w.alloc (.cells #[.int .i64 o1, .int .i64 o2, .int .i64 o3, .int .i64 o4] 212 (0, 0))) fun e w' => e = .returned (.bool true) ∧ w' = W := by
  rw [← HOB.out, ← HW.out]; exact HIV
 clear h E hW eW ek eob hn HIV eWD hWd hv hc; have n1 := nbA_var_var
 go_enter Tryz.func175, Tryz.ntmps175
 go_wp2_with fail; refine HIV'.mono ?_; rintro e W2 ⟨rfl, hW2⟩; rw [hW2, ← HK.out]; clear hW2 HIV'; go_wp2_with fail; refine wp_region_held_drew (S := fun W => W.heap[k]? = some ob) (by kernel_rfl) hbx (fun hHeld => ?_)
 change wpAnyH _ _ _ _ _ _ _ _ W.drew
 rw [← HWD.out]; clear hHeld HW HK HOB HWD hbx; refine hTk (i := 0) (v := ptrK kb) (some 57) (fun o ho W hSw => ?y0) (by assumption) ?_
 case y0 => cases ho; simp [execOp, go_sem, Act.eval]
 simp only [Act.put, zzA, zzB, zzC]; refine hTk (i := 1) (v := ptrK kb) (some 58) (fun o ho W hSw => ?y1) (by assumption) ?_
 case y1 => cases ho; simp [execOp, go_sem, Act.eval]
 simp only [Act.put, zzA, zzB, zzC]; refine hTk (i := 2) (v := ptrK kb) (some 59) (fun o ho W hSw => ?y2) (by assumption) ?_
 case y2 => cases ho; simp [execOp, go_sem, Act.eval]
 simp only [Act.put, zzA, zzB, zzC]; refine hTk (i := 3) (v := .pointer (some ⟨k, 3, none⟩)) (some 60) (fun o ho W hSw => ?y3) (by assumption) ?_
 case y3 => cases ho; simp [execOp, go_sem, Act.eval]
 simp only [Act.put, zzA, zzB, zzC]; refine hTk (i := 4) (v := .int .i64 o4) (some 61) (fun o ho W hSw => ?y4) (by assumption) ?_
 case y4 => cases ho; simp [execOp, go_sem, Act.eval, HC2.out W hSw]
 simp only [Act.put, zzA, zzB, zzC]; refine hTk (i := 5) (v := .int .i64 a) (some 62) (fun o ho W hSw => ?y5) (by assumption) ?_
 case y5 => cases ho; simp [execOp, go_sem, Act.eval]
 simp only [Act.put, zzA, zzB, zzC]; refine hTk (i := 6) (v := .agg #[.int .i64 o4, .int .i64 0, .int .i64 a, .int .i64 0, .int .i64 0, .slice none 0 0, .slice none 0 0, .slice none 0 0]) (some 63) (fun o ho W hSw => ?y6) (by assumption) ?_
 case y6 => cases ho; simp [execOp, go_sem, Act.eval]
 simp only [Act.put, zzA, zzB, zzC]; refine hStep (i := 7) (v := .slice (some ⟨WD.heap.size, 0, none⟩) 1 1) (w' := WD.alloc (.cells #[.int .i64 o4, .int .i64 0, .int .i64 a, .int .i64 0, .int .i64 0, .slice none 0 0, .slice none 0 0, .slice none 0 0] 72)) (some 64) (by kernel_rfl) (by kernel_rfl) (by kernel_rfl) (fun o ho => ?y7) hk3 ?_
 case y7 => cases ho; simp [execOp, go_sem, Act.eval]
 simp only [Act.put, zzA, zzB, zzC]; refine hCallE (i := 8) (f := 105) (args := #[ptrK kb, .slice (some ⟨WD.heap.size, 0, none⟩) 1 1]) (some 65) (by kernel_rfl) (by kernel_rfl) (by kernel_rfl) (fun o ho => ?c8) HEM.out ?k8 (fun ch w' hh => by obtain ⟨⟨_, h⟩, _⟩ := hh; cases h) (fun w' hh => by obtain ⟨⟨_, h⟩, _⟩ := hh; cases h)
 case c8 => cases ho; simp [execOp, go_sem, Act.eval]
 case k8 =>
  rintro u W4 ⟨⟨y, eq⟩, hk4, hp4⟩
  cases eq
  refine ⟨hk4, ?_⟩; have HP4 : Hid _ := hp4; clear hp4 HEM; simp only [Act.put, zzA, zzB, zzC]; refine wpAnyH_done (by kernel_rfl) ?_ _
  unfold Exit.inBlock
  go_wp2_with fail
  go_end0
  exact ⟨rfl, HP4.out.2⟩
set_option maxHeartbeats 4000000 in
theorem argVr_any (E : CEnv w1 kb pb rb pc cc C) (h : PK Z w1 kb pb rb pc cc C s w) (v : Nat) (hv : v < C.length) (hc : ¬ C.getD v 0 = 0) (o : AO) (a : Int) (hn : s.out.length ≤ 800000000) (hx : s.nx ≤ 800000000) :
  Calls Tryz.prog 175 #[ptrK kb, .iface 94 (.int .i64 v), aoV o, .int .i64 a] w (PUnit' Z w1 kb pb rb pc cc C w ((regK C s v).2.2.put (insN (if (regK C s v).2.1 then o.first else o.again) (regK C s v).1 a))) := by
 obtain ⟨W, eW⟩ : ∃ W, W = w.alloc (aoB o) := ⟨_, rfl⟩
 have hW : Below w.heap.size w W := by rw [eW]; exact new_lowK w _
 have hbx : W.heap[w.heap.size]? = some (aoB o) := by rw [eW]; exact heap_alloc_new w _
 have HIV := isVoidV_any E (h.below hW) v hv
 have hcb : (C.getD v 0 == 0) = false := by simpa using hc
 rw [hcb] at HIV; have HRG := register_any E (h.below hW) v hv (by omega)
 have hro : (regK C s v).2.2.out.length ≤ 800000000 := by rw [reg_out]; exact hn
 obtain ⟨X, eX⟩ : ∃ X, X = regK C s v := ⟨_, rfl⟩
 rw [← eX] at HRG hro ⊢
 have HFR : Hid (∀ W2, FrP Z [kb, pb, rb] W W2 → W2.heap[w.heap.size]? = some (aoB o)) := fun W2 hf => FrP.box hf hbx (by decide) (xlt E h)
 have HEM : Hid (∀ W2 op, PK Z w1 kb pb rb pc cc C X.2.2 W2 → FrP Z [kb, pb, rb] W W2 → Calls Tryz.prog 105 #[ptrK kb, .slice (some ⟨W2.heap.size, 0, none⟩) 1 1] (W2.alloc (.cells #[.int .i64 op, .int .i64 X.1, .int .i64 a, .int .i64 0, .int .i64 0, .slice none 0 0, .slice none 0 0, .slice none 0 0] 72)) fun e w' => (∃ x, e = .returned (.int .i64 x)) ∧ PUnit' Z w1 kb pb rb pc cc C w (X.2.2.put (insN op X.1 a)) (.returned (.tuple #[])) w') := fun W2 op hm hf => by
  have h1 := emit1_any E hm (Below.refl _ _) (insN op X.1 a) none 0 0 ⟨rfl, rfl⟩ ⟨rfl, fun h => by omega⟩ (by omega)
  exact h1.mono fun e w' ⟨a1, a2, a3⟩ => ⟨a1, rfl, a2, ((FrP.of _ hW).trans hf).trans a3⟩
 obtain ⟨k, ek⟩ : ∃ k, k = w.heap.size := ⟨_, rfl⟩
 have HK : Hid (k = w.heap.size) := ek; rw [← ek] at hbx HFR; obtain ⟨o1, o2, o3, o4⟩ := o; have HOB : Hid (aoB ⟨o1, o2, o3, o4⟩ = Obj.cells #[.int .i64 o1, .int .i64 o2, .int .i64 o3, .int .i64 o4] 212 (0, 0)) := rfl
 have HW : Hid (W = w.alloc (.cells #[.int .i64 o1, .int .i64 o2, .int .i64 o3, .int .i64 o4] 212 (0, 0))) := by rw [← HOB.out]; exact eW
 have HCS : Hid (∀ W : World, W.heap[k]? = some (aoB ⟨o1, o2, o3, o4⟩) → W.cell? ⟨k, 0, none⟩ = some (.int .i64 o1) ∧ W.cell? ⟨k, 1, none⟩ = some (.int .i64 o2)) := fun W hW => by rw [HOB.out] at hW; exact ⟨by rw [cell_block hW]; rfl, by rw [cell_block hW]; rfl⟩
 have HIV' : Calls Tryz.prog 174 #[ptrK kb, .iface 94 (.int .i64 v)] (w.alloc (.cells #[.int .i64 o1, .int .i64 o2, .int .i64 o3, .int .i64 o4] 212 (0, 0))) fun e w' => e = .returned (.bool false) ∧ w' = W := by
  rw [← HW.out]; exact HIV
 obtain ⟨d0, d1⟩ := HCS.out W hbx; obtain ⟨r, fi, st⟩ := X; simp only at HEM ⊢; clear h E hW eW ek hn HIV eX hro hcb hbx hv hc hx; have n1 := nbA_var_var
 cases fi with
 | true =>
   rw [if_pos rfl]
   go_enter Tryz.func175, Tryz.ntmps175
   go_wp2_with fail; refine HIV'.mono ?_; rintro e W2 ⟨rfl, hW2⟩; rw [hW2, ← HK.out]; clear hW2 HIV'; go_wp2_with fail; refine HRG.mono ?_; rintro e W3 ⟨rfl, hm, hf⟩; obtain ⟨e0, e1⟩ := HCS.out W3 (HFR.out W3 hf); have HA := HEM.out W3 o1 hm hf; clear hm hf HEM HRG d0 d1 HFR HCS; go_wp2_with fail; refine HA.mono ?_; rintro e W4 ⟨⟨y, rfl⟩, hp4⟩; have HP4 : Hid _ := hp4; clear hp4 HA; go_wp2_with fail
   go_end0
   exact ⟨rfl, HP4.out.2⟩
 | false =>
   rw [if_neg (by decide)]
   go_enter Tryz.func175, Tryz.ntmps175
   go_wp2_with fail; refine HIV'.mono ?_; rintro e W2 ⟨rfl, hW2⟩; rw [hW2, ← HK.out]; clear hW2 HIV'; go_wp2_with fail; refine HRG.mono ?_; rintro e W3 ⟨rfl, hm, hf⟩; obtain ⟨e0, e1⟩ := HCS.out W3 (HFR.out W3 hf); have HA := HEM.out W3 o2 hm hf; clear hm hf HEM HRG d0 d1 HFR HCS; go_wp2_with fail; refine HA.mono ?_; rintro e W4 ⟨⟨y, rfl⟩, hp4⟩; have HP4 : Hid _ := hp4; clear hp4 HA; go_wp2_with fail
   go_end0
   exact ⟨rfl, HP4.out.2⟩
theorem argument_any (E : CEnv w1 kb pb rb pc cc C) (hB : CBase W0 w1 kb pb rb) (h : PK Z w1 kb pb rb pc cc C s w) (t : Tr) (v : Value) (hfo : FoIn W0 0 t.fo [v]) (hg : TG C.length t) (o : AO) (a : Int) (hn : s.out.length ≤ 800000000) (hx : s.nx ≤ 800000000) :
  Calls Tryz.prog 175 #[ptrK kb, v, aoV o, .int .i64 a] w (PUnit' Z w1 kb pb rb pc cc C w (argK C o s t.1 a)) := by
 unfold argK
 by_cases h0 : t.1.1 = 0
 ·rw [if_pos h0]
  have hv := hg.vr t.1 (List.mem_cons_self ..) h0
  obtain ⟨u, eu⟩ : ∃ u : Nat, (u : Int) = t.1.2.1 := ⟨t.1.2.1.toNat, by omega⟩
  have et : t.1.2.1.toNat = u := by omega
  unfold vcl
  rw [et, varV hfo h0, ← eu]
  by_cases h2 : C.getD u 0 = 0
  ·rw [if_pos h2]
   exact argV0_any E h u (by omega) h2 o a hn
  ·rw [if_neg h2]
   exact argVr_any E h u (by omega) h2 o a hn hx
 ·rw [if_neg h0]
  exact argC_any E hB h t v hfo hg.ok h0 o a hn
end
theorem FoIn.atK {w : World} {B : Nat} : ∀ (F : Fo) (vs : List Value), FoIn w B F vs → ∀ (j : Nat) (x : Tr), (trs F)[j]? = some x → ∃ ty y, vs[j]? = some (.iface ty y) ∧ FoIn w B x.fo [.iface ty y]
 | .nil, vs, h, j, x, hx => by simp [trs] at hx
 | .node c k r, vs, ⟨v, vr, e, hn, hr⟩, 0, x, hx => by
   obtain rfl : (c, k) = x := by simpa [trs] using hx
   obtain ⟨ty, y, rfl⟩ := hn.iface; exact ⟨ty, y, by rw [e]; rfl, _, [], rfl, hn, rfl⟩
 | .node c k r, vs, ⟨v, vr, e, hn, hr⟩, j + 1, x, hx => by
   obtain ⟨ty, y, h1, h2⟩ := FoIn.atK r vr hr j x (by simpa [trs] using hx); exact ⟨ty, y, by rw [e]; simpa using h1, h2⟩
theorem comp_of {W0 : World} {B : Nat} {t : Tr} {v : Value} (h : FoIn W0 B t.fo [v]) (h3 : t.1.1 = 3) : ∃ b g, v = .iface 156 (ptrK b) ∧ W0.cell? ⟨b, 0, none⟩ = some (.string (strOfNums t.1.2.2)) ∧ W0.cell? ⟨b, 1, none⟩ = some (.slice (some ⟨g, 0, none⟩) (trs t.2).length (trs t.2).length) ∧
  ∀ (j : Nat) (x : Tr), (trs t.2)[j]? = some x → ∃ ty y, W0.cell? ⟨g, j, none⟩ = some (.iface ty y) ∧ FoIn W0 B x.fo [.iface ty y] := by
 obtain ⟨v', vr, e, hn, _⟩ := h; obtain ⟨rfl, rfl⟩ := List.cons.inj e
 rcases hn with ⟨h1, _⟩ | ⟨h1, _⟩ | ⟨h1, _⟩ | ⟨h1, b, g, vs, h2, _, _, c0, c1, hg, cg, hk⟩
 ·rw [h1] at h3; cases h3
 ·rw [h1] at h3; cases h3
 ·rw [h1] at h3; cases h3
 ·have hl : vs.length = (trs t.2).length := by rw [trs_len]; exact FoIn.count _ _ hk
  rw [hl] at c1; refine ⟨b, g, h2, c0, c1, fun j x hx => ?_⟩; obtain ⟨ty, y, k1, k2⟩ := FoIn.atK _ _ hk j x hx; refine ⟨ty, y, ?_, k2⟩; have hj := (List.getElem?_eq_some_iff.1 k1).1; rw [cg j hj, List.getD_eq_getElem?_getD, k1]; rfl
theorem notComp {W0 : World} {B : Nat} {t : Tr} {v : Value} (h : FoIn W0 B t.fo [v]) (h3 : t.1.1 ≠ 3) : ∃ ty x, v = .iface ty x ∧ ∀ (w : World) (y : Value), (Instr.typeAssert (.iface ty y) 56 156 true).run Tryz.prog w = .ok (.tuple #[.pointer none, .bool false]) w := by
 obtain ⟨v', vr, e, hn, _⟩ := h; obtain ⟨rfl, rfl⟩ := List.cons.inj e
 rcases hn with ⟨h1, h2⟩ | ⟨h1, h2⟩ | ⟨h1, h2⟩ | ⟨h1, b, g, vs, h2, _⟩
 ·exact ⟨_, _, h2, nbA_var_comp⟩
 ·exact ⟨_, _, h2, nbA_num_comp⟩
 ·exact ⟨_, _, h2, nbA_atom_comp⟩
 ·exact absurd h1 h3
section
variable {Z : List Nat} {W0 w1 : World} {kb pb rb : Nat} {pc : Option Addr} {cc : Nat} {C : List Int} {s : KS} {w : World}
theorem emF_any (E : CEnv w1 kb pb rb pc cc C) (hB : CBase W0 w1 kb pb rb) (h : PK Z w1 kb pb rb pc cc C s w) (t : Tr) (v : Value) (hfo : FoIn W0 0 t.fo [v]) (hok : t.fo.ok) (op r a : Int) (hn : s.out.length ≤ 800000000) {W : World} (hW : Below w.heap.size w W) :
  Calls Tryz.prog 109 #[v] W fun e W2 => ∃ tp tc, e = .returned (.agg #[.int .i64 t.1.1, .int .i64 t.1.2.1, .slice tp t.1.2.2.length tc]) ∧ Below W.heap.size W W2 ∧ Calls Tryz.prog 105 #[ptrK kb, .slice (some ⟨W2.heap.size, 0, none⟩) 1 1] (W2.alloc (.cells #[.int .i64 op, .int .i64 r, .int .i64 a, .int .i64 t.1.1, .int .i64 t.1.2.1, .slice tp t.1.2.2.length tc, .slice none 0 0, .slice none 0 0] 72)) (PEm Z w1 kb pb rb pc cc C w (s.put (insC op r a t.1))) := by
 refine (firstCell_any t v W hok (hfo.below (Below.on (h.base hB) hW))).mono ?_; rintro e W2 ⟨tp, tc, rfl, hT, hb⟩; refine ⟨tp, tc, rfl, hb, ?_⟩; refine (emit1_any E (h.below hW) hb (insC op r a t.1) tp t.1.2.2.length tc ⟨rfl, rfl⟩ hT (by omega)).mono ?_; rintro e w' ⟨a1, a2, a3⟩; exact ⟨a1, a2, (FrP.of _ hW).trans a3⟩
theorem emN_any (E : CEnv w1 kb pb rb pc cc C) (h : PK Z w1 kb pb rb pc cc C s w) (op r a : Int) (hn : s.out.length ≤ 800000000) {W : World} (hW : Below w.heap.size w W) :
  Calls Tryz.prog 105 #[ptrK kb, .slice (some ⟨W.heap.size, 0, none⟩) 1 1] (W.alloc (.cells #[.int .i64 op, .int .i64 r, .int .i64 a, .int .i64 0, .int .i64 0, .slice none 0 0, .slice none 0 0, .slice none 0 0] 72)) (PEm Z w1 kb pb rb pc cc C w (s.put (insN op r a))) :=
 emit1_any E h hW (insN op r a) none 0 0 ⟨rfl, rfl⟩ ⟨rfl, fun h => by omega⟩ (by omega)
def cellsQ (Q : List ((Tr × Int) × Nat)) : List Value := Q.flatMap fun x => [ptrK x.2, .int .i64 x.1.2]
theorem cellsQ_snoc (Q : List ((Tr × Int) × Nat)) (x : (Tr × Int) × Nat) : cellsQ (Q ++ [x]) = cellsQ Q ++ [ptrK x.2, .int .i64 x.1.2] := by unfold cellsQ; rw [List.flatMap_append]; rfl
structure PQ (Z : List Nat) (W0 w1 : World) (kb pb rb : Nat) (pc : Option Addr) (cc : Nat) (C : List Int) (w : World) (M ob : Nat) (wr : World) (s : KS) (Q : List ((Tr × Int) × Nat)) (p : Option Addr) (b o c n : Nat) : Prop where
 st : PK (b :: Z) w1 kb pb rb pc cc C s wr
 fr : FrP Z [kb, pb, rb] w wr
 bx : wr.heap[ob]? = some (aoB uniJ)
 nl : n = Q.length
 qr : QR wr w.heap.size 209 2 p b o n c (cellsQ Q)
 tr : ∀ x ∈ Q, FoIn W0 0 x.1.1.fo [.iface 156 (ptrK x.2)] ∧ TG C.length x.1.1 ∧ x.1.1.1.1 = 3
 out : s.out.length + Q.length ≤ M
 nx : s.nx ≤ M
 lw : w1.heap.size ≤ w.heap.size
 ox : w.heap.size ≤ ob
 hx : ∀ x ∈ [kb, pb, rb], x < w.heap.size
section
variable {M ob n : Nat} {wr : World} {Q : List ((Tr × Int) × Nat)} {p : Option Addr} {b o c : Nat}
theorem PQ.below {W : World} (h : PQ Z W0 w1 kb pb rb pc cc C w M ob wr s Q p b o c n) (hb : Below wr.heap.size wr W) : PQ Z W0 w1 kb pb rb pc cc C w M ob W s Q p b o c n := ⟨h.st.below hb, h.fr.below hb, (hb.block ob (Array.getElem?_eq_some_iff.1 h.bx).1).trans h.bx, h.nl, h.qr.below hb, h.tr, h.out, h.nx, h.lw, h.ox, h.hx⟩
theorem PQ.arg {W : World} {s2 : KS} (h : PQ Z W0 w1 kb pb rb pc cc C w M ob wr s Q p b o c n) (hm : PK (b :: Z) w1 kb pb rb pc cc C s2 W) (hf : FrP (b :: Z) [kb, pb, rb] wr W) (ho : s2.out.length + Q.length ≤ M) (hn : s2.nx ≤ M) : PQ Z W0 w1 kb pb rb pc cc C w M ob W s2 Q p b o c n :=
 ⟨hm, h.fr.trans (hf.less fun y hy => List.mem_cons_of_mem _ hy), FrP.box hf h.bx (by decide) (fun hm => by have := h.hx ob hm; have := h.ox; omega), h.nl, h.qr.frp hf (by decide) h.hx, h.tr, ho, hn, h.lw, h.ox, h.hx⟩
theorem PQ.more {W : World} {p' : Option Addr} {b' o' c' : Nat} {x : (Tr × Int) × Nat} (h : PQ Z W0 w1 kb pb rb pc cc C w M ob wr s Q p b o c n) (hq : QR W w.heap.size 209 2 p' b' o' (n + 1) c' (cellsQ Q ++ [ptrK x.2, .int .i64 x.1.2])) (hf : QFr b c wr W) (hb : b' = b ∧ 0 < c ∨ b' = wr.heap.size)
  (hx : FoIn W0 0 x.1.1.fo [.iface 156 (ptrK x.2)] ∧ TG C.length x.1.1 ∧ x.1.1.1.1 = 3) (ho : s.out.length + Q.length + 1 ≤ M) : PQ Z W0 w1 kb pb rb pc cc C w M ob W s (Q ++ [x]) p' b' o' c' (n + 1) := by
 have hlow : 0 < c → w.heap.size ≤ b := fun h0 => (h.qr.low h0).2.1
 have hlw := h.lw; refine ⟨h.st.queue _ (List.mem_cons_self ..) (fun h0 => by have := hlow h0; omega) hf (fun y hy => ?_), hf.frp h.fr hlow, (hf.block ob (Array.getElem?_eq_some_iff.1 h.bx).1 fun h0 e => ?_).trans h.bx, by simp [h.nl], by rw [cellsQ_snoc]; exact hq, fun y hy => ?_, by simp; omega, h.nx, hlw, h.ox, h.hx⟩
 ·rcases List.mem_cons.1 hy with rfl | hy
  ·rcases hb with ⟨rfl, _⟩ | rfl
   ·exact .inl (List.mem_cons_self ..)
   ·exact .inr ⟨Nat.le_refl _, hq.lt (by have := hq.le; omega)⟩
  ·exact .inl (List.mem_cons_of_mem _ hy)
 ·obtain ⟨_, _, cur, h3, _⟩ := h.qr.low h0
  rw [← e, h.bx] at h3
  injection h3 with h3
  injection h3 with _ h5 _
  exact absurd h5 (by decide)
 ·rcases List.mem_append.1 hy with hy | hy
  ·exact h.tr y hy
  ·simp at hy; rw [hy]; exact hx
end
abbrev qOf (Q : List ((Tr × Int) × Nat)) : List (Tr × Int) := Q.map (·.1)
set_option maxHeartbeats 4000000 in
theorem takeApart_any (E : CEnv w1 kb pb rb pc cc C) (hB : CBase W0 w1 kb pb rb) (h : PK Z w1 kb pb rb pc cc C s w) (t : Tr) (bt : Nat) (hfo : FoIn W0 0 t.fo [.iface 156 (ptrK bt)]) (h3 : t.1.1 = 3) (hg : TG C.length t) (a : Int) (M f : Nat) (hM : M ≤ 800000000) (hf : twK t ≤ f) (ho : s.out.length + twK t ≤ M) (hn : s.nx + twK t ≤ M) :
  Calls Tryz.prog 173 #[ptrK kb, .slice (some ⟨w.heap.size, 0, none⟩) 1 1] (w.alloc (.cells #[ptrK bt, .int .i64 a] 209)) (PUnit' Z w1 kb pb rb pc cc C w (getK C f s [(t, a)])) := by
 obtain ⟨F, eF⟩ : ∃ F, F = getK C f s [(t, a)] := ⟨_, rfl⟩
 rw [← eF]
 have hX : ∀ x ∈ [kb, pb, rb], x < w.heap.size := fun x hx => Nat.lt_of_lt_of_le (h.lt x hx) h.sty.size
 obtain ⟨V, eV⟩ : ∃ V, V = w.alloc (.cells #[ptrK bt, .int .i64 a] 209) := ⟨_, rfl⟩
 have hV : Below w.heap.size w V := by rw [eV]; exact new_lowK w _
 have hVs : V.heap.size = w.heap.size + 1 := by rw [eV]; simp
 obtain ⟨W, eW⟩ : ∃ W, W = V.alloc (aoB uniJ) := ⟨_, rfl⟩
 have hW : Below V.heap.size V W := by rw [eW]; exact new_lowK V _
 have HST : Hid (PQ Z W0 w1 kb pb rb pc cc C w M V.heap.size W s [((t, a), bt)] (some ⟨w.heap.size, 0, none⟩) w.heap.size 0 1 1 ∧ getK C f s (qOf [((t, a), bt)]) = F ∧ qwK (qOf [((t, a), bt)]) ≤ f ∧ s.out.length + qwK (qOf [((t, a), bt)]) ≤ M ∧ s.nx + qwK (qOf [((t, a), bt)]) ≤ M) := by
  have e1 : qwK (qOf [((t, a), bt)]) = twK t := by simp [qwK]
  have e2 : 1 ≤ twK t := by unfold twK; omega
  refine ⟨⟨h.fresh (Nat.le_refl _) (Below.on hV hW) (by have := hW.size; omega), FrP.of _ (Below.on hV hW), by rw [eW]; exact heap_alloc_new V _, rfl, ?_, fun x hx => by simp at hx; rw [hx]; exact ⟨hfo, hg, h3⟩, by simp; omega, by omega, h.sty.size, by omega, hX⟩, eF.symm, by omega, by omega, by omega⟩; have := QR.built w w.heap.size (Nat.le_refl _) 209 [ptrK bt, .int .i64 a]; rw [eV] at hW; exact this.below hW
 have HE : Hid (CEnv w1 kb pb rb pc cc C ∧ CBase W0 w1 kb pb rb ∧ ∀ x ∈ [kb, pb, rb], x < w.heap.size) := ⟨E, hB, hX⟩
 have HW : Hid (W = V.alloc (.cells #[.int .i64 4, .int .i64 5, .int .i64 6, .int .i64 7] 212)) := eW
 obtain ⟨ob, eob⟩ : ∃ ob, ob = V.heap.size := ⟨_, rfl⟩
 have HOB : Hid (ob = V.heap.size) := eob; rw [← eob] at HST; rw [← eV]
 have HWB : Hid (∀ W : World, W.heap[ob]? = some (aoB uniJ) → (W.cell? ⟨ob, 0, none⟩ = some (.int .i64 4) ∧ W.cell? ⟨ob, 1, none⟩ = some (.int .i64 5) ∧ W.cell? ⟨ob, 2, none⟩ = some (.int .i64 6) ∧ W.cell? ⟨ob, 3, none⟩ = some (.int .i64 7))) := fun W hW => by
  have hW' : W.heap[ob]? = some (.cells #[.int .i64 4, .int .i64 5, .int .i64 6, .int .i64 7] 212 (0, 0)) := hW; exact ⟨by rw [cell_block hW']; rfl, by rw [cell_block hW']; rfl, by rw [cell_block hW']; rfl, by rw [cell_block hW']; rfl⟩
 have n1 := nbA_comp_comp; clear h E hB hfo h3 hg hf ho hn eW eV eF hX hV hVs hW eob
 go_enter Tryz.func173, Tryz.ntmps173
 go_wp2_with fail; rw [← HW.out, ← HOB.out]
 go_loopw [1] (fun qv wr => ∃ (s' : KS) (Q : List ((Tr × Int) × Nat)) (f' : Nat) (p : Option Addr) (b o c n' : Nat), n' ≤ 900000000 ∧ qv = .slice p n' c ∧ Hid (PQ Z W0 w1 kb pb rb pc cc C w M ob wr s' Q p b o c n' ∧ getK C f' s' (qOf Q) = F ∧ qwK (qOf Q) ≤ f' ∧ s'.out.length + qwK (qOf Q) ≤ M ∧ s'.nx + qwK (qOf Q) ≤ M)) (fun _ wr => M + 1 - outN kb wr)
 case atStart => exact ⟨s, [((t, a), bt)], f, _, _, _, _, 1, by omega, rfl, HST⟩
 case round =>
  obtain ⟨s', Q, f', p, b, o, c, n', hn', rfl, HG⟩ := hrel; clear HST HW HOB
  cases Q with
  | nil =>
    have hz : n' = 0 := HG.out.1.nl; subst hz
    have HF : Hid (PUnit' Z w1 kb pb rb pc cc C w F (.returned (.tuple #[])) wr) := by
     have e1 : getK C f' s' [] = s' := by cases f' <;> rfl
     have e2 := HG.out.2.1; rw [show qOf ([] : List ((Tr × Int) × Nat)) = [] from rfl, e1] at e2; rw [← e2]; exact ⟨rfl, HG.out.1.st.less (fun z hz => List.mem_cons_of_mem _ hz), HG.out.1.fr⟩
    clear HG HE; go_wp2_with fail
    go_end0
    exact HF.out
  | cons x Q =>
    obtain ⟨N, eN⟩ : ∃ N, N = Q.length := ⟨_, rfl⟩
    obtain rfl : n' = N + 1 := by have := HG.out.1.nl; rw [eN]; simpa using this
    have hpos : 0 < N + 1 := by omega
    have HEN : Hid (N = Q.length) := eN; clear eN; obtain ⟨⟨⟨xc, xk⟩, xr⟩, bx⟩ := x; obtain ⟨ep1, y1⟩ := HG.out.1.qr.cell (j := 0) (u := ptrK bx) rfl; obtain ⟨_, y2⟩ := HG.out.1.qr.cell (j := 1) (u := .int .i64 xr) rfl; rw [Nat.add_zero] at y1; subst ep1; have htx := HG.out.1.tr (((xc, xk), xr), bx) (List.mem_cons_self ..); simp only at htx; obtain ⟨b', gx, eb, D0, D1, DK⟩ := comp_of htx.1 htx.2.2
    obtain rfl : bx = b' := by injection eb with _ e; injection e with e; injection e with e; exact congrArg Addr.block e
    clear eb
    obtain ⟨m, em⟩ : ∃ m, m = (trs xk).length := ⟨_, rfl⟩
    have hmm : m ≤ 2000 := by have := Fo.count_le xk; rw [em, trs_len]; have := htx.2.1.sz; simp only at this; omega
    simp only at D0 D1 DK; rw [← em] at D1; have hle : N + 1 ≤ c := HG.out.1.qr.le; have hM1 : c ≤ 9223372036854775807 := HG.out.1.qr.max
    obtain ⟨U, eU⟩ : ∃ U, U = wr.alloc (.cells #[ptrK bx, .int .i64 xr] 209) := ⟨_, rfl⟩
    have hU : Below wr.heap.size wr U := by rw [eU]; exact new_lowK wr _
    have hbU : U.heap[wr.heap.size]? = some (.cells #[ptrK bx, .int .i64 xr] 209 (0, 0)) := by rw [eU]; exact heap_alloc_new wr _
    obtain ⟨s1, es1⟩ : ∃ s1, s1 = s'.put (insC 3 0 xr xc) := ⟨_, rfl⟩
    have HEF : Hid (Calls Tryz.prog 109 #[.iface 156 (ptrK bx)] U.drew fun e W2 => ∃ tp tc, e = .returned (.agg #[.int .i64 xc.1, .int .i64 xc.2.1, .slice tp xc.2.2.length tc]) ∧ W2.heap[wr.heap.size]? = some (.cells #[ptrK bx, .int .i64 xr] 209 (0, 0)) ∧ (W2.alloc (.cells #[.int .i64 3, .int .i64 0, .int .i64 xr, .int .i64 xc.1, .int .i64 xc.2.1, .slice tp xc.2.2.length tc, .slice none 0 0, .slice none 0 0] 72)).heap[wr.heap.size]? = some (.cells #[ptrK bx, .int .i64 xr] 209 (0, 0)) ∧
      Calls Tryz.prog 105 #[ptrK kb, .slice (some ⟨W2.heap.size, 0, none⟩) 1 1] (W2.alloc (.cells #[.int .i64 3, .int .i64 0, .int .i64 xr, .int .i64 xc.1, .int .i64 xc.2.1, .slice tp xc.2.2.length tc, .slice none 0 0, .slice none 0 0] 72)) fun e w' => (∃ x, e = .returned (.int .i64 x)) ∧ w'.heap[wr.heap.size]? = some (.cells #[ptrK bx, .int .i64 xr] 209 (0, 0)) ∧ PK (b :: Z) w1 kb pb rb pc cc C s1 w' ∧ FrP (b :: Z) [kb, pb, rb] wr w' ∧ w'.cell? ⟨bx, 1, none⟩ = some (.slice (some ⟨gx, 0, none⟩) m m)) := by
     have hd : Below U.heap.size U U.drew := below_drewK (Below.refl _ _); refine (emF_any HE.out.1 HE.out.2.1 (HG.out.1.st.below hU) (xc, xk) (.iface 156 (ptrK bx)) htx.1 htx.2.1.ok 3 0 xr (by have := HG.out.1.out; omega) hd).mono ?_; rintro e W2 ⟨tp, tc, rfl, hb2, hem⟩; have k2 : W2.heap[wr.heap.size]? = some (.cells #[ptrK bx, .int .i64 xr] 209 (0, 0)) := (hb2.block _ (Array.getElem?_eq_some_iff.1 hbU).1).trans hbU; refine ⟨tp, tc, rfl, k2, ((new_lowK W2 _).block _ (Array.getElem?_eq_some_iff.1 k2).1).trans k2, ?_⟩; refine hem.mono ?_; rintro e w' ⟨a1, a2, a3⟩; rw [← es1] at a2; have hb := a2.base HE.out.2.1; exact ⟨a1, FrP.box a3 hbU (by decide) (fun hm => by have := HE.out.2.2 _ hm; have := HG.out.1.fr.size; omega), a2, (FrP.of _ hU).trans a3, (hb.cell (World.block_lt_of_cell? _ _ D1)).trans D1⟩
    obtain ⟨G, eG⟩ : ∃ G, G = apaK C s1 (qOf Q) (trs xk) := ⟨_, rfl⟩
    have HPU : Hid (getK C (f' - 1) G.1 G.2 = F ∧ qwK G.2 ≤ f' - 1 ∧ G.1.out.length + qwK G.2 ≤ M ∧ G.1.nx + qwK G.2 ≤ M ∧ s'.out.length < G.1.out.length ∧ (∀ x ∈ trs xk, TG C.length x)) := by
     obtain ⟨hq, hF, hfu, hou, hnx⟩ := HG.out; have k1 := (up_put s' (insC 3 0 xr xc)).trans (up_apa C HE.out.1.len (trs xk) (s'.put (insC 3 0 xr xc)) (qOf Q)); have k2 := qwK_apa C (trs xk) (s'.put (insC 3 0 xr xc)) (qOf Q); have k3 := trs_cellsK xk; have k4 := (apa_mono C HE.out.1.len (trs xk) (s'.put (insC 3 0 xr xc)) (qOf Q)).1; rw [← es1, ← eG] at k1 k2 k4; have k5 := k1.out; have k6 := k1.nx.2; simp only [qOf, List.map_cons, qwK, twK] at hfu hou hnx k2; rw [es1] at k4; simp only [KS.put, List.length_append, List.length_cons, List.length_nil] at k4; refine ⟨?_, by omega, by omega, by omega, by omega, fun x hx => htx.2.1.kid hx⟩; rw [← hF]
     obtain ⟨f2, rfl⟩ : ∃ f2, f' = f2 + 1 := ⟨f' - 1, by omega⟩
     rw [eG, es1]
     rfl
    have HQ2 : Hid (∀ W2 p', PK (b :: Z) w1 kb pb rb pc cc C s1 W2 → FrP (b :: Z) [kb, pb, rb] wr W2 → (0 < c - 1 → p' = some ⟨b, o + 2, none⟩) → PQ Z W0 w1 kb pb rb pc cc C w M ob W2 s1 Q p' b (o + 2) (c - 1) N) := fun W2 p' hm hf2 hp => by
     obtain ⟨hq, hF, hfu, hou, hnx⟩ := HG.out; have k1 := (hq.qr.frp hf2 (by decide) HE.out.2.2).tail hp; have k3 := qwK_len (qOf Q); simp only [qOf, List.map_cons, qwK, twK, List.length_map] at hou hnx k3; exact ⟨hm, hq.fr.trans (hf2.less fun y hy => List.mem_cons_of_mem _ hy), FrP.box hf2 hq.bx (by decide) (fun hm => by have := HE.out.2.2 _ hm; have := hq.ox; omega), HEN.out, k1, fun x hx => hq.tr x (List.mem_cons_of_mem _ hx), by rw [es1]; simp only [KS.put, List.length_append, List.length_cons, List.length_nil]; omega, by rw [es1]; simp only [KS.put]; omega, hq.lw, hq.ox, hq.hx⟩
    have HEG : Hid (G = apaK C s1 (qOf Q) (trs xk)) := eG; have HDK : Hid (∀ (j : Nat) (x : Tr), (trs xk)[j]? = some x → ∃ ty y, W0.cell? ⟨gx, j, none⟩ = some (.iface ty y) ∧ FoIn W0 0 x.fo [.iface ty y]) := DK; have HMM : Hid (m = (trs xk).length) := em; have HGS : Hid (outN kb wr = s'.out.length) := HG.out.1.st.outN; have HU : Hid (U = wr.alloc (.cells #[ptrK bx, .int .i64 xr] 209)) := eU
    obtain ⟨nb, enb⟩ : ∃ nb, nb = wr.heap.size := ⟨_, rfl⟩
    have HNB : Hid (nb = wr.heap.size) := enb
    obtain ⟨ml, eml⟩ : ∃ ml, ml = xc.2.2.length := ⟨_, rfl⟩
    obtain ⟨xc1, xc2, xct⟩ := xc; simp only at HEF eml; rw [← enb, ← eml] at HEF; rw [← enb] at hbU
    have HBX : Hid (∀ W : World, W.heap[nb]? = some (.cells #[ptrK bx, .int .i64 xr] 209 (0, 0)) → W.cell? ⟨nb, 0, none⟩ = some (ptrK bx) ∧ W.cell? ⟨nb, 1, none⟩ = some (.int .i64 xr)) := fun W hW => ⟨by rw [cell_block hW]; rfl, by rw [cell_block hW]; rfl⟩
    clear eG DK em D0 D1 eU hU es1 enb eml htx HG; go_wp2_with (refine wpl_tail _ rfl _ 259 209 rfl Tryz.underlying259 2 (by kernel_rfl) (b := b) (off := o) (n := N) (c := c) rfl hle hM1 ?_; intro p' hp'); have HP' : Hid (0 < c - 1 → p' = some ⟨b, o + 2, none⟩) := hp'; clear hp' y1 y2; refine wp_region_held_drew (S := fun W => W.heap[nb]? = some (.cells #[ptrK bx, .int .i64 xr] 209 (0, 0))) (by kernel_rfl) ?_ (fun hHeld => ?_)
    ·change (wr.alloc (.cells #[ptrK bx, .int .i64 xr] 209)).drew.heap[nb]? = _
     rw [← HU.out]; exact hbU
    change wpAnyH _ _ _ _ _ _ _ _ (wr.alloc (.cells #[ptrK bx, .int .i64 xr] 209)).drew
    rw [← HU.out, ← HNB.out]; have hSd : U.drew.heap[nb]? = some (.cells #[ptrK bx, .int .i64 xr] 209 (0, 0)) := hbU; clear hHeld HU HNB hbU; refine hTk (i := 0) (v := ptrK kb) (some 20) (fun o ho W hSw => ?y0) (by assumption) ?_
    case y0 => cases ho; simp [execOp, go_sem, Act.eval]
    simp only [Act.put, zzA, zzB, zzC]; refine hTk (i := 1) (v := ptrK kb) (some 21) (fun o ho W hSw => ?y1) (by assumption) ?_
    case y1 => cases ho; simp [execOp, go_sem, Act.eval]
    simp only [Act.put, zzA, zzB, zzC]; refine hTk (i := 2) (v := ptrK kb) (some 22) (fun o ho W hSw => ?y2) (by assumption) ?_
    case y2 => cases ho; simp [execOp, go_sem, Act.eval]
    simp only [Act.put, zzA, zzB, zzC]; refine hTk (i := 3) (v := .pointer (some ⟨nb, 1, none⟩)) (some 23) (fun o ho W hSw => ?y3) (by assumption) ?_
    case y3 => cases ho; simp [execOp, go_sem, Act.eval]
    simp only [Act.put, zzA, zzB, zzC]; refine hTk (i := 4) (v := .int .i64 xr) (some 24) (fun o ho W hSw => ?y4) (by assumption) ?_
    case y4 => cases ho; simp [execOp, go_sem, Act.eval, (HBX.out W hSw).2]
    simp only [Act.put, zzA, zzB, zzC]; refine hTk (i := 5) (v := .pointer (some ⟨nb, 0, none⟩)) (some 25) (fun o ho W hSw => ?y5) (by assumption) ?_
    case y5 => cases ho; simp [execOp, go_sem, Act.eval]
    simp only [Act.put, zzA, zzB, zzC]; refine hTk (i := 6) (v := ptrK bx) (some 26) (fun o ho W hSw => ?y6) (by assumption) ?_
    case y6 => cases ho; simp [execOp, go_sem, Act.eval, (HBX.out W hSw).1]
    simp only [Act.put, zzA, zzB, zzC]; refine hTk (i := 7) (v := .iface 156 (ptrK bx)) (some 27) (fun o ho W hSw => ?y7) (by assumption) ?_
    case y7 => cases ho; simp [execOp, go_sem, Act.eval]
    simp only [Act.put, zzA, zzB, zzC]; refine hCallE (i := 8) (f := 109) (args := #[.iface 156 (ptrK bx)]) (some 28) (by kernel_rfl) (by kernel_rfl) (by kernel_rfl) (fun o ho => ?c8) HEF.out ?k8 (fun ch w' hh => by obtain ⟨_, _, h, _⟩ := hh; cases h) (fun w' hh => by obtain ⟨_, _, h, _⟩ := hh; cases h)
    case c8 => cases ho; simp [execOp, go_sem, Act.eval]
    case k8 =>
     rintro u W2 ⟨tp, tc, eq, hk2, hk3, hem⟩
     cases eq
     refine ⟨hk2, ?_⟩; have HE2 : Hid _ := hem; clear hem HEF hSd; simp only [Act.put, zzA, zzB, zzC]; refine hTk (i := 9) (v := .agg #[.int .i64 3, .int .i64 0, .int .i64 xr, .int .i64 xc1, .int .i64 xc2, .slice tp ml tc, .slice none 0 0, .slice none 0 0]) (some 29) (fun o ho W hSw => ?y9) (by assumption) ?_
     case y9 => cases ho; simp [execOp, go_sem, Act.eval]
     simp only [Act.put, zzA, zzB, zzC]; refine hStep (i := 10) (v := .slice (some ⟨W2.heap.size, 0, none⟩) 1 1) (w' := W2.alloc (.cells #[.int .i64 3, .int .i64 0, .int .i64 xr, .int .i64 xc1, .int .i64 xc2, .slice tp ml tc, .slice none 0 0, .slice none 0 0] 72)) (some 30) (by kernel_rfl) (by kernel_rfl) (by kernel_rfl) (fun o ho => ?y10) hk3 ?_
     case y10 => cases ho; simp [execOp, go_sem, Act.eval]
     simp only [Act.put, zzA, zzB, zzC]; refine hCallE (i := 11) (f := 105) (args := #[ptrK kb, .slice (some ⟨W2.heap.size, 0, none⟩) 1 1]) (some 31) (by kernel_rfl) (by kernel_rfl) (by kernel_rfl) (fun o ho => ?c11) HE2.out ?k11 (fun ch w' hh => by obtain ⟨⟨_, h⟩, _⟩ := hh; cases h) (fun w' hh => by obtain ⟨⟨_, h⟩, _⟩ := hh; cases h)
     case c11 => cases ho; simp [execOp, go_sem, Act.eval]
     case k11 =>
      rintro u W4 ⟨⟨y, eq⟩, hk4, hp4, hf4, d4⟩
      cases eq
      refine ⟨hk4, ?_⟩; have HQ4 : Hid _ := HQ2.out W4 p' hp4 hf4 HP'.out; obtain ⟨z0, z1⟩ := HBX.out W4 hk4; clear hp4 hf4 HE2 HQ2 hk2 hk3 HBX hk4 HP'; simp only [Act.put, zzA, zzB, zzC]; refine wpAnyH_done (by kernel_rfl) ?_ _
      change Exit.then _ _ _ _ W4
      go_wp2_with fail
      go_loopw [1, 38] (fun qv iv wr => ∃ (i : Nat) (s2 : KS) (Q2 : List ((Tr × Int) × Nat)) (p2 : Option Addr) (b2 o2 c2 n2 : Nat), i ≤ m ∧ n2 ≤ 900000000 ∧ qv = .slice p2 n2 c2 ∧ iv = .int .i64 i ∧ Hid (PQ Z W0 w1 kb pb rb pc cc C w M ob wr s2 Q2 p2 b2 o2 c2 n2 ∧ apaK C s2 (qOf Q2) ((trs xk).drop i) = G)) (fun _ iv _ => m - (intOf iv).toNat)
      case atStart => exact ⟨0, s1, Q, p', b, o + 2, c - 1, N, Nat.zero_le _, by omega, rfl, by go_num, HQ4.out, by rw [List.drop_zero]; exact HEG.out.symm⟩
      case round =>
       obtain ⟨i, s2, Q2, p2, b2, o2, c2, n2, him, hn2, rfl, rfl, HI⟩ := hrel; clear HQ4 HEG z0 z1 d4
       by_cases hi : i < m
       ·obtain ⟨x, ex⟩ : ∃ x, (trs xk)[i]? = some x := ⟨_, List.getElem?_eq_getElem (by have := HMM.out; omega)⟩
        have htg := HPU.out.2.2.2.2.2 x (List.mem_of_getElem? ex); have hdr := drop_trs ex; obtain ⟨ty, vy, yv, hfx⟩ := HDK.out i x ex; have hbs := HI.out.1.st.base HE.out.2.1; have yr := (hbs.cell (World.block_lt_of_cell? _ _ yv)).trans yv
        have hbo : s2.out.length ≤ 800000000 ∧ s2.nx ≤ 800000000 := ⟨by have := HI.out.1.out; omega, by have := HI.out.1.nx; omega⟩
        by_cases h3 : x.1.1 = 3
        ·obtain ⟨bz, gz, ez, _⟩ := comp_of hfx h3
         obtain ⟨rfl, rfl⟩ : ty = 156 ∧ vy = ptrK bz := by injection ez with e1 e2; exact ⟨e1, e2⟩
         obtain ⟨nx, enx⟩ : ∃ nx : Int, nx = (s2.nx : Int) := ⟨_, rfl⟩
         obtain ⟨s3, es3⟩ : ∃ s3, s3 = s2.take.put (insN 4 s2.nx 0) := ⟨_, rfl⟩
         have hap := HI.out.2; rw [hdr] at hap
         unfold apaK at hap
         rw [if_pos h3, ← es3, ← enx] at hap; have hmo := apa_mono C HE.out.1.len ((trs xk).drop (i + 1)) s3 (qOf Q2 ++ [(x, nx)]); rw [hap] at hmo; simp only [List.length_append, List.length_cons, List.length_nil, qOf, List.length_map] at hmo; have hGM := HPU.out.2.2.1; have hGN := HPU.out.2.2.2.1; have hql := qwK_len G.2
         have HT : Hid (Calls Tryz.prog 221 #[ptrK kb] wr fun e W1 => e = .returned (.int .i64 nx) ∧ Calls Tryz.prog 105 #[ptrK kb, .slice (some ⟨W1.heap.size, 0, none⟩) 1 1] (W1.alloc (.cells #[.int .i64 4, .int .i64 nx, .int .i64 0, .int .i64 0, .int .i64 0, .slice none 0 0, .slice none 0 0, .slice none 0 0] 72)) fun e W5 => (∃ y, e = .returned (.int .i64 y)) ∧ PQ Z W0 w1 kb pb rb pc cc C w M ob W5 s3 Q2 p2 b2 o2 c2 n2) := by
          have h1 := takeX_any HE.out.1 HI.out.1.st (by omega); rw [← enx] at h1; refine h1.mono ?_; rintro e W1 ⟨rfl, a2, a3⟩; refine ⟨rfl, (emN_any HE.out.1 a2 4 nx 0 (by show s2.out.length ≤ _; omega) (Below.refl _ _)).mono ?_⟩; rintro e W5 ⟨e1, e2, e3⟩; rw [enx, ← es3] at e2; exact ⟨e1, HI.out.1.arg e2 (a3.trans e3) (by omega) (by omega)⟩
         have HNX : Hid (∀ W5 W6 p5 b5 o5 c5, PQ Z W0 w1 kb pb rb pc cc C w M ob W5 s3 Q2 p2 b2 o2 c2 n2 → QR W6 w.heap.size 209 2 p5 b5 o5 (n2 + 1) c5 (cellsQ Q2 ++ [ptrK bz, .int .i64 nx]) → QFr b2 c2 W5 W6 → (b5 = b2 ∧ 0 < c2 ∨ b5 = W5.heap.size) → PQ Z W0 w1 kb pb rb pc cc C w M ob W6 s3 (Q2 ++ [((x, nx), bz)]) p5 b5 o5 c5 (n2 + 1) ∧ apaK C s3 (qOf (Q2 ++ [((x, nx), bz)])) ((trs xk).drop (i + 1)) = G ∧ n2 + 1 ≤ 900000000) := fun W5 W6 p5 b5 o5 c5 g1 g2 g3 g4 => by
          refine ⟨g1.more (x := ((x, nx), bz)) g2 g3 g4 ⟨hfx, htg, h3⟩ (by omega), ?_, by have := g1.nl; omega⟩; rw [show qOf (Q2 ++ [((x, nx), bz)]) = qOf Q2 ++ [(x, nx)] by simp [qOf]]; exact hap
         have hwl : w.heap.size ≤ wr.heap.size := HI.out.1.fr.size; clear hap hmo hGM hGN hql es3 enx HI hfx htg hdr ex hbs yv ez HDK; go_wp2_with fail; refine HT.out.mono ?_; rintro e W1 ⟨rfl, he1⟩; clear HT yr; go_wp2_with fail; refine he1.mono ?_; rintro e W5 ⟨⟨y, rfl⟩, hpq⟩; have HPQ : Hid _ := hpq; have hw5 : w.heap.size ≤ W5.heap.size := hpq.fr.size; clear he1 hpq hwl; go_wp2_with (at_builtin; refine app_q _ rfl _ _ 259 209 2 (.agg #[.pointer none, .int .i64 0]) 16 rfl Tryz.underlying259 (by kernel_rfl) rfl w.heap.size rfl ((HPQ.out.below (new_lowK _ _)).qr) (by simp; omega) _ _ rfl [ptrK bz, .int .i64 nx] rfl (World.news_of_block (heap_alloc_new _ _)) (fun u hu => by simp at hu; rcases hu with rfl | rfl <;> rfl) (by omega) (by omega) ?_; intro p5 b5 o5 c5 n5 W6 hq5 hf5 hb5 hn5; obtain rfl := hn5.out; have HFI : Hid _ := HNX.out _ W6 p5 b5 o5 c5 (HPQ.out.below (new_lowK _ _)) hq5 hf5 hb5; clear hq5 hf5 hb5 hn5)
         clear HNX HPQ; go_roundw
         case rel => exact ⟨i + 1, s3, _, p5, b5, o5, c5, n2 + 1, by omega, HFI.out.2.2, rfl, by go_num, HFI.out.1, HFI.out.2.1⟩
         case measure => (simp [intOf] <;> omega)
        ·obtain ⟨ty', vy', ez, hna⟩ := notComp hfx h3
         obtain ⟨rfl, rfl⟩ : ty = ty' ∧ vy = vy' := by injection ez with e1 e2; exact ⟨e1, e2⟩
         have hap := HI.out.2; rw [hdr] at hap
         unfold apaK at hap
         rw [if_neg h3] at hap; have hmo := apa_mono C HE.out.1.len ((trs xk).drop (i + 1)) (argK C uniJ s2 x.1 0) (qOf Q2); rw [hap] at hmo; simp only [qOf, List.length_map] at hmo; have hGM := HPU.out.2.2.1; have hGN := HPU.out.2.2.2.1; have hql := qwK_len G.2
         have HA : Hid (Calls Tryz.prog 175 #[ptrK kb, .iface ty vy, .agg #[.int .i64 4, .int .i64 5, .int .i64 6, .int .i64 7], .int .i64 0] wr fun e W5 => e = .returned (.tuple #[]) ∧ PQ Z W0 w1 kb pb rb pc cc C w M ob W5 (argK C uniJ s2 x.1 0) Q2 p2 b2 o2 c2 n2 ∧ apaK C (argK C uniJ s2 x.1 0) (qOf Q2) ((trs xk).drop (i + 1)) = G) := by
          refine (argument_any HE.out.1 HE.out.2.1 HI.out.1.st x (.iface ty vy) hfx htg uniJ 0 hbo.1 hbo.2).mono ?_; rintro e W5 ⟨a1, a2, a3⟩; exact ⟨a1, HI.out.1.arg a2 a3 (by omega) (by omega), hap⟩
         obtain ⟨o1', o2', o3', o4'⟩ := HWB.out wr HI.out.1.bx; clear hap hmo hGM hGN hql HI hfx htg hdr ex hbs yv ez HDK; go_wp2_with fail; refine HA.out.mono ?_; rintro e W5 ⟨rfl, hpq⟩; have HPQ : Hid _ := hpq; clear HA hpq yr o1' o2' o3' o4'; go_wp2_with fail; go_roundw
         case rel => exact ⟨i + 1, _, Q2, p2, b2, o2, c2, n2, by omega, hn2, rfl, by go_num, HPQ⟩
         case measure => (simp [intOf] <;> omega)
       ·obtain rfl : i = m := by omega
        have HEND : Hid (PQ Z W0 w1 kb pb rb pc cc C w M ob wr s2 Q2 p2 b2 o2 c2 n2 ∧ s2 = G.1 ∧ qOf Q2 = G.2) := by
         have hap := HI.out.2; rw [List.drop_of_length_le (by have := HMM.out; omega)] at hap; exact ⟨HI.out.1, by rw [← hap]; rfl, by rw [← hap]; rfl⟩
        have HMS : Hid (outN kb wr = s2.out.length) := HI.out.1.st.outN; clear HI; go_wp2_with fail; go_roundw
        case rel => exact ⟨s2, Q2, f' - 1, p2, b2, o2, c2, n2, hn2, rfl, HEND.out.1, by rw [HEND.out.2.1, HEND.out.2.2]; exact HPU.out.1, by rw [HEND.out.2.2]; exact HPU.out.2.1, by rw [HEND.out.2.1, HEND.out.2.2]; exact HPU.out.2.2.1, by rw [HEND.out.2.1, HEND.out.2.2]; exact HPU.out.2.2.2.1⟩
        case measure =>
         have h1 := HMS.out; have h2 := HGS.out; have h3 := HPU.out.2.2.2.2.1; have h4 := HPU.out.2.2.1; have h5 := HEND.out.2.1
         show M + 1 - outN kb wr < _
         rw [h1, h2, h5]
         omega
end
end Go.Proofs.YtickbkcpcgmlmaaGreatDoor
