/- Texts of CcC, CcD, CcE, CcF. Own work of the verifier. -/
import Derived.Test.YtickbkcpcgmlmaaGreatDoorUqao
namespace Go.Proofs.YtickbkcpcgmlmaaGreatDoor
set_option maxRecDepth 100000
open Go Go.RowKit
set_option linter.unusedVariables false
set_option linter.unusedSimpArgs false
section
variable {Z : List Nat} {w1 : World} {cb gb eb : Nat} {pc : Option Addr} {cc : Nat} {C : List Int} {s : KS} {w : World}
abbrev celV (c : Cel) (p : Option Addr) (n : Nat) : Value := .agg #[.int .i64 c.1, .int .i64 c.2.1, .slice p c.2.2.length n]
def SemC (cb b : Nat) (v0 v1 v2 v3 : Value) (W : World) : Prop := W.cell? ⟨cb, 0, none⟩ = some v0 ∧ W.cell? ⟨b, 0, none⟩ = some v1 ∧ W.cell? ⟨b, 1, none⟩ = some v2 ∧ W.cell? ⟨b, 2, none⟩ = some v3
theorem SemC.on {cb b : Nat} {v0 v1 v2 v3 : Value} {w w' : World} (h : SemC cb b v0 v1 v2 v3 w) (hb : Below w.heap.size w w') : SemC cb b v0 v1 v2 v3 w' := by
 have hc : ∀ p v, w.cell? p = some v → w'.cell? p = some v := fun p v h => (hb.cell (World.block_lt_of_cell? _ _ h)).trans h
 exact ⟨hc _ _ h.1, hc _ _ h.2.1, hc _ _ h.2.2.1, hc _ _ h.2.2.2⟩
set_option maxHeartbeats 2000000 in
theorem l9emitC_any (E : CEnv w1 cb gb eb pc cc C) (h : MK Z w1 cb gb eb pc cc C s w) (op r a : Int) (c : Cel) (tp : Option Addr) (tc : Nat) (hb : BIn w tp c.2.2) (hcl : c.2.2.length ≤ 10000000) (hn : s.out.length ≤ 900000000) :
  Calls Tryz.prog 21 #[ptrK cb, .int .i64 op, .int .i64 r, .int .i64 a, celV c tp tc] w (KUnit Z w1 cb gb eb pc cc C w (s.put (insC op r a c))) := by
 obtain ⟨p, n, c0, h0, ho⟩ := h.c0; have hnl : n = s.out.length := ho.1; obtain ⟨c1, c2, ct⟩ := c; simp only at hb hcl
 obtain ⟨W, eW⟩ : ∃ W, W = (w.alloc (.cells #[.int .i64 c1, .int .i64 c2, .slice tp ct.length tc] 52)).drew := ⟨_, rfl⟩
 have hW : Below w.heap.size w W := by rw [eW]; exact below_drewK (new_lowK w _)
 have hlt : cb < w.heap.size := Nat.lt_of_lt_of_le E.lt.1 h.sty.size
 have hbx : W.heap[w.heap.size]? = some (.cells #[.int .i64 c1, .int .i64 c2, .slice tp ct.length tc] 52) := by rw [eW]; exact heap_alloc_new w _
 have hS0 : SemC cb w.heap.size (.slice p n c0) (.int .i64 c1) (.int .i64 c2) (.slice tp ct.length tc) W := ⟨(hW.cell (p := ⟨cb, 0, none⟩) hlt).trans h0, World.news_of_block hbx 0 _ rfl, World.news_of_block hbx 1 _ rfl, World.news_of_block hbx 2 _ rfl⟩
 have HCP := l1copy_all tp ct.length tc ct W rfl hcl (hb.below hW)
 have HFIN : Hid (∀ q m cq W2, OwnT W2 W.heap.size q m cq ct → Below W.heap.size W W2 → ∀ W3, W3 = W2.alloc (.cells #[.int .i64 op, .int .i64 r, .int .i64 a, .int .i64 c1, .int .i64 c2, .slice q m cq, .slice none 0 0, .slice none 0 0] 72) → ∀ g n' cap w', OwnIv Z w' w1.heap.size (some ⟨g, 0, none⟩) n' cap (s.out ++ [insC op r a (c1, c2, ct)]) → W3.grownBy w' (Value.ownBlock (.slice p n c0)) →
   (w'.cell? ⟨cb, 0, none⟩ = some (.slice p n c0) ∧ w'.frozen? ⟨cb, 0, none⟩ = false ∧ cb < w'.heap.size) ∧ SemC cb w.heap.size (.slice p n c0) (.int .i64 c1) (.int .i64 c2) (.slice tp ct.length tc) w' ∧ KUnit Z w1 cb gb eb pc cc C w (s.put (insC op r a (c1, c2, ct))) (.returned (.tuple #[])) (w'.setCell ⟨cb, 0, none⟩ (.slice (some ⟨g, 0, none⟩) n' cap))) := fun q m cq W2 hT hb2 W3 e3 g n' cap w' ho' hg => by
  have hW3 : Below w.heap.size w W3 := by rw [e3]; exact Below.on (Below.on hW hb2) (new_lowK W2 _)
  have hS3 : SemC cb w.heap.size (.slice p n c0) (.int .i64 c1) (.int .i64 c2) (.slice tp ct.length tc) W3 := by rw [e3]; exact (hS0.on hb2).on (new_lowK W2 _)
  obtain ⟨a1, a2, a3⟩ := (h.below hW3).put E hS3.1 (ho.below hW3) hg ho'
  have hk : w'.heap[w.heap.size]? = W3.heap[w.heap.size]? := hg.block _ (World.block_lt_of_cell? _ _ hS3.2.1) fun e => by
   obtain ⟨hn, rs, hl, hr, hf, ha⟩ := ho; have := (hr.lt _ e.symm).2
   omega
  have hc : ∀ j u, W3.cell? ⟨w.heap.size, j, none⟩ = some u → w'.cell? ⟨w.heap.size, j, none⟩ = some u := fun j u hu => (World.cell?_of_block (a := ⟨w.heap.size, j, none⟩) hk).trans hu
  exact ⟨a1, ⟨a1.1, hc _ _ hS3.2.1, hc _ _ hS3.2.2.1, hc _ _ hS3.2.2.2⟩, rfl, a2, (FrX.of _ hW3).trans a3⟩
 have HO : Hid (∀ W2, Below W.heap.size W W2 → OwnIv Z W2 w1.heap.size p n c0 s.out ∧ w1.heap.size ≤ W2.heap.size ∧ ∀ z ∈ Z, z < W2.heap.size) := fun W2 hb2 => ⟨(ho.below hW).below hb2, Nat.le_trans h.sty.size (Nat.le_trans hW.size hb2.size), fun z hz => Nat.lt_of_lt_of_le (h.zl z hz) (Nat.le_trans hW.size hb2.size)⟩
 have HW : Hid (W = (w.alloc (.cells #[.int .i64 c1, .int .i64 c2, .slice tp ct.length tc] 52)).drew) := eW
 have hn' : n ≤ 900000000 := by omega
 obtain ⟨b, eb'⟩ : ∃ b, b = w.heap.size := ⟨_, rfl⟩
 have HB : Hid (b = w.heap.size) := eb'; rw [← eb'] at hS0 HFIN; clear ho h E hn hnl eW hW hbx hb hlt eb' h0
 go_enter Tryz.func21, Tryz.ntmps21
 go_wp2_with fail; refine wp_region_any (by kernel_rfl) ?_; refine wpAny_two (n := 19) (f1 := 19) (f2 := 3) (L' := #[false, false, false, false, false, false, false, false, false, false, false, false, false, false, false, false, false, false, false, true, true, true]) (F := #[true, true, true, true, true, true, true, true, true, true, true, true, true, true, true, true, true, true, true, false, false, false]) (S := SemC cb b (.slice p n c0) (.int .i64 c1) (.int .i64 c2) (.slice tp ct.length tc)) (by kernel_rfl) (by kernel_rfl) (by kernel_rfl) (by kernel_rfl) (by kernel_rfl) ?_
 change wpAnyH _ _ _ _ _ _ _ _ (w.alloc (.cells #[.int .i64 c1, .int .i64 c2, .slice tp ct.length tc] 52)).drew
 rw [← HW.out, ← HB.out]; clear HW HB; refine hTk (i := 0) (v := ptrK cb) (some 10) (fun o ho W hSw => ?y0) (by assumption) ?_
 case y0 => cases ho; simp [execOp, go_sem, Act.eval]
 simp only [Act.put, zzA, zzB, zzC]; refine hTk (i := 1) (v := ptrK cb) (some 11) (fun o ho W hSw => ?y1) (by assumption) ?_
 case y1 => cases ho; simp [execOp, go_sem, Act.eval]
 simp only [Act.put, zzA, zzB, zzC]; refine hTk (i := 2) (v := ptrK cb) (some 12) (fun o ho W hSw => ?y2) (by assumption) ?_
 case y2 => cases ho; simp [execOp, go_sem, Act.eval]
 simp only [Act.put, zzA, zzB, zzC]; refine hTk (i := 3) (v := .pointer (some ⟨cb, 0, none⟩)) (some 13) (fun o ho W hSw => ?y3) (by assumption) ?_
 case y3 => cases ho; simp [execOp, go_sem, Act.eval]
 simp only [Act.put, zzA, zzB, zzC]; refine hTk (i := 4) (v := .slice p n c0) (some 14) (fun o ho W hSw => ?y4) (by assumption) ?_
 case y4 => cases ho; obtain ⟨s1, s2, s3, s4⟩ := hSw; simp [execOp, go_sem, Act.eval, s1]
 simp only [Act.put, zzA, zzB, zzC]; refine hTk (i := 5) (v := .int .i64 op) (some 15) (fun o ho W hSw => ?y5) (by assumption) ?_
 case y5 => cases ho; simp [execOp, go_sem, Act.eval]
 simp only [Act.put, zzA, zzB, zzC]; refine hTk (i := 6) (v := .int .i64 r) (some 16) (fun o ho W hSw => ?y6) (by assumption) ?_
 case y6 => cases ho; simp [execOp, go_sem, Act.eval]
 simp only [Act.put, zzA, zzB, zzC]; refine hTk (i := 7) (v := .int .i64 a) (some 17) (fun o ho W hSw => ?y7) (by assumption) ?_
 case y7 => cases ho; simp [execOp, go_sem, Act.eval]
 simp only [Act.put, zzA, zzB, zzC]; refine hTk (i := 8) (v := .pointer (some ⟨b, 0, none⟩)) (some 18) (fun o ho W hSw => ?y8) (by assumption) ?_
 case y8 => cases ho; simp [execOp, go_sem, Act.eval]
 simp only [Act.put, zzA, zzB, zzC]; refine hTk (i := 9) (v := .int .i64 c1) (some 19) (fun o ho W hSw => ?y9) (by assumption) ?_
 case y9 => cases ho; obtain ⟨s1, s2, s3, s4⟩ := hSw; simp [execOp, go_sem, Act.eval, s2]
 simp only [Act.put, zzA, zzB, zzC]; refine hTk (i := 10) (v := .pointer (some ⟨b, 1, none⟩)) (some 20) (fun o ho W hSw => ?y10) (by assumption) ?_
 case y10 => cases ho; simp [execOp, go_sem, Act.eval]
 simp only [Act.put, zzA, zzB, zzC]; refine hTk (i := 11) (v := .int .i64 c2) (some 21) (fun o ho W hSw => ?y11) (by assumption) ?_
 case y11 => cases ho; obtain ⟨s1, s2, s3, s4⟩ := hSw; simp [execOp, go_sem, Act.eval, s3]
 simp only [Act.put, zzA, zzB, zzC]; refine hTk (i := 12) (v := .pointer (some ⟨b, 2, none⟩)) (some 22) (fun o ho W hSw => ?y12) (by assumption) ?_
 case y12 => cases ho; simp [execOp, go_sem, Act.eval]
 simp only [Act.put, zzA, zzB, zzC]; refine hTk (i := 13) (v := .slice tp ct.length tc) (some 23) (fun o ho W hSw => ?y13) (by assumption) ?_
 case y13 => cases ho; obtain ⟨s1, s2, s3, s4⟩ := hSw; simp [execOp, go_sem, Act.eval, s4]
 simp only [Act.put, zzA, zzB, zzC]; refine hCallE (i := 14) (f := 51) (args := #[.slice tp ct.length tc]) (some 24) (by kernel_rfl) (by kernel_rfl) (by kernel_rfl) (fun o ho => ?c14) HCP ?k14 (fun ch w' hh => by obtain ⟨_, _, _, h, _⟩ := hh; cases h) (fun w' hh => by obtain ⟨_, _, _, h, _⟩ := hh; cases h)
 case c14 => cases ho; simp [execOp, go_sem, Act.eval]
 case k14 =>
  rintro u W2 ⟨q, m, cq, eq, hT, hb2⟩
  cases eq
  refine ⟨hS0.on hb2, ?_⟩; simp only [Act.put, zzA, zzB, zzC]; have hS2 := hS0.on hb2; have HT : Hid (OwnT W2 W.heap.size q m cq ct) := hT.toT; have HB2 : Hid (Below W.heap.size W W2) := hb2; clear hT hb2 HCP; refine hTk (i := 15) (v := .agg #[.int .i64 c1, .int .i64 c2, .slice q m cq]) (some 25) (fun o ho W hSw => ?y15) (by assumption) ?_
  case y15 => cases ho; simp [execOp, go_sem, Act.eval]
  simp only [Act.put, zzA, zzB, zzC]; refine hTk (i := 16) (v := .agg #[.int .i64 op, .int .i64 r, .int .i64 a, .int .i64 c1, .int .i64 c2, .slice q m cq, .slice none 0 0, .slice none 0 0]) (some 26) (fun o ho W hSw => ?y16) (by assumption) ?_
  case y16 => cases ho; simp [execOp, go_sem, Act.eval]
  simp only [Act.put, zzA, zzB, zzC]; refine hStep (i := 17) (v := .slice (some ⟨W2.heap.size, 0, none⟩) 1 1) (w' := W2.alloc (.cells #[.int .i64 op, .int .i64 r, .int .i64 a, .int .i64 c1, .int .i64 c2, .slice q m cq, .slice none 0 0, .slice none 0 0] 72)) (some 27) (by kernel_rfl) (by kernel_rfl) (by kernel_rfl) (fun o ho => ?y17) (hS2.on (new_lowK W2 _)) ?_
  case y17 => cases ho; simp [execOp, go_sem, Act.eval]
  simp only [Act.put, zzA, zzB, zzC]; refine hList (i := 18) rfl (by kernel_rfl) ?_; refine app_ins W _ rfl _ _ rfl w1.heap.size p n c0 s.out rfl (HO.out W (Below.refl _ _)).1 (HO.out W (Below.refl _ _)).2.2 (Below.on HB2.out (new_lowK W2 _)) (HO.out W (Below.refl _ _)).2.1 _ _ rfl (insC op r a (c1, c2, ct)) q m cq ⟨rfl, rfl⟩ ?own (World.news_of_block (heap_alloc_new W2 _)) (by omega) ?_
  case own => exact HT.out.below (new_lowK W2 _)
  intro g n' cap w' ho' hb' hg hn2
  obtain ⟨⟨k1, k2, k3⟩, k4, k5⟩ := HFIN.out q m cq W2 HT.out HB2.out _ rfl g n' cap w' ho' hg; refine ⟨k4, ?_⟩; have K5 : Hid _ := k5; clear k4 k5 ho' hb' hg hn2 hS0 hS2; simp only [Act.put, zzA, zzB, zzC]; refine wpAnyH_done (by kernel_rfl) ?_ _; refine wpAny_of_held (S := fun _ => True) 3 _ _ _ ?_; have hT0 : True := trivial; refine hTk (i := 19) (v := ptrK cb) (some 29) (fun o ho W hSw => ?y18) (by assumption) ?_
  case y18 => cases ho; simp [execOp, go_sem, Act.eval]
  simp only [Act.put, zzA, zzB, zzC]; refine hTk (i := 20) (v := .pointer (some ⟨cb, 0, none⟩)) (some 30) (fun o ho W hSw => ?y19) (by assumption) ?_
  case y19 => cases ho; simp [execOp, go_sem, Act.eval]
  simp only [Act.put, zzA, zzB, zzC]; refine hStore (i := 21) (w' := w'.setCell ⟨cb, 0, none⟩ (.slice (some ⟨g, 0, none⟩) n' cap)) (by kernel_rfl) (by kernel_rfl) (by kernel_rfl) (fun o ho => ?ys) trivial ?_
  case ys => cases ho; simp [execOp, go_sem, Act.eval, k1, k2, k3]
  simp only [Act.put, zzA, zzB, zzC]; refine wpAnyH_done (by kernel_rfl) ?_ _
  go_end0
  exact K5.out
end
section
variable {Z : List Nat} {w1 : World} {cb gb eb : Nat} {pc : Option Addr} {cc : Nat} {C : List Int} {s : KS} {w : World}
theorem set_atO (l : List (Option Int)) (v : Nat) {x : Option Int} (h : l.getD v none = x) (hv : v < l.length) : l.set v x = l := by
 apply List.ext_getElem?
 intro j
 rw [List.getElem?_set]
 by_cases e : v = j
 ·subst e
  rw [if_pos rfl, if_pos hv, ← h]
  simp [List.getD_eq_getElem?_getD, hv]
 ·rw [if_neg e]
theorem KS.same (s : KS) (v : Nat) {x : Option Int} (h : s.reg.getD v none = x) (hv : v < s.reg.length) : ({ s with reg := s.reg.set v x } : KS) = s := by rw [set_atO _ _ h hv]
def KReg (Z : List Nat) (w1 : World) (cb gb eb : Nat) (pc : Option Addr) (cc : Nat) (C : List Int) (w : World) (x : Int × Bool × KS) (e : Ending) (w' : World) : Prop := e = .returned (.tuple #[.int .i64 x.1, .bool x.2.1]) ∧ MK Z w1 cb gb eb pc cc C x.2.2 w' ∧ FrX [cb, gb, eb] w w'
set_option maxHeartbeats 2000000 in
theorem l9reg_any (E : CEnv w1 cb gb eb pc cc C) (h : MK Z w1 cb gb eb pc cc C s w) (v : Nat) (hv : v < C.length) (hc : ¬ C.getD v 0 = 0) (hn : s.nx ≤ 900000000) :
  Calls Tryz.prog 49 #[ptrK cb, .int .i64 v] w (KReg Z w1 cb gb eb pc cc C w (regK C s v)) := by
 have hvl : v < s.reg.length := by rw [h.ln]; exact hv
 obtain ⟨pb, po, ep, hcl⟩ := h.cls E hv; have hcap := E.cap; have hlen := E.len
 -- what the two rows hold
 have hG := (h.rg v hv).1; have hE := (h.rg v hv).2; have fE : w.frozen? ⟨eb, v, none⟩ = false := h.fz eb (by simp) v; have lE : eb < w.heap.size := Nat.lt_of_lt_of_le E.lt.2.2 h.sty.size; have c1 := h.c1; have c2 := h.c2; have c3 := h.c3; have n2 := E.ne.2.1; have n3 := E.ne.2.2; rw [ep] at c1
 -- the world where it is seen
 have d2 : (w.setCell ⟨eb, v, none⟩ (.bool true)).cell? ⟨cb, 2, none⟩ = some (.slice (some ⟨gb, 0, none⟩) C.length C.length) := cell_other c2 (fun e => n2 e.1); have dG : (w.setCell ⟨eb, v, none⟩ (.bool true)).cell? ⟨gb, v, none⟩ = some (.int .i64 (regM C s v)) := cell_other hG (fun e => n3 e.1); have HT := l9take_any E h (by omega)
 rcases regK_cases C s v with ⟨r, hr, er⟩ | ⟨hr, h2, er⟩ | ⟨hr, h2, er⟩
 ·have eM : regM C s v = r := by unfold regM; rw [hr]; rfl
  rw [eM] at hG dG; rw [hr] at hE
  have HF : Hid (KReg Z w1 cb gb eb pc cc C w (regK C s v) (.returned (.tuple #[.int .i64 r, .bool false])) (w.setCell ⟨eb, v, none⟩ (.bool true))) := by
   rw [er]; have := h.seen E hv r hG (h.lo v r hr); rw [KS.same s v hr hvl] at this; exact ⟨rfl, this, (FrX.refl _ w).set (by simp) _ _⟩
  simp only [Option.isSome_some] at hE
  obtain ⟨N, eN⟩ : ∃ N, N = C.length := ⟨_, rfl⟩
  rw [← eN] at hv c1 c2 c3 hcap hlen d2; clear h E HT er eM ep hvl hr hc eN hn
  go_enter Tryz.func49, Tryz.ntmps49
  go_wp2_with fail
  go_ret2
  exact HF.out
 ·have eM : regM C s v = prmK C v := by unfold regM; rw [hr, if_pos h2]; rfl
  rw [eM] at hG dG; rw [hr] at hE; have hlo := prmK_low C E.len v
  have HF : Hid (KReg Z w1 cb gb eb pc cc C w (regK C s v) (.returned (.tuple #[.int .i64 (prmK C v), .bool true])) (w.setCell ⟨eb, v, none⟩ (.bool true))) := by
   rw [er]; exact ⟨rfl, h.seen E hv _ hG ⟨hlo.1, by omega⟩, (FrX.refl _ w).set (by simp) _ _⟩
  simp only [Option.isSome_none] at hE; rw [h2] at hcl
  obtain ⟨N, eN⟩ : ∃ N, N = C.length := ⟨_, rfl⟩
  obtain ⟨y, ey⟩ : ∃ y, y = prmK C v := ⟨_, rfl⟩
  rw [← eN] at hv c1 c2 c3 hcap hlen d2; rw [← ey] at hG dG HF; clear h E HT er eM ep hvl hr hc eN hn hlo ey h2
  go_enter Tryz.func49, Tryz.ntmps49
  go_wp2_with fail
  go_ret2
  exact HF.out
 ·have h1 : C.getD v 0 = 1 := by rcases E.three v with q | q | q <;> first | exact q | exact absurd q hc | exact absurd q h2
  rw [hr] at hE; rw [h1] at hcl; simp only [Option.isSome_none] at hE
  obtain ⟨x, ex⟩ : ∃ x : Int, x = (s.nx : Int) := ⟨_, rfl⟩
  have hx : 0 ≤ x ∧ x ≤ 900000000 := by omega
  have HF : Hid (∀ W2, MK Z w1 cb gb eb pc cc C s.take W2 → FrX [cb, gb, eb] w W2 → (W2.cell? ⟨cb, 2, none⟩ = some (.slice (some ⟨gb, 0, none⟩) C.length C.length)) ∧ ((∃ u, W2.cell? ⟨gb, v, none⟩ = some (.int .i64 u)) ∧ W2.frozen? ⟨gb, v, none⟩ = false ∧ gb < W2.heap.size) ∧
    (W2.setCell ⟨gb, v, none⟩ (.int .i64 x)).cell? ⟨cb, 2, none⟩ = some (.slice (some ⟨gb, 0, none⟩) C.length C.length) ∧ (W2.setCell ⟨gb, v, none⟩ (.int .i64 x)).cell? ⟨cb, 3, none⟩ = some (.slice (some ⟨eb, 0, none⟩) C.length C.length) ∧ (W2.setCell ⟨gb, v, none⟩ (.int .i64 x)).cell? ⟨eb, v, none⟩ = some (.bool false) ∧ (W2.setCell ⟨gb, v, none⟩ (.int .i64 x)).frozen? ⟨eb, v, none⟩ = false ∧ eb < (W2.setCell ⟨gb, v, none⟩ (.int .i64 x)).heap.size ∧
    ((W2.setCell ⟨gb, v, none⟩ (.int .i64 x)).setCell ⟨eb, v, none⟩ (.bool true)).cell? ⟨cb, 2, none⟩ = some (.slice (some ⟨gb, 0, none⟩) C.length C.length) ∧ ((W2.setCell ⟨gb, v, none⟩ (.int .i64 x)).setCell ⟨eb, v, none⟩ (.bool true)).cell? ⟨gb, v, none⟩ = some (.int .i64 x) ∧
    KReg Z w1 cb gb eb pc cc C w (regK C s v) (.returned (.tuple #[.int .i64 x, .bool true])) ((W2.setCell ⟨gb, v, none⟩ (.int .i64 x)).setCell ⟨eb, v, none⟩ (.bool true))) := fun W2 h2' hf2 => by
   have n1 := E.ne.1; have hs : s.take.reg.getD v none = none := hr; have hm := h2'.reg E hv hs x ⟨by omega, by show x ≤ ((s.nx + 1 : Nat) : Int); omega⟩; have k2 := h2'.c2; have kG := (h2'.rg v hv).1; have kE := (h2'.rg v hv).2; rw [hs] at kE; have s2 := cell_other (b := gb) (o := v) (v := .int .i64 x) k2 (fun e => n1 e.1); have sG : (W2.setCell ⟨gb, v, none⟩ (.int .i64 x)).cell? ⟨gb, v, none⟩ = some (.int .i64 x) := World.cell?_setCell_same' _ _ _ (by rw [kG]; rfl); refine ⟨k2, ⟨⟨_, kG⟩, h2'.fz gb (by simp) v, Nat.lt_of_lt_of_le E.lt.2.1 h2'.sty.size⟩, s2, cell_other h2'.c3 (fun e => n1 e.1), cell_other kE (fun e => n3 e.1.symm), by rw [World.frozen?_setCell]; exact h2'.fz eb (by simp) v, by simpa using Nat.lt_of_lt_of_le E.lt.2.2 h2'.sty.size, cell_other s2 (fun e => n2 e.1), cell_other sG (fun e => n3 e.1), ?_⟩; rw [er]; refine ⟨by rw [ex], ?_, (hf2.set (by simp) _ _).set (by simp) _ _⟩
   rw [ex] at hm ⊢; exact hm
  rw [← ex] at HT
  have HTT : Hid (Calls Tryz.prog 122 #[ptrK cb] w.drew fun e w' => e = .returned (.int .i64 x) ∧ MK Z w1 cb gb eb pc cc C s.take w' ∧ FrX [cb, gb, eb] w w') := by
   have := l9take_any E (h.below (below_drewK (Below.refl _ _))) (by omega); rw [← ex] at this
   exact this.mono fun e w' ⟨a, b, c⟩ => ⟨a, b, (FrX.of _ (below_drewK (Below.refl _ _))).trans c⟩
  have hS0 : w.drew.cell? ⟨cb, 2, none⟩ = some (.slice (some ⟨gb, 0, none⟩) C.length C.length) := c2
  obtain ⟨N, eN⟩ : ∃ N, N = C.length := ⟨_, rfl⟩
  rw [← eN] at hv c1 c2 c3 hcap hlen HF hS0
  obtain ⟨P, eP⟩ : ∃ P, P = KReg Z w1 cb gb eb pc cc C w (regK C s v) := ⟨_, rfl⟩
  rw [← eP] at HF ⊢; clear h E HT er ep hvl hr hc eN hn h1 h2 ex d2 dG hG fE lE eP
  go_enter Tryz.func49, Tryz.ntmps49
  go_wp2_with fail; refine wp_region_held_drew (S := fun W => W.cell? ⟨cb, 2, none⟩ = some (.slice (some ⟨gb, 0, none⟩) N N)) (by kernel_rfl) hS0 (fun hHeld => ?_); refine hTk (i := 0) (v := ptrK cb) (some 26) (fun o ho W hSw => ?y0) (by assumption) ?_
  case y0 => cases ho; simp [execOp, go_sem, Act.eval]
  simp only [Act.put, zzA, zzB, zzC]; refine hTk (i := 1) (v := ptrK cb) (some 27) (fun o ho W hSw => ?y1) (by assumption) ?_
  case y1 => cases ho; simp [execOp, go_sem, Act.eval]
  simp only [Act.put, zzA, zzB, zzC]; refine hTk (i := 2) (v := .pointer (some ⟨cb, 2, none⟩)) (some 28) (fun o ho W hSw => ?y2) (by assumption) ?_
  case y2 => cases ho; simp [execOp, go_sem, Act.eval]
  simp only [Act.put, zzA, zzB, zzC]; refine hTk (i := 3) (v := .slice (some ⟨gb, 0, none⟩) N N) (some 29) (fun o ho W hSw => ?y3) (by assumption) ?_
  case y3 => cases ho; simp [execOp, go_sem, Act.eval, hSw]
  simp only [Act.put, zzA, zzB, zzC]; refine hTk (i := 4) (v := .int .i64 v) (some 30) (fun o ho W hSw => ?y4) (by assumption) ?_
  case y4 => cases ho; simp [execOp, go_sem, Act.eval]
  simp only [Act.put, zzA, zzB, zzC]; refine hTk (i := 5) (v := ptrK cb) (some 31) (fun o ho W hSw => ?y5) (by assumption) ?_
  case y5 => cases ho; simp [execOp, go_sem, Act.eval]
  simp only [Act.put, zzA, zzB, zzC]; refine hCallE (i := 6) (f := 122) (args := #[ptrK cb]) (some 32) (by kernel_rfl) (by kernel_rfl) (by kernel_rfl) (fun o ho => ?c6) HTT.out ?k6 (fun ch w' hh => by cases hh.1) (fun w' hh => by cases hh.1)
  case c6 => cases ho; simp [execOp, go_sem, Act.eval]
  case k6 =>
   rintro u W2 ⟨eq, hm, hf⟩
   cases eq
   obtain ⟨k0, ⟨⟨u0, k1⟩, k2, k3⟩, k4, k5, k6, k7, k8, k9, kA, kB⟩ := HF.out W2 hm hf; refine ⟨k0, ?_⟩; have KB : Hid _ := kB; clear hm hf kB HF HTT; simp only [Act.put, zzA, zzB, zzC]; refine hTk (i := 7) (v := .pointer (some ⟨gb, v, none⟩)) (some 33) (fun o ho W hSw => ?y7) (by assumption) ?_
   case y7 => cases ho; simp [execOp, go_sem, Act.eval, hv]
   simp only [Act.put, zzA, zzB, zzC]; refine hStore (i := 8) (w' := W2.setCell ⟨gb, v, none⟩ (.int .i64 x)) (by kernel_rfl) (by kernel_rfl) (by kernel_rfl) (fun o ho => ?ys) k4 ?_
   case ys => cases ho; simp [execOp, go_sem, Act.eval, k1, k2, k3]
   refine wpAnyH_done (by kernel_rfl) ?_ _
   change Exit.then _ _ _ _ (W2.setCell ⟨gb, v, none⟩ (.int .i64 x))
   go_wp2_with fail; exact KB.out
end
def varK (C : List Int) (s : KS) (v : Nat) (a void first other : Int) : KS :=
 if C.getD v 0 = 0 then (if 0 ≤ void then s.put (insN void 0 a) else s) else (regK C s v).2.2.put (insN (if (regK C s v).2.1 then first else other) (regK C s v).1 a)
section
variable {Z : List Nat} {w1 : World} {cb gb eb : Nat} {pc : Option Addr} {cc : Nat} {C : List Int} {s : KS} {w : World}
set_option maxHeartbeats 400000 in
theorem l9var_any (E : CEnv w1 cb gb eb pc cc C) (h : MK Z w1 cb gb eb pc cc C s w) (v : Nat) (hv : v < C.length) (a void first other : Int) (hvo : -1 ≤ void ∧ void ≤ 100) (hn : s.nx ≤ 900000000) (ho : s.out.length ≤ 900000000) :
  Calls Tryz.prog 47 #[ptrK cb, .int .i64 v, .int .i64 a, .int .i64 void, .int .i64 first, .int .i64 other] w (KUnit Z w1 cb gb eb pc cc C w (varK C s v a void first other)) := by
 obtain ⟨pb, po, ep, hcl⟩ := h.cls E hv; have hcap := E.cap; have hlen := E.len; have c1 := h.c1; rw [ep] at c1
 unfold varK
 by_cases h0 : C.getD v 0 = 0
 ·rw [if_pos h0]
  rw [h0] at hcl
  by_cases hvo2 : 0 ≤ void
  ·rw [if_pos hvo2]
   have HE := l9emit_any E h void 0 a ho
   obtain ⟨N, eN⟩ : ∃ N, N = C.length := ⟨_, rfl⟩
   rw [← eN] at hv c1 hcap hlen; clear h E ep h0 eN
   go_enter Tryz.func47, Tryz.ntmps47
   go_wp2_with fail; refine HE.mono ?_; rintro e W ⟨rfl, hm⟩; have HM : Hid _ := hm; clear hm HE; go_wp2_with fail
   go_end0
   exact ⟨rfl, HM.out⟩
  ·rw [if_neg hvo2]
   have HM : Hid (MK Z w1 cb gb eb pc cc C s w ∧ FrX [cb, gb, eb] w w) := ⟨h, .refl _ _⟩
   obtain ⟨N, eN⟩ : ∃ N, N = C.length := ⟨_, rfl⟩
   rw [← eN] at hv c1 hcap hlen; clear h E ep h0 eN
   go_enter Tryz.func47, Tryz.ntmps47
   go_wp2_with fail
   go_end0
   exact ⟨rfl, HM.out⟩
 ·rw [if_neg h0]
  have HR := l9reg_any E h v hv h0 hn; have hup := up_reg C E.len s v
  obtain ⟨X, eX⟩ : ∃ X, X = regK C s v := ⟨_, rfl⟩
  rw [← eX] at HR hup ⊢
  have hol : X.2.2.out.length ≤ 900000000 := by rw [eX, reg_out]; exact ho
  have HE : Hid (∀ W op, MK Z w1 cb gb eb pc cc C X.2.2 W → FrX [cb, gb, eb] w W → Calls Tryz.prog 18 #[ptrK cb, .int .i64 op, .int .i64 X.1, .int .i64 a] W (KUnit Z w1 cb gb eb pc cc C w (X.2.2.put (insN op X.1 a)))) := fun W op hm hf => (l9emit_any E hm op X.1 a hol).mono fun e w' ⟨q1, q2, q3⟩ => ⟨q1, q2, hf.trans q3⟩
  obtain ⟨cv, ecv⟩ : ∃ cv, cv = C.getD v 0 := ⟨_, rfl⟩
  have hcr : 0 ≤ cv ∧ cv ≤ 2 := by rw [ecv]; rcases E.three v with q | q | q <;> omega
  rw [← ecv] at h0 hcl
  obtain ⟨N, eN⟩ : ∃ N, N = C.length := ⟨_, rfl⟩
  rw [← eN] at hv c1 hcap hlen; obtain ⟨r, fi, st⟩ := X; simp only at HE ⊢; clear h E ep eN eX hup hol ecv hn ho
  cases fi with
  | true =>
    rw [if_pos rfl]
    go_enter Tryz.func47, Tryz.ntmps47
    go_wp2_with fail; refine HR.mono ?_; rintro e W ⟨rfl, hm, hf⟩
    have HA := HE.out W first hm hf
    clear hm hf HE HR; go_wp2_with fail; refine HA.mono ?_; rintro e W2 ⟨rfl, hm⟩; have HM : Hid _ := hm; clear hm HA; go_wp2_with fail
    go_end0
    exact ⟨rfl, HM.out⟩
  | false =>
    rw [if_neg (by decide)]
    go_enter Tryz.func47, Tryz.ntmps47
    go_wp2_with fail; refine HR.mono ?_; rintro e W ⟨rfl, hm, hf⟩; have HA := HE.out W other hm hf; clear hm hf HE HR; go_wp2_with fail; refine HA.mono ?_; rintro e W2 ⟨rfl, hm⟩; have HM : Hid _ := hm; clear hm HA; go_wp2_with fail
    go_end0
    exact ⟨rfl, HM.out⟩
end
theorem varK_arg (C : List Int) (o : AO) (s : KS) (c : Cel) (a : Int) (h : c.1 = 0) (hv : 0 ≤ o.void) : varK C s c.2.1.toNat a o.void o.first o.again = argK C o s c a := by
 unfold varK argK vcl
 rw [if_pos h]
 by_cases h0 : C.getD c.2.1.toNat 0 = 0
 ·rw [if_pos h0, if_pos h0, if_pos hv]
 ·rw [if_neg h0, if_neg h0]
theorem cell_block {w : World} {b : Nat} {cur : Array Value} {e : TypeId} {fr : Nat × Nat} (h : w.heap[b]? = some (.cells cur e fr)) (o : Nat) : w.cell? ⟨b, o, none⟩ = cur[o]? := by simp [World.cell?, h]
theorem frozen_block {w : World} {b : Nat} {cur : Array Value} {e : TypeId} (h : w.heap[b]? = some (.cells cur e (0, 0))) (o : Nat) : w.frozen? ⟨b, o, none⟩ = false := by simp [World.frozen?, h]
structure QR (w : World) (B : Nat) (e : TypeId) (size : Nat) (p : Option Addr) (b off n c : Nat) (cs : List Value) : Prop where
 le : n ≤ c
 max : c ≤ maxLen
 len : cs.length = n * size
 low : 0 < c → p = some ⟨b, off, none⟩ ∧ B ≤ b ∧ ∃ cur, w.heap[b]? = some (.cells cur e (0, 0)) ∧ off + c * size ≤ cur.size ∧ ∀ j u, cs[j]? = some u → cur[off + j]? = some u
theorem QR.of_block {w w' : World} {B : Nat} {e : TypeId} {size : Nat} {p : Option Addr} {b off n c : Nat} {cs : List Value} (h : QR w B e size p b off n c cs) (hb : 0 < c → w'.heap[b]? = w.heap[b]?) : QR w' B e size p b off n c cs := by
 refine ⟨h.le, h.max, h.len, fun hc => ?_⟩; obtain ⟨h1, h2, cur, h3, h4⟩ := h.low hc; exact ⟨h1, h2, cur, (hb hc).trans h3, h4⟩
theorem QR.lt {w : World} {B : Nat} {e : TypeId} {size : Nat} {p : Option Addr} {b off n c : Nat} {cs : List Value} (h : QR w B e size p b off n c cs) (hc : 0 < c) : b < w.heap.size := by
 obtain ⟨h1, h2, cur, h3, h4⟩ := h.low hc; exact (Array.getElem?_eq_some_iff.1 h3).1
theorem QR.below {w w' : World} {B : Nat} {e : TypeId} {size : Nat} {p : Option Addr} {b off n c : Nat} {cs : List Value} (h : QR w B e size p b off n c cs) (hb : Below w.heap.size w w') : QR w' B e size p b off n c cs := h.of_block fun hc => hb.block b (h.lt hc)
theorem QR.cell {w : World} {B : Nat} {e : TypeId} {size : Nat} {p : Option Addr} {b off n c : Nat} {cs : List Value} (h : QR w B e size p b off n c cs) {j : Nat} {u : Value} (hj : cs[j]? = some u) : p = some ⟨b, off, none⟩ ∧ w.cell? ⟨b, off + j, none⟩ = some u := by
 have hc : 0 < c := by
  have h1 := (List.getElem?_eq_some_iff.1 hj).1; have h2 := h.len; have h3 := h.le
  rcases Nat.eq_zero_or_pos n with h0 | h0
  ·rw [h0] at h2; simp at h2; rw [h2] at h1; simp at h1
  ·omega
 obtain ⟨h1, h2, cur, h3, h4, h5⟩ := h.low hc; refine ⟨h1, ?_⟩; rw [cell_block h3]; exact h5 j u hj
theorem QR.tail {w : World} {B : Nat} {e : TypeId} {size : Nat} {p p' : Option Addr} {b off n c : Nat} {cs : List Value} (h : QR w B e size p b off (n + 1) c cs) (hp : 0 < c - 1 → p' = some ⟨b, off + size, none⟩) : QR w B e size p' b (off + size) n (c - 1) (cs.drop size) := by
 have hle := h.le; refine ⟨by omega, by have := h.max; omega, by rw [List.length_drop, h.len, Nat.add_mul]; omega, fun hc => ?_⟩; obtain ⟨h1, h2, cur, h3, h4, h5⟩ := h.low (by omega); refine ⟨hp hc, h2, cur, h3, ?_, fun j u hj => ?_⟩
 ·have : c * size = (c - 1) * size + size := by rw [← Nat.succ_mul]; congr 1; omega
  omega
 ·rw [List.getElem?_drop] at hj
  have := h5 (size + j) u hj
  rwa [Nat.add_assoc]
theorem QR.built (w : World) (B : Nat) (hB : B ≤ w.heap.size) (e : TypeId) (vs : List Value) : QR (w.alloc (.cells vs.toArray e)) B e vs.length (some ⟨w.heap.size, 0, none⟩) w.heap.size 0 1 1 vs :=
 ⟨Nat.le_refl _, by decide, by simp, fun _ => ⟨rfl, hB, vs.toArray, heap_alloc_new w _, by simp, fun j u hj => by simpa using hj⟩⟩
theorem heap_setCells_type : ∀ (vs : List Value) (w : World) (b o : Nat) (cur : Array Value) (e : TypeId), w.heap[b]? = some (.cells cur e (0, 0)) → o + vs.length ≤ cur.size → ∃ cur', (w.setCells b o vs).heap[b]? = some (.cells cur' e (0, 0)) ∧ cur'.size = cur.size ∧ (∀ j, j < o → cur'[j]? = cur[j]?) ∧ (∀ j, j < vs.length → cur'[o + j]? = vs[j]?) ∧ (w.setCells b o vs).tape = w.tape ∧ (w.setCells b o vs).heap.size = w.heap.size
 | [], w, b, o, cur, e, h, _ => ⟨cur, h, rfl, fun _ _ => rfl, fun j hj => by simp at hj, rfl, rfl⟩
 | v :: r, w, b, o, cur, e, h, hl => by
   have h1 : (w.setCell ⟨b, o, none⟩ v).heap[b]? = some (.cells (cur.setIfInBounds o v) e (0, 0)) := by
    unfold World.setCell
    rw [Array.getElem?_modify, if_pos rfl, h]; rfl
   simp only [List.length_cons] at hl; obtain ⟨cur', g1, g2, g3, g4, g5, g6⟩ := heap_setCells_type r (w.setCell ⟨b, o, none⟩ v) b (o + 1) _ e h1 (by simp; omega); refine ⟨cur', g1, by rw [g2]; simp, fun j hj => ?_, fun j hj => ?_, g5, by rw [World.setCells, g6]; simp⟩
   ·rw [g3 j (by omega)]; simp [Array.getElem?_setIfInBounds, show ¬ o = j by omega]
   ·match j with
    | 0 => rw [Nat.add_zero, g3 o (by omega)]; simp [Array.getElem?_setIfInBounds, show o < cur.size by omega]
    | j + 1 =>
      have := g4 j (by simpa using hj); rw [show o + (j + 1) = o + 1 + j by omega, this]; simp
structure QFr (b c : Nat) (w w' : World) : Prop where
 os : w'.os = w.os
 tape : w'.tape = w.tape
 output : w'.output = w.output
 size : w.heap.size ≤ w'.heap.size
 block : ∀ k, k < w.heap.size → (0 < c → k ≠ b) → w'.heap[k]? = w.heap[k]?
theorem QFr.frx {X : List Nat} {b c : Nat} {w0 w w' : World} (h : FrX X w0 w) (k : QFr b c w w') (hb : 0 < c → w0.heap.size ≤ b) : FrX X w0 w' := ⟨k.os.trans h.os, k.tape.trans h.tape, k.output.trans h.output, Nat.le_trans h.size k.size, fun x hx h1 h2 => (k.block x (Nat.lt_of_lt_of_le hx h.size) fun hc => by have := hb hc; omega).trans (h.block x hx h1 h2)⟩
theorem run_appQ (w : World) (t ty e : TypeId) (i0 : TypeInfo) (z : Value) (bytes : Nat) (ht : Tryz.prog.underlying t = some (.slice e)) (hi : Tryz.prog.info? e = some i0) (hz : i0.zero = some z) (hby : i0.bytes = bytes) (hzs : z.cells.size = i0.size) (B : Nat) {p : Option Addr} {b off n c : Nat} {cs : List Value} (hq : QR w B e i0.size p b off n c cs) (hB : B ≤ w.heap.size)
  (ad : Addr) (c' : Nat) (news : List Value) (hl : news.length = i0.size) (hnews : ∀ j u, news[j]? = some u → w.cell? (ad.add j) = some u) (h1 : ∀ u ∈ news, u.oneCell' = true) (hn : n + 1 ≤ 1000000000) (hb : (n + 1) * bytes ≤ 140737488355328) :
  ∃ p' b' off' c2 w', (Builtin.append_ #[t, t] ty #[.slice p n c, .slice (some ad) 1 c']).run Tryz.prog w = .ok (.slice p' (n + 1) c2) w' ∧ QR w' B e i0.size p' b' off' (n + 1) c2 (cs ++ news) ∧ QFr b c w w' ∧ (b' = b ∧ 0 < c ∨ b' = w.heap.size) ∧ p' = some ⟨b', off', none⟩ := by
 have hs := Src.ofSlice (P := Tryz.prog) (w := w) (size := i0.size) ht ad 1 c' news (by rw [hl]; omega) hnews h1
 have hsz : (cs ++ news).length = (n + 1) * i0.size := by rw [List.length_append, hq.len, hl, Nat.add_mul]; omega
 by_cases hr : n + 1 ≤ c
 ·obtain ⟨k1, k2, cur, k3, k4, k5⟩ := hq.low (by omega)
  have hmul : (n + 1) * i0.size ≤ c * i0.size := Nat.mul_le_mul_right _ hr; rw [Nat.add_mul] at hmul
  have hroom : ∀ j, j < news.length → off + n * i0.size + j < cur.size := fun j hj => by rw [hl] at hj; omega
  have hrun := run_append_room_src (P := Tryz.prog) w t t ty e i0 ht hi b off n c (.slice (some ad) 1 c') 1 news hs hr (fun j hj => by rw [cell_block k3]; simp [hroom j hj]) (fun j hj => frozen_block k3 _); obtain ⟨cur', g1, g2, g3, g4, g5, g6⟩ := heap_setCells_type news w b (off + n * i0.size) cur e k3 (by rw [hl]; omega); refine ⟨some ⟨b, off, none⟩, b, off, c, _, by rw [k1]; exact hrun, ⟨hr, hq.max, hsz, fun _ => ⟨rfl, k2, cur', g1, by rw [g2]; exact k4, fun j u hj => ?_⟩⟩, ⟨World.os_setCells _ _ _ _, g5, World.output_setCells _ _ _ _, by rw [g6]; exact Nat.le_refl _, fun k hk hne => World.heap_setCells_other w b _ _ hk (hne (by omega))⟩, .inl ⟨rfl, by omega⟩, rfl⟩
  by_cases hj' : j < cs.length
  ·rw [List.getElem?_append_left hj'] at hj
   rw [g3 (off + j) (by rw [hq.len] at hj'; omega)]; exact k5 j u hj
  ·rw [List.getElem?_append_right (by omega)] at hj
   have hlt := (List.getElem?_eq_some_iff.1 hj).1; have := g4 (j - cs.length) hlt
   have e9 : off + n * i0.size + (j - cs.length) = off + j := by have := hq.len; omega
   rw [e9] at this; exact this.trans hj
 ·have hle := hq.le
  have hcn : c = n := by omega
  have hold : (Builtin.firstCells i0.size n (.slice p n c)).run Tryz.prog w.drew = .ok cs.toArray w.drew := by
   rcases Nat.eq_zero_or_pos c with h0 | h0
   ·have hcs : cs = [] := by apply List.length_eq_zero_iff.1; rw [hq.len, ← hcn, h0]; simp
    rw [hcs]
    cases p with
    | none => exact run_firstCells_none _ _ _ _ _
    | some a => exact run_firstCells_some w.drew i0.size n a n c [] (by rw [← hcn, h0]; simp) (fun j v hv => by simp at hv)
   ·obtain ⟨k1, k2, cur, k3, k4, k5⟩ := hq.low h0
    rw [k1]; exact run_firstCells_some w.drew i0.size n ⟨b, off, none⟩ n c cs hq.len (fun j v hv => by rw [Addr.add_lit]; exact (hq.cell hv).2)
  have hrun := run_append_grow_src (P := Tryz.prog) w t t ty e i0 z ht hi hz p n c cs hold (.slice (some ad) 1 c') 1 news hs (by omega) (by omega) (growslice_fits (by omega) (by rw [hby]; exact hb)); have hge := grownCap_ge w (n + 1) c e; have hcm := grownCap_le_maxLen w (n + 1) c e (by unfold maxLen; omega)
  have hL : (cs ++ news).toArray.size = (n + 1) * i0.size := by simpa using hsz
  refine ⟨some ⟨w.heap.size, 0, none⟩, w.heap.size, 0, _, _, hrun, ⟨hge, hcm, hsz, fun _ => ⟨rfl, hB, _, heap_alloc_new w.drew _, ?_, fun j u hj => ?_⟩⟩, ⟨rfl, rfl, rfl, by simp, fun k hk _ => Below.heap_alloc w.drew _ k hk⟩, .inr rfl, rfl⟩
  ·rw [Array.size_append, hL, size_zeroCells, hzs, Nat.zero_add, ← Nat.add_mul]
   exact Nat.mul_le_mul_right _ (by omega)
  ·rw [Nat.zero_add, Array.getElem?_append_left (by have := (List.getElem?_eq_some_iff.1 hj).1; simpa using this)]
   simpa using hj
theorem app_q (w : World) {ops : Array Oper} {rest : List Oper} {o : Oper} {a : Act} {Q : Exit → Act → World → Prop} (hgd : o.guard = none) (s x : Operand) (t e : TypeId) (size : Nat) (z : Value) (bytes : Nat)
  (ho : o.op = .call { callee := .builtin .append, args := #[s, x], argTypes := #[t, t] }) (ht : Tryz.prog.underlying t = some (.slice e)) (hinf : (Tryz.prog.info? e).map (fun i => (i.zero, i.size, i.bytes)) = some (some z, size, bytes)) (hzs : z.cells.size = size)
  (B : Nat) {p : Option Addr} {b off n c : Nat} {cs : List Value} (hs : a.eval s = .slice p n c) (hq : QR w B e size p b off n c cs) (hB : B ≤ w.heap.size) (ad : Addr) (c' : Nat) (hx : a.eval x = .slice (some ad) 1 c') (news : List Value) (hl : news.length = size)
  (hnews : ∀ j u, news[j]? = some u → w.cell? (ad.add j) = some u) (h1 : ∀ u ∈ news, u.oneCell' = true) (hn : n + 1 ≤ 1000000000) (hb : (n + 1) * bytes ≤ 140737488355328)
  (h : ∀ p' b' off' c2 n' w', QR w' B e size p' b' off' n' c2 (cs ++ news) → QFr b c w w' → (b' = b ∧ 0 < c ∨ b' = w.heap.size) → Hid (n' = n + 1) → wpList Tryz.prog ops Q rest (a.put o.dst (.slice p' n' c2)) w') : wpList Tryz.prog ops Q (o :: rest) a w := by
 obtain ⟨i0, hi, hz0, rfl, hz2⟩ := info_parts hinf
 refine wpList_plain hgd fun K hK' => ?_
 obtain ⟨p', b', off', c2, w', hrun, hq', hf, hb', _⟩ := run_appQ w t o.type e i0 z bytes ht hi hz0 hz2 hzs B hq hB ad c' news hl hnews h1 hn hb
 unfold Oper.wp
 simp [execOp, ho, resolve, invoke, builtin, hs, hx, hrun, Result.andThen]
 exact hK' _ _ (h p' b' off' c2 (n + 1) w' hq' hf hb' rfl)
end Go.Proofs.YtickbkcpcgmlmaaGreatDoor
