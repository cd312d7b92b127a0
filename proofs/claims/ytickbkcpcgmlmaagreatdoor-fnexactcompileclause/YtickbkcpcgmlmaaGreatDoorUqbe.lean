/- Texts of CeM. Own work of the verifier. -/
import Derived.Test.YtickbkcpcgmlmaaGreatDoorUqbd
namespace Go.Proofs.YtickbkcpcgmlmaaGreatDoor
set_option maxRecDepth 100000
open Go Go.RowKit Go.Maps
set_option linter.unusedVariables false
set_option linter.unusedSimpArgs false
theorem ariM_le (h : Tr) (gs : List Tr) (hh : ariT h.1 ≤ 2000) (hg : ∀ g ∈ gs, ariT g.1 ≤ 2000) : ariM h gs ≤ 2000 := by
 unfold ariM
 generalize ariT h.1 = m at hh
 induction gs generalizing m with
 | nil => exact hh
 | cons g r ih => exact ih (fun x hx => hg x (List.mem_cons_of_mem _ hx)) (max m (ariT g.1)) (by have := hg g (List.mem_cons_self ..); omega)
theorem ariT_le {n : Nat} {t : Tr} (h : TG n t) : ariT t.1 ≤ 2000 := by
 rw [ariT_len h.ok, trs_len]; have := Fo.count_le t.2; have := h.sz
 omega
theorem ccA_size {C : List Int} (hC : C.length ≤ 2000) (h : Tr) (gs : List Tr) (hh : TG C.length h) (hg : ∀ g ∈ gs, TG C.length g) (hn : gs.length ≤ 2000) :
  ((alls (hedK C 5000) 0 (cc0 C h gs) (trs h.2)).out.length ≤ 20000000 ∧ (alls (hedK C 5000) 0 (cc0 C h gs) (trs h.2)).nx ≤ 20000000) ∧ (ccA C 5000 h gs).out.length ≤ 20000000 ∧ (ccA C 5000 h gs).nx ≤ 20000000 := by
 have h1 := up_alls (hedK C 5000) (up_hed C hC 5000) (trs h.2) 0 (cc0 C h gs); have h2 := trs_cellsB h.2; have h3 := up_golsK C hC 5000 gs (alls (hedK C 5000) 0 (cc0 C h gs) (trs h.2)); have h4 := gwK_le gs (fun g hgm => by have := (hg g hgm).sz; omega); have h6 := ariM_le h gs (ariT_le hh) (fun g hgm => ariT_le (hg g hgm)); have a1 := h1.out; have a2 := h1.nx.2; have a3 := h3.out; have a4 := h3.nx.2; have h5 : gs.length * 6004 ≤ 2000 * 6004 := Nat.mul_le_mul_right _ hn
 have h7 : (cc0 C h gs).out.length ≤ 1 := by unfold cc0; simp only; split <;> simp
 have h8 : (cc0 C h gs).nx = ariM h gs := rfl; have h9 := hh.sz
 show _ ∧ (golsK C 5000 (alls (hedK C 5000) 0 (cc0 C h gs) (trs h.2)) gs).out.length ≤ _ ∧ (golsK C 5000 (alls (hedK C 5000) 0 (cc0 C h gs) (trs h.2)) gs).nx ≤ _
 omega
theorem endJ_last : ∀ (gs : List Tr) (x : Tr), gs[gs.length - 1]? = some x → endJ gs = if inlG x = true then insN 21 0 0 else insC 20 0 0 (namC x.1)
 | [], x, h => by simp at h
 | [g], x, h => by
   obtain rfl : g = x := by simpa using h
   exact endJ_one g
 | g :: y :: r, x, h => by
   rw [endJ_more]; exact endJ_last (y :: r) x (by simpa using h)
theorem set_blk {w : World} {b o : Nat} {cs : Array Value} {t : TypeId} {fr : Nat × Nat} {v : Value} (h : w.heap[b]? = some (.cells cs t fr)) : (w.setCell ⟨b, o, none⟩ v).heap[b]? = some (.cells (cs.setIfInBounds o v) t fr) := by
 unfold World.setCell
 rw [Array.getElem?_modify, if_pos rfl, h]; rfl
abbrev set8 (w : World) (b : Nat) (a0 a1 a2 a3 a4 a5 a6 a7 : Value) : World := (((((((w.setCell ⟨b, 0, none⟩ a0).setCell ⟨b, 1, none⟩ a1).setCell ⟨b, 2, none⟩ a2).setCell ⟨b, 3, none⟩ a3).setCell ⟨b, 4, none⟩ a4).setCell ⟨b, 5, none⟩ a5).setCell ⟨b, 6, none⟩ a6).setCell ⟨b, 7, none⟩ a7
theorem set8_blk {w : World} {b : Nat} {x0 x1 x2 x3 x4 x5 x6 x7 : Value} {t : TypeId} {fr : Nat × Nat} (h : w.heap[b]? = some (.cells #[x0, x1, x2, x3, x4, x5, x6, x7] t fr)) (a0 a1 a2 a3 a4 a5 a6 a7 : Value) : (set8 w b a0 a1 a2 a3 a4 a5 a6 a7).heap[b]? = some (.cells #[a0, a1, a2, a3, a4, a5, a6, a7] t fr) := by
 unfold set8
 have h0 : (w.setCell ⟨b, 0, none⟩ a0).heap[b]? = some (.cells #[a0, x1, x2, x3, x4, x5, x6, x7] t fr) := by rw [set_blk h]; rfl
 generalize w.setCell ⟨b, 0, none⟩ a0 = w0 at h0 ⊢
 have h1 : (w0.setCell ⟨b, 1, none⟩ a1).heap[b]? = some (.cells #[a0, a1, x2, x3, x4, x5, x6, x7] t fr) := by rw [set_blk h0]; rfl
 generalize w0.setCell ⟨b, 1, none⟩ a1 = w1 at h1 ⊢
 have h2 : (w1.setCell ⟨b, 2, none⟩ a2).heap[b]? = some (.cells #[a0, a1, a2, x3, x4, x5, x6, x7] t fr) := by rw [set_blk h1]; rfl
 generalize w1.setCell ⟨b, 2, none⟩ a2 = w2 at h2 ⊢
 have h3 : (w2.setCell ⟨b, 3, none⟩ a3).heap[b]? = some (.cells #[a0, a1, a2, a3, x4, x5, x6, x7] t fr) := by rw [set_blk h2]; rfl
 generalize w2.setCell ⟨b, 3, none⟩ a3 = w3 at h3 ⊢
 have h4 : (w3.setCell ⟨b, 4, none⟩ a4).heap[b]? = some (.cells #[a0, a1, a2, a3, a4, x5, x6, x7] t fr) := by rw [set_blk h3]; rfl
 generalize w3.setCell ⟨b, 4, none⟩ a4 = w4 at h4 ⊢
 have h5 : (w4.setCell ⟨b, 5, none⟩ a5).heap[b]? = some (.cells #[a0, a1, a2, a3, a4, a5, x6, x7] t fr) := by rw [set_blk h4]; rfl
 generalize w4.setCell ⟨b, 5, none⟩ a5 = w5 at h5 ⊢
 have h6 : (w5.setCell ⟨b, 6, none⟩ a6).heap[b]? = some (.cells #[a0, a1, a2, a3, a4, a5, a6, x7] t fr) := by rw [set_blk h5]; rfl
 generalize w5.setCell ⟨b, 6, none⟩ a6 = w6 at h6 ⊢
 have h7 : (w6.setCell ⟨b, 7, none⟩ a7).heap[b]? = some (.cells #[a0, a1, a2, a3, a4, a5, a6, a7] t fr) := by rw [set_blk h6]; rfl
 exact h7
theorem set8_oth {w : World} {b k : Nat} (h : k ≠ b) (a0 a1 a2 a3 a4 a5 a6 a7 : Value) : (set8 w b a0 a1 a2 a3 a4 a5 a6 a7).heap[k]? = w.heap[k]? := by
 unfold set8
 rw [Below.heap_setCell _ _ _ _ h, Below.heap_setCell _ _ _ _ h, Below.heap_setCell _ _ _ _ h, Below.heap_setCell _ _ _ _ h, Below.heap_setCell _ _ _ _ h, Below.heap_setCell _ _ _ _ h, Below.heap_setCell _ _ _ _ h, Below.heap_setCell _ _ _ _ h]
theorem set8_size {w : World} {b : Nat} (a0 a1 a2 a3 a4 a5 a6 a7 : Value) : (set8 w b a0 a1 a2 a3 a4 a5 a6 a7).heap.size = w.heap.size := by simp
theorem PK.set8 {Z : List Nat} {w1 : World} {kb pb rb : Nat} {pc : Option Addr} {cc : Nat} {C : List Int} {s : KS} {w : World} (h : PK Z w1 kb pb rb pc cc C s w) {b : Nat} (hb : b ∈ Z) (hB : w1.heap.size ≤ b) (a0 a1 a2 a3 a4 a5 a6 a7 : Value) : PK Z w1 kb pb rb pc cc C s (Go.Proofs.YtickbkcpcgmlmaaGreatDoor.set8 w b a0 a1 a2 a3 a4 a5 a6 a7) :=
 (((((((h.setZ hb hB _ _).setZ hb hB _ _).setZ hb hB _ _).setZ hb hB _ _).setZ hb hB _ _).setZ hb hB _ _).setZ hb hB _ _).setZ hb hB _ _
section
variable {Z : List Nat} {W0 w1 : World} {kb pb rb : Nat} {pc : Option Addr} {cc : Nat} {C : List Int} {s : KS} {w : World}
theorem isFull_any (h : PK Z w1 kb pb rb pc cc C s w) (hn : s.out.length ≤ 900000000) : Calls Tryz.prog 111 #[ptrK kb] w fun e w' => e = .returned (.bool (decide (20000 < s.out.length))) ∧ w' = w := by
 obtain ⟨p, n, c, h0, ho⟩ := h.c0; rw [← ho.1]
 have hnl : n ≤ 900000000 := by have := ho.1; omega
 have hd : decide ((20000 : Int) < n) = decide (20000 < n) := by
  rw [decide_eq_decide]; omega
 have HD : Hid (decide ((20000 : Int) < n) = decide (20000 < n)) := hd; clear h ho hn hd
 go_enter Tryz.func111, Tryz.ntmps111
 go_wp2_with fail; go_ret; exact ⟨by rw [← HD.out]; rfl, rfl⟩
end
def CpOut (R : KS) (a2 : Addr) (w : World) (e : Ending) (w' : World) : Prop := Below w.heap.size w w' ∧ ((decide (20000 < R.out.length) || decide (256 < R.nx)) = true ∧ e = .returned (.tuple #[.slice none 0 0, efV a2]) ∨ (decide (20000 < R.out.length) || decide (256 < R.nx)) = false ∧ ∃ q m c2, e = .returned (.tuple #[.slice q m c2, .nilIface]) ∧ OwnIv [] w' w.heap.size q m c2 R.out)
structure EB (Z : List Nat) (W1 : World) (eb : Nat) (wr : World) (ie : Iv) (tp : Option Addr) (tn tc : Nat) : Prop where
 bx : wr.heap[eb]? = some (.cells (riV (hdI ie, tp, tn, tc)).toArray 72 (0, 0))
 k : ie.K = [] ∧ ie.L = []
 t : OwnT wr W1.heap.size tp tn tc ie.c.2.2
 z : 0 < tn → ∃ tb ∈ Z, tp = some ⟨tb, 0, none⟩
 m : eb ∈ Z
 ge : W1.heap.size ≤ eb
theorem EB.below {Z : List Nat} {W1 wr W : World} {eb : Nat} {ie : Iv} {tp : Option Addr} {tn tc : Nat} (h : EB Z W1 eb wr ie tp tn tc) (hb : Below wr.heap.size wr W) : EB Z W1 eb W ie tp tn tc := ⟨(hb.block eb (Array.getElem?_eq_some_iff.1 h.bx).1).trans h.bx, h.k, h.t.below hb, h.z, h.m, h.ge⟩
theorem EB.fr {Z X : List Nat} {W1 wr W : World} {eb : Nat} {ie : Iv} {tp : Option Addr} {tn tc : Nat} (h : EB Z W1 eb wr ie tp tn tc) (hf : FrP Z X wr W) (hX : ∀ x ∈ X, x < W1.heap.size) : EB Z W1 eb W ie tp tn tc := by
 have hx : ∀ k, W1.heap.size ≤ k → k ∉ X := fun k hk hm => by have := hX k hm; omega
 refine ⟨(hf.keep eb h.m (Array.getElem?_eq_some_iff.1 h.bx).1 (hx eb h.ge)).trans h.bx, h.k, h.t.other hf.size fun g hn e => ?_, h.z, h.m, h.ge⟩; obtain ⟨tb, hm, e2⟩ := h.z hn; obtain ⟨g', e3, hB, hlt, _⟩ := h.t.2 hn; rw [e] at e2 e3
 cases e2; cases e3
 exact hf.keep g hm hlt (hx g hB)
set_option maxHeartbeats 8000000 in
theorem compiled_any (w : World) (h : Tr) (ht : TypeId) (hx : Value) (gs : List Tr) (p : Option Addr) (n cp : Nat) (C : List Int) (a2 : Addr) (hEr : w.cell? ⟨0, 0, none⟩ = some (efV a2)) (hfo : FoIn w 0 h.fo [.iface ht hx]) (hgH : TG C.length h) (hcal : calC h.1 = true) (hgs : GsIn w p gs) (hn : n = gs.length)
  (hgo : ∀ g ∈ gs, TG C.length g ∧ goodG g = true ∧ calC g.1 = true) (hnl : n ≤ 2000) (hcp : n ≤ cp) (hcm : cp ≤ 9223372036854775807) (hlen : C.length ≤ 2000) (h3 : ∀ v, C.getD v 0 = 0 ∨ C.getD v 0 = 1 ∨ C.getD v 0 = 2)
  (HCL : ∀ W, Below w.heap.size w W → Calls Tryz.prog 170 #[fcV ht hx p n cp] W fun e w' => ∃ q m c2, e = .returned (.slice q m c2) ∧ OwnI w' W.heap.size 3 q m c2 C ∧ Below W.heap.size W w') :
  Calls Tryz.prog 26 #[fcV ht hx p n cp] w (CpOut (ccK C 5000 h gs) a2 w) := by
 obtain ⟨V, eV⟩ : ∃ V, V = w.alloc (.cells #[.iface ht hx, .slice p n cp] 59) := ⟨_, rfl⟩
 have hV : Below w.heap.size w V := by rw [eV]; exact new_lowK w _
 have hVs : V.heap.size = w.heap.size + 1 := by rw [eV]; simp
 have hbV : V.heap[w.heap.size]? = some (.cells #[.iface ht hx, .slice p n cp] 59 (0, 0)) := by rw [eV]; exact heap_alloc_new w _
 have hsz := ccA_size hlen h gs hgH (fun g hg => (hgo g hg).1) (by omega); have HNC := newComp_any (w := V) ht hx p n cp C (ariM h gs) (ariM_le h gs (ariT_le hgH) (fun g hg => ariT_le (hgo g hg).1)) hlen h3 (fun W hW => HCL W (Below.on hV hW)) (fun W hW => greatest_any (W0 := w) h ht hx gs p n cp (Below.on hV hW) hgH.ok hcal hfo hgs hn (fun g hg => ⟨(hgo g hg).1.ok, (hgo g hg).2.2, by have := (hgo g hg).1.sz; omega⟩) (by have := hgH.sz; omega) (by omega) hcp); rw [eV] at HNC
 have HEV : Hid (∀ W, Below w.heap.size w W → Calls Tryz.prog 104 #[fcV ht hx p n cp] W fun e w' => e = .returned (.bool (envB gs)) ∧ Below W.heap.size W w') := fun W hW => hasEnv_any (W0 := w) ht hx gs p n cp hW hgs hn (fun g hg => ⟨(hgo g hg).1.ok, (hgo g hg).2.1⟩) (by omega) hcp hcm
 obtain ⟨pa, hpa, hAR⟩ := argsK hgH.ok (by unfold calC at hcal; simpa using hcal) hfo; have HAR : Hid _ := hAR
 obtain ⟨SA, eSA⟩ : ∃ SA, SA = ccA C 5000 h gs := ⟨_, rfl⟩
 obtain ⟨S1, eS1⟩ : ∃ S1, S1 = alls (hedK C 5000) 0 (cc0 C h gs) (trs h.2) := ⟨_, rfl⟩
 rw [← eSA, ← eS1] at hsz
 have HPU : Hid (golsK C 5000 S1 gs = SA ∧ SA.out.length ≤ 20000000 ∧ SA.nx ≤ 20000000 ∧ S1.out.length ≤ 20000000 ∧ S1.nx ≤ 20000000) := ⟨by rw [eSA, eS1]; rfl, hsz.2.1, hsz.2.2, hsz.1.1, hsz.1.2⟩
 have HRR : Hid (ccK C 5000 h gs = (if envB gs then SA.put (insN 18 0 0) else SA).put (endJ gs)) := by rw [eSA]; rfl
 have HFA : Hid (n = gs.length ∧ GsIn w p gs ∧ (∀ g ∈ gs, TG C.length g ∧ goodG g = true ∧ calC g.1 = true) ∧ TG C.length h ∧ ArK w pa (trs h.2) ∧ S1 = alls (hedK C 5000) 0 (cc0 C h gs) (trs h.2) ∧ C.length ≤ 2000) := ⟨hn, hgs, hgo, hgH, hpa, eS1, hlen⟩
 have HVV : Hid (Below w.heap.size w V ∧ V.heap.size = w.heap.size + 1 ∧ V.heap[w.heap.size]? = some (.cells #[.iface ht hx, .slice p n cp] 59 (0, 0)) ∧ V = w.alloc (.cells #[.iface ht hx, .slice p n cp] 59)) := ⟨hV, hVs, hbV, eV⟩
 have HER : Hid (w.cell? ⟨0, 0, none⟩ = some (efV a2)) := hEr
 obtain ⟨R, eR⟩ : ∃ R, R = ccK C 5000 h gs := ⟨_, rfl⟩
 rw [← eR] at HRR ⊢
 obtain ⟨L0, eL0⟩ : ∃ L0, L0 = (trs h.2).length := ⟨_, rfl⟩
 have HL0 : Hid (L0 = (trs h.2).length) := eL0; rw [← eL0] at HAR; clear hEr hfo hgH hcal hgs hn hgo hlen h3 HCL hV hVs hbV hsz hpa hAR eSA eS1 eR eV eL0
 go_enter Tryz.func26, Tryz.ntmps26
 go_wp2_with fail; refine HNC.mono ?_; rintro e W1 ⟨kb, pb, rb, q, c2, rfl, hb1, hE, hP, hge⟩
 have hb1' : Below V.heap.size V W1 := by rw [HVV.out.2.2.2]; exact hb1
 have HEN : Hid (CEnv W1 kb pb rb q c2 C ∧ CBase w W1 kb pb rb) := ⟨hE, Below.on HVV.out.1 hb1', fun x hx => by
  have h1 := hge x hx; rw [← HVV.out.2.2.2] at h1; have := HVV.out.2.1
  omega⟩
 have HFB : Hid (∀ Z s wr, PK Z W1 kb pb rb q c2 C s wr → wr.cell? ⟨w.heap.size, 0, none⟩ = some (.iface ht hx) ∧ wr.cell? ⟨w.heap.size, 1, none⟩ = some (.slice p n cp)) := fun Z s wr hp => by
  have h1 : W1.heap[w.heap.size]? = some (.cells #[.iface ht hx, .slice p n cp] 59 (0, 0)) := (hb1'.block _ (by have := HVV.out.2.1; omega)).trans HVV.out.2.2.1
  have h2 : wr.heap[w.heap.size]? = some (.cells #[.iface ht hx, .slice p n cp] 59 (0, 0)) := (hp.sty.block _ (Array.getElem?_eq_some_iff.1 h1).1 fun hm => by
   have h3 := hge _ hm; rw [← HVV.out.2.2.2] at h3; have := HVV.out.2.1
   omega).trans h1
  exact ⟨by rw [cell_block h2]; rfl, by rw [cell_block h2]; rfl⟩
 obtain ⟨z0, z1⟩ := HFB.out [] _ W1 hP; have HE1 := HEV.out W1 HEN.out.2.low
 obtain ⟨S00, eS00⟩ : ∃ S00 : KS, S00 = ⟨[], List.replicate C.length none, ariM h gs⟩ := ⟨_, rfl⟩
 rw [← eS00] at hP; have HP1 : Hid (PK [] W1 kb pb rb q c2 C S00 W1) := hP
 have HS0 : Hid (cc0 C h gs = if envB gs then S00.put (insN 17 0 (prmN C)) else S00) := by
  rw [eS00]; unfold cc0; show _ = _; split <;> rfl
 have hS0l : S00.out.length ≤ 1 := by rw [eS00]; simp
 obtain ⟨fb, efb⟩ : ∃ fb, fb = w.heap.size := ⟨_, rfl⟩
 have HFBE : Hid (fb = w.heap.size) := efb; rw [← efb] at HFB z0 z1 ⊢; clear HNC hb1 hb1' hE hP hge HVV eS00 efb; go_wp2_with fail; refine HE1.mono ?_; rintro e W2 ⟨rfl, hb2⟩; have HP2 : Hid (PK [] W1 kb pb rb q c2 C S00 W2) := HP1.out.below hb2; clear HE1 HP1 hb2 z0 z1
 obtain ⟨env, eenv⟩ : ∃ env, env = envB gs := ⟨_, rfl⟩
 rw [← eenv] at HEV HRR HS0 ⊢; clear eenv
 cases env with
 | true =>
   have HEM : Hid (Calls Tryz.prog 105 #[ptrK kb, .slice (some ⟨W2.drew.heap.size, 0, none⟩) 1 1] (W2.drew.alloc (.cells #[.int .i64 17, .int .i64 0, .int .i64 (prmN C), .int .i64 0, .int .i64 0, .slice none 0 0, .slice none 0 0, .slice none 0 0] 72)) fun e w' => (∃ x, e = .returned (.int .i64 x)) ∧ (w'.cell? ⟨kb, 2, none⟩ = some (.map (some pb)) ∧ NumMap w' pb (prmL C)) ∧ PK [] W1 kb pb rb q c2 C (cc0 C h gs) w') := by
    have hd : Below W2.heap.size W2 W2.drew := below_drewK (Below.refl _ _); have h1 := emN_any HEN.out.1 HP2.out 17 0 (prmN C) (by omega) hd; refine h1.mono ?_; rintro e w' ⟨a1, a2, a3⟩; have hs := HS0.out; rw [if_pos rfl] at hs; rw [hs]; exact ⟨a1, ⟨a2.c2, a2.pm⟩, a2⟩
   obtain ⟨pn, epn⟩ : ∃ pn, pn = prmN C := ⟨_, rfl⟩
   rw [← epn] at HEM
   have HPN : Hid ((prmL C).length = pn) := by rw [epn]; exact prmL_len C
   obtain ⟨WD, eWD⟩ : ∃ WD, WD = W2.drew := ⟨_, rfl⟩
   have hS0 : WD.cell? ⟨kb, 2, none⟩ = some (.map (some pb)) ∧ NumMap WD pb (prmL C) := by
    have hd : Below W2.heap.size W2 W2.drew := below_drewK (Below.refl _ _); rw [eWD]; exact ⟨(HP2.out.below hd).c2, (HP2.out.below hd).pm⟩
   have hSa : (WD.alloc (.cells #[.int .i64 17, .int .i64 0, .int .i64 pn, .int .i64 0, .int .i64 0, .slice none 0 0, .slice none 0 0, .slice none 0 0] 72)).cell? ⟨kb, 2, none⟩ = some (.map (some pb)) ∧ NumMap (WD.alloc (.cells #[.int .i64 17, .int .i64 0, .int .i64 pn, .int .i64 0, .int .i64 0, .slice none 0 0, .slice none 0 0, .slice none 0 0] 72)) pb (prmL C) :=
    ⟨((new_lowK WD _).cell (World.block_lt_of_cell? _ _ hS0.1)).trans hS0.1, hS0.2.of_block ((new_lowK WD _).block pb hS0.2.lt)⟩
   have HWD : Hid (WD = W2.drew) := eWD; rw [← eWD] at HEM
   have hS00 : W2.drew.cell? ⟨kb, 2, none⟩ = some (.map (some pb)) ∧ NumMap W2.drew pb (prmL C) := by rw [← eWD]; exact hS0
   clear HP2 HS0 epn eWD hS0l; go_wp2_with fail; refine wp_region_held_drew (S := fun W => W.cell? ⟨kb, 2, none⟩ = some (.map (some pb)) ∧ NumMap W pb (prmL C)) (by kernel_rfl) hS00 (fun hHeld => ?_)
   change wpAnyH _ _ _ _ _ _ _ _ W2.drew
   rw [← HWD.out]; clear hHeld HWD hS00; refine hTk (i := 0) (v := ptrK kb) (some 12) (fun o ho W hSw => ?y0) (by assumption) ?_
   case y0 => cases ho; simp [execOp, go_sem, Act.eval]
   simp only [Act.put, zzA, zzB, zzC]; refine hTk (i := 1) (v := ptrK kb) (some 13) (fun o ho W hSw => ?y1) (by assumption) ?_
   case y1 => cases ho; simp [execOp, go_sem, Act.eval]
   simp only [Act.put, zzA, zzB, zzC]; refine hTk (i := 2) (v := ptrK kb) (some 14) (fun o ho W hSw => ?y2) (by assumption) ?_
   case y2 => cases ho; simp [execOp, go_sem, Act.eval]
   simp only [Act.put, zzA, zzB, zzC]; refine hTk (i := 3) (v := ptrK kb) (some 15) (fun o ho W hSw => ?y3) (by assumption) ?_
   case y3 => cases ho; simp [execOp, go_sem, Act.eval]
   simp only [Act.put, zzA, zzB, zzC]; refine hTk (i := 4) (v := ptrK kb) (some 16) (fun o ho W hSw => ?y4) (by assumption) ?_
   case y4 => cases ho; simp [execOp, go_sem, Act.eval]
   simp only [Act.put, zzA, zzB, zzC]; refine hTk (i := 5) (v := .pointer (some ⟨kb, 2, none⟩)) (some 17) (fun o ho W hSw => ?y5) (by assumption) ?_
   case y5 => cases ho; simp [execOp, go_sem, Act.eval]
   simp only [Act.put, zzA, zzB, zzC]; refine hTk (i := 6) (v := .map (some pb)) (some 18) (fun o ho W hSw => ?y6) (by assumption) ?_
   case y6 => cases ho; simp [execOp, go_sem, Act.eval, hSw.1]
   simp only [Act.put, zzA, zzB, zzC]; refine hTk (i := 7) (v := .int .i64 pn) (some 19) (fun o ho W hSw => ?y7) (by assumption) ?_
   case y7 =>
    cases ho
    obtain ⟨D, hown, hsz, _⟩ := hSw.2; have hl := hown.len (t := 112) (e := 94) Tryz.underlying112 3; rw [hsz, HPN.out] at hl
    simp [execOp, go_sem, Act.eval, resolve, invoke, builtin, hl, Result.andThen]
   simp only [Act.put, zzA, zzB, zzC]; refine hTk (i := 8) (v := .agg #[.int .i64 17, .int .i64 0, .int .i64 pn, .int .i64 0, .int .i64 0, .slice none 0 0, .slice none 0 0, .slice none 0 0]) (some 20) (fun o ho W hSw => ?y8) (by assumption) ?_
   case y8 => cases ho; simp [execOp, go_sem, Act.eval]
   simp only [Act.put, zzA, zzB, zzC]; refine hStep (i := 9) (v := .slice (some ⟨WD.heap.size, 0, none⟩) 1 1) (w' := WD.alloc (.cells #[.int .i64 17, .int .i64 0, .int .i64 pn, .int .i64 0, .int .i64 0, .slice none 0 0, .slice none 0 0, .slice none 0 0] 72)) (some 21) (by kernel_rfl) (by kernel_rfl) (by kernel_rfl) (fun o ho => ?y9) hSa ?_
   case y9 => cases ho; simp [execOp, go_sem, Act.eval]
   simp only [Act.put, zzA, zzB, zzC]; refine hCallE (i := 10) (f := 105) (args := #[ptrK kb, .slice (some ⟨WD.heap.size, 0, none⟩) 1 1]) (some 22) (by kernel_rfl) (by kernel_rfl) (by kernel_rfl) (fun o ho => ?c10) HEM.out ?k10 (fun ch w' hh => by obtain ⟨⟨_, h⟩, _⟩ := hh; cases h) (fun w' hh => by obtain ⟨⟨_, h⟩, _⟩ := hh; cases h)
   case c10 => cases ho; simp [execOp, go_sem, Act.eval]
   case k10 =>
    rintro u W3 ⟨⟨y, eq⟩, hk3, hp3⟩
    cases eq
    refine ⟨hk3, ?_⟩; have HP3 : Hid _ := hp3; clear hp3 HEM hk3 hSa HPN hS0; simp only [Act.put, zzA, zzB, zzC]; refine wpAnyH_done (by kernel_rfl) ?_ _
    change Exit.then _ _ _ _ W3
    obtain ⟨z0, z1⟩ := HFB.out [] _ W3 HP3.out; have HA3 := HAR.out W3 (HP3.out.base HEN.out.2)
    have HH3 : Hid (Calls Tryz.prog 106 #[ptrK kb, .slice pa L0 L0] W3 fun e W4 => e = .returned (.tuple #[]) ∧ PK [] W1 kb pb rb q c2 C S1 W4) := by
     have h1 := head_any HEN.out.1 HEN.out.2 HP3.out h pa HFA.out.2.2.2.2.1 HFA.out.2.2.2.1 5000 (Nat.le_refl _) (by rw [← HFA.out.2.2.2.2.2.1]; have := HPU.out; omega); rw [← HFA.out.2.2.2.2.2.1, ← HL0.out] at h1
     exact h1.mono fun e W4 ⟨a1, a2, a3⟩ => ⟨a1, a2⟩
    go_wp2_with fail; refine HA3.mono ?_; rintro e W4 ⟨rfl, hW4⟩; rw [hW4]; clear HA3 hW4 HAR; go_wp2_with fail; refine HH3.out.mono ?_; rintro e W4 ⟨rfl, hp4⟩
    have HP5 : Hid (PK [W4.heap.size] W1 kb pb rb q c2 C S1 (W4.alloc (.cells #[.int .i64 21, .int .i64 0, .int .i64 0, .int .i64 0, .int .i64 0, .slice none 0 0, .slice none 0 0, .slice none 0 0] 72)) ∧ EB [W4.heap.size] W1 W4.heap.size (W4.alloc (.cells #[.int .i64 21, .int .i64 0, .int .i64 0, .int .i64 0, .int .i64 0, .slice none 0 0, .slice none 0 0, .slice none 0 0] 72)) (insN 21 0 0) none 0 0) :=
     ⟨hp4.fresh (Nat.le_refl _) (new_lowK W4 _) (by simp), heap_alloc_new W4 _, ⟨rfl, rfl⟩, ⟨rfl, fun h => by omega⟩, fun h => by omega, List.mem_cons_self .., hp4.sty.size⟩
    obtain ⟨_, y1⟩ := HFB.out _ _ _ HP5.out.1; clear HH3 HP3 hp4 z0 z1 HL0; go_wp2_with fail
    obtain ⟨eb, eeb⟩ : ∃ eb, eb = W4.heap.size := ⟨_, rfl⟩
    rw [← eeb] at HP5 ⊢; have HEB : Hid (eb = W4.heap.size) := eeb; clear eeb
    go_loopw [32] (fun iv wr => ∃ (j : Nat) (s2 : KS) (Z : List Nat) (ie : Iv) (tp : Option Addr) (tn tc : Nat), j ≤ n ∧ iv = .int .i64 j ∧ Hid (PK Z W1 kb pb rb q c2 C s2 wr ∧ EB Z W1 eb wr ie tp tn tc ∧ ie = (if j = n then endJ gs else insN 21 0 0) ∧ (j < n → tn = 0 ∧ tp = none ∧ tc = 0) ∧ golsK C 5000 s2 (gs.drop j) = SA)) (fun iv _ => n - (intOf iv).toNat)
    case atStart =>
     refine ⟨0, S1, [eb], insN 21 0 0, none, 0, 0, Nat.zero_le _, by go_num, HP5.out.1, HP5.out.2, ?_, fun _ => ⟨rfl, rfl, rfl⟩, by rw [List.drop_zero]; exact HPU.out.1⟩
     by_cases h0 : 0 = n
     ·rw [if_pos h0]
      have h1 := HFA.out.1; have h2 : gs = [] := List.eq_nil_of_length_eq_zero (by omega); rw [h2]; rfl
     ·rw [if_neg h0]
    case round =>
     obtain ⟨j, s2, Z, ie, tp, tn, tc, hjn, rfl, HI⟩ := hrel; clear HP5 y1 HEB
     by_cases hj : j < n
     ·obtain ⟨x, ex⟩ : ∃ x, gs[j]? = some x := ⟨_, List.getElem?_eq_getElem (by have := HFA.out.1; omega)⟩
      obtain ⟨hgx, hgd, hcal⟩ := HFA.out.2.2.1 x (List.mem_of_getElem? ex); obtain ⟨g, ty, y, ep, D0, D1, hfx⟩ := HFA.out.2.1 j x ex; subst ep; have hbs := HI.out.1.base HEN.out.2; have d0 := (hbs.cell (World.block_lt_of_cell? _ _ D0)).trans D0; have d1 := (hbs.cell (World.block_lt_of_cell? _ _ D1)).trans D1
      obtain ⟨l, el⟩ : ∃ l, l = (gs.drop (j + 1)).isEmpty := ⟨_, rfl⟩
      have hll : l = true ↔ j + 1 = n := by
       rw [el, List.isEmpty_iff, List.drop_eq_nil_iff]; have := HFA.out.1; omega
      obtain ⟨s3, es3⟩ : ∃ s3, s3 = gol1 C 5000 s2 x l := ⟨_, rfl⟩
      have hgk : golsK C 5000 s3 (gs.drop (j + 1)) = SA := by
       have h1 := HI.out.2.2.2.2; obtain ⟨hl1, e1⟩ := List.getElem?_eq_some_iff.1 ex; rw [List.drop_eq_getElem_cons hl1, e1] at h1; rw [es3, el]; exact h1
      have hmo := mo_golsK C HFA.out.2.2.2.2.2.2 5000 (gs.drop (j + 1)) s3; rw [hgk] at hmo; have hb9 := HPU.out
      unfold Kmo at hmo
      obtain ⟨sA, kA, hargs, hlast, hcarry⟩ := goal_parts HEN.out.1 HEN.out.2 x ty y hfx hgx hgd l s2 (by rw [← es3]; omega); rw [← es3] at kA hlast hcarry; obtain ⟨e21, e22⟩ := HI.out.2.2; rw [if_neg (by omega)] at e21
      have hie : ie = insN 21 0 0 ∧ tn = 0 ∧ tp = none ∧ tc = 0 := ⟨e21, e22.1 hj⟩
      obtain ⟨rfl, rfl, rfl, rfl⟩ := hie
      have h19 : (giO x.1 = 19) ↔ inlG x = false := by
       have h1 := giO_call hgx.ok hgd
       cases hb : inlG x with
       | true => rw [hb] at h1; simp at h1; simp [h1]
       | false => rw [hb] at h1; simp at h1; simp [h1]
      obtain ⟨gi, egi⟩ : ∃ gi, gi = giO x.1 := ⟨_, rfl⟩
      rw [← egi] at d1 hargs hlast hcarry h19
      -- the box of the goal
      obtain ⟨U, eU⟩ : ∃ U, U = wr.alloc (.cells #[.iface ty y, .int .i64 gi] 118) := ⟨_, rfl⟩
      have hU : Below wr.heap.size wr U := by rw [eU]; exact new_lowK wr _
      have hbU : U.heap[wr.heap.size]? = some (.cells #[.iface ty y, .int .i64 gi] 118 (0, 0)) := by rw [eU]; exact heap_alloc_new wr _
      have hXl : ∀ z ∈ [kb, pb, rb], z < W1.heap.size := HI.out.1.lt
      have hXw : wr.heap.size ∉ [kb, pb, rb] := fun hm => by have := HI.out.1.lt _ hm; have := HI.out.1.sty.size; omega
      obtain ⟨gb, egb⟩ : ∃ gb, gb = wr.heap.size := ⟨_, rfl⟩
      have HGB : Hid (gb = wr.heap.size) := egb
      have HAG : Hid (Calls Tryz.prog 107 #[ptrK kb, fgV ty y gi] (wr.alloc (.cells #[.iface ty y, .int .i64 gi] 118)) fun e W6 => e = .returned (.tuple #[]) ∧ W6.heap[gb]? = some (.cells #[.iface ty y, .int .i64 gi] 118 (0, 0)) ∧ PK Z W1 kb pb rb q c2 C sA W6 ∧ EB Z W1 eb W6 (insN 21 0 0) none 0 0) := by
       rw [egb, ← eU]; refine (hargs Z U (HI.out.1.below hU)).mono ?_; rintro e W6 ⟨a1, a2, a3⟩; exact ⟨a1, FrP.box a3 hbU (by decide) hXw, a2, (HI.out.2.1.below hU).fr a3 hXl⟩
      have HIS : Hid (∀ W6 : World, W6.heap[gb]? = some (.cells #[.iface ty y, .int .i64 gi] 118 (0, 0)) → (W6.cell? ⟨gb, 0, none⟩ = some (.iface ty y) ∧ W6.cell? ⟨gb, 1, none⟩ = some (.int .i64 gi)) ∧ Calls Tryz.prog 108 #[fgV ty y gi] W6 fun e W7 => e = .returned (.bool (gi == 19)) ∧ Below W6.heap.size W6 W7) := fun W6 h6 => ⟨⟨by rw [cell_block h6]; rfl, by rw [cell_block h6]; rfl⟩, isCall_any ty y gi W6⟩
      by_cases hcl : gi = 19 ∧ l = true
      ·-- the last call
       obtain ⟨hgi, hl1⟩ := hcl; have HJL : Hid (j + 1 = n) := hll.1 hl1
       have hje : n ≤ j + 1 := by have := HJL.out; omega
       have esA : s3 = sA := hlast hgi hl1; have hnx : namC x.1 = x.1 := namC_eq hgx.ok hcal
       have hej : endJ gs = insC 20 0 0 x.1 := by
        rw [endJ_last gs x (by have h9 := HFA.out.1; have h8 := HJL.out; rw [show gs.length - 1 = j by omega]; exact ex), h19.1 hgi, if_neg (by decide), hnx]
       have HFC : Hid (∀ W7, PK Z W1 kb pb rb q c2 C sA W7 → EB Z W1 eb W7 (insN 21 0 0) none 0 0 → Calls Tryz.prog 109 #[.iface ty y] W7 fun e W8 => ∃ tp tc, e = .returned (.agg #[.int .i64 x.1.1, .int .i64 x.1.2.1, .slice tp x.1.2.2.length tc]) ∧
         ((W8.cell? ⟨eb, 0, none⟩ = some (.int .i64 21) ∧ W8.cell? ⟨eb, 1, none⟩ = some (.int .i64 0) ∧ W8.cell? ⟨eb, 2, none⟩ = some (.int .i64 0) ∧ W8.cell? ⟨eb, 3, none⟩ = some (.int .i64 0) ∧ W8.cell? ⟨eb, 4, none⟩ = some (.int .i64 0) ∧ W8.cell? ⟨eb, 5, none⟩ = some (.slice none 0 0) ∧ W8.cell? ⟨eb, 6, none⟩ = some (.slice none 0 0) ∧ W8.cell? ⟨eb, 7, none⟩ = some (.slice none 0 0)) ∧ (∀ k, W8.frozen? ⟨eb, k, none⟩ = false) ∧ eb < W8.heap.size) ∧
         ∃ Z', PK Z' W1 kb pb rb q c2 C s3 (set8 W8 eb (.int .i64 20) (.int .i64 0) (.int .i64 0) (.int .i64 x.1.1) (.int .i64 x.1.2.1) (.slice tp x.1.2.2.length tc) (.slice none 0 0) (.slice none 0 0)) ∧ EB Z' W1 eb (set8 W8 eb (.int .i64 20) (.int .i64 0) (.int .i64 0) (.int .i64 x.1.1) (.int .i64 x.1.2.1) (.slice tp x.1.2.2.length tc) (.slice none 0 0) (.slice none 0 0)) (endJ gs) tp x.1.2.2.length tc) := fun W7 hp7 he7 => by
        refine (firstCell_any x (.iface ty y) W7 hgx.ok (hfx.below (hp7.base HEN.out.2))).mono ?_; rintro e W8 ⟨tp, tc, rfl, hT, hb8⟩; have he8 := he7.below hb8; have hbx : W8.heap[eb]? = some (.cells #[.int .i64 21, .int .i64 0, .int .i64 0, .int .i64 0, .int .i64 0, .slice none 0 0, .slice none 0 0, .slice none 0 0] 72 (0, 0)) := he8.bx; have hlt := (Array.getElem?_eq_some_iff.1 hbx).1; have heb7 := (Array.getElem?_eq_some_iff.1 he7.bx).1; refine ⟨tp, tc, rfl, ⟨⟨by rw [cell_block hbx]; rfl, by rw [cell_block hbx]; rfl, by rw [cell_block hbx]; rfl, by rw [cell_block hbx]; rfl, by rw [cell_block hbx]; rfl, by rw [cell_block hbx]; rfl, by rw [cell_block hbx]; rfl, by rw [cell_block hbx]; rfl⟩, fun k => frozen_block hbx k, hlt⟩, ?_⟩
        have hto : OwnT (set8 W8 eb (.int .i64 20) (.int .i64 0) (.int .i64 0) (.int .i64 x.1.1) (.int .i64 x.1.2.1) (.slice tp x.1.2.2.length tc) (.slice none 0 0) (.slice none 0 0)) W1.heap.size tp x.1.2.2.length tc x.1.2.2 := (hT.mono hp7.sty.size).other (by rw [set8_size]; exact Nat.le_refl _) fun g0 h0 e0 => set8_oth (by
         obtain ⟨g', e', hB', _⟩ := hT.2 h0
         rw [e0] at e'; cases e'
         omega) _ _ _ _ _ _ _ _
        rw [esA, hej]
        rcases Nat.eq_zero_or_pos x.1.2.2.length with h0 | h0
        ·exact ⟨Z, (hp7.below hb8).set8 he8.m he8.ge _ _ _ _ _ _ _ _, set8_blk hbx _ _ _ _ _ _ _ _, ⟨rfl, rfl⟩, hto, fun h9 => by omega, he8.m, he8.ge⟩
        ·obtain ⟨tb, etb, hB', hlt', _⟩ := hT.2 h0
         exact ⟨tb :: Z, (hp7.fresh hB' hb8 hlt').set8 (List.mem_cons_of_mem _ he8.m) he8.ge _ _ _ _ _ _ _ _, set8_blk hbx _ _ _ _ _ _ _ _, ⟨rfl, rfl⟩, hto, fun _ => ⟨tb, List.mem_cons_self .., etb⟩, List.mem_cons_of_mem _ he8.m, he8.ge⟩
       have HGK : Hid (golsK C 5000 s3 (gs.drop (j + 1)) = SA) := hgk
       obtain ⟨x1, ex1⟩ : ∃ x1, x1 = x.1.1 := ⟨_, rfl⟩
       obtain ⟨x2, ex2⟩ : ∃ x2, x2 = x.1.2.1 := ⟨_, rfl⟩
       obtain ⟨ml, eml⟩ : ∃ ml, ml = x.1.2.2.length := ⟨_, rfl⟩
       rw [← ex1, ← ex2, ← eml] at HFC; subst hgi; clear hgx hgd hcal hfx D0 D1 hbs hll es3 hgk hmo hb9 kA hargs hlast hcarry h19 egi eU hU hbU hXl hXw egb esA hnx hej el HI ex ex1 ex2 eml hl1 e21 e22; go_wp2_with fail; refine HAG.out.mono ?_; rintro e W6 ⟨rfl, hk6, hp6, he6⟩; rw [← HGB.out]; obtain ⟨⟨u0, u1⟩, hic⟩ := HIS.out W6 hk6; have HP6 : Hid _ := And.intro hp6 (And.intro he6 hk6); clear HAG d0 d1 hp6 he6 hk6 HIS HGB; go_wp2_with fail; refine hic.mono ?_; rintro e W7 ⟨rfl, hb7⟩; have hp7 := HP6.out.1.below hb7; have hf7 := HFC.out W7 hp7 (HP6.out.2.1.below hb7)
       have v0 : W7.cell? ⟨gb, 0, none⟩ = some (.iface ty y) := by
        have h7 := (hb7.block gb (Array.getElem?_eq_some_iff.1 HP6.out.2.2).1).trans HP6.out.2.2; rw [cell_block h7]; rfl
       obtain ⟨_, v1⟩ := HFB.out _ _ W7 hp7; have HF7 : Hid (Calls _ _ _ _ _) := hf7; clear hic hb7 hp7 hf7 HFC HP6 u0 u1; go_wp2_with fail; refine HF7.out.mono ?_; rintro e W8 ⟨tp, tc, rfl, ⟨⟨c0, c1, c2', c3, c4, c5, c6, c7⟩, cf, clt⟩, Z', hp9, he9⟩; have HP9 : Hid _ := hp9; have HE9 : Hid _ := he9; clear HF7 hp9 he9 v0 v1; go_wp2_with fail; go_roundw
       case rel => exact ⟨j + 1, s3, Z', endJ gs, tp, ml, tc, by omega, by go_num, HP9.out, HE9.out, by rw [if_pos HJL.out], fun h9 => by omega, HGK.out⟩
       case measure => (simp [intOf] <;> omega)
      ·have HCA : Hid (∀ W7, PK Z W1 kb pb rb q c2 C sA W7 → EB Z W1 eb W7 (insN 21 0 0) none 0 0 → Calls Tryz.prog 110 #[ptrK kb, fgV ty y gi] W7 fun e W8 => e = .returned (.tuple #[]) ∧ PK Z W1 kb pb rb q c2 C s3 W8 ∧ EB Z W1 eb W8 (insN 21 0 0) none 0 0) := fun W7 hp7 he7 => by
        refine (hcarry hcl Z W7 hp7).mono ?_; rintro e W8 ⟨a1, a2, a3⟩; exact ⟨a1, a2, he7.fr a3 hXl⟩
       have HGK : Hid (golsK C 5000 s3 (gs.drop (j + 1)) = SA ∧ insN 21 0 0 = (if j + 1 = n then endJ gs else insN 21 0 0)) := by
        refine ⟨hgk, ?_⟩
        split
        ·rename_i hjl
         have hni : inlG x = true := by
          cases hb : inlG x with
          | true => rfl
          | false => exact absurd ⟨h19.2 hb, hll.2 hjl⟩ hcl
         rw [endJ_last gs x (by have := HFA.out.1; rw [show gs.length - 1 = j by omega]; exact ex), hni, if_pos rfl]
        ·rfl
       have hcs : (gi == 19) = false ∨ ((gi == 19) = true ∧ ¬ (j : Int) = (n : Int) - 1) := by
        by_cases hg9 : gi = 19
        ·refine .inr ⟨by simpa using hg9, fun e9 => hcl ⟨hg9, hll.2 (by omega)⟩⟩
        ·exact .inl (by simpa using hg9)
       clear hgx hgd hcal hfx D0 D1 hbs hll es3 hgk hmo hb9 kA hargs hlast hcarry h19 egi eU hU hbU hXl hXw egb el HI ex hcl e21 e22
       rcases hcs with hb9 | ⟨hb9, hne⟩
       ·rw [hb9] at HIS
        clear hb9; go_wp2_with fail; refine HAG.out.mono ?_; rintro e W6 ⟨rfl, hk6, hp6, he6⟩; rw [← HGB.out]; obtain ⟨⟨u0, u1⟩, hic⟩ := HIS.out W6 hk6; have HP6 : Hid _ := And.intro hp6 (And.intro he6 hk6); clear HAG d0 d1 hp6 he6 hk6 HGB; go_wp2_with fail; refine hic.mono ?_; rintro e W7 ⟨rfl, hb7⟩; have hf7 := HCA.out W7 (HP6.out.1.below hb7) (HP6.out.2.1.below hb7); have h7 := (hb7.block gb (Array.getElem?_eq_some_iff.1 HP6.out.2.2).1).trans HP6.out.2.2; obtain ⟨⟨v0, v1⟩, _⟩ := HIS.out W7 h7; have HF7 : Hid (Calls _ _ _ _ _) := hf7; clear hic hb7 hf7 HCA HP6 u0 u1 h7 HIS; go_wp2_with fail; refine HF7.out.mono ?_; rintro e W8 ⟨rfl, hp9⟩; have HP9 : Hid _ := hp9; clear HF7 hp9 v0 v1; go_wp2_with fail; go_roundw
        case rel => exact ⟨j + 1, s3, Z, insN 21 0 0, none, 0, 0, by omega, by go_num, HP9.out.1, HP9.out.2, HGK.out.2, fun _ => ⟨rfl, rfl, rfl⟩, HGK.out.1⟩
        case measure => (simp [intOf] <;> omega)
       ·rw [hb9] at HIS
        clear hb9; go_wp2_with fail; refine HAG.out.mono ?_; rintro e W6 ⟨rfl, hk6, hp6, he6⟩; rw [← HGB.out]; obtain ⟨⟨u0, u1⟩, hic⟩ := HIS.out W6 hk6; have HP6 : Hid _ := And.intro hp6 (And.intro he6 hk6); clear HAG d0 d1 hp6 he6 hk6 HGB; go_wp2_with fail; refine hic.mono ?_; rintro e W7 ⟨rfl, hb7⟩; have hp7 := HP6.out.1.below hb7; have hf7 := HCA.out W7 hp7 (HP6.out.2.1.below hb7); have h7 := (hb7.block gb (Array.getElem?_eq_some_iff.1 HP6.out.2.2).1).trans HP6.out.2.2; obtain ⟨⟨v0, v1⟩, _⟩ := HIS.out W7 h7; obtain ⟨_, v2⟩ := HFB.out _ _ W7 hp7; have HF7 : Hid (Calls _ _ _ _ _) := hf7; clear hic hb7 hf7 HCA HP6 u0 u1 h7 HIS hp7; go_wp2_with fail; refine HF7.out.mono ?_; rintro e W8 ⟨rfl, hp9⟩; have HP9 : Hid _ := hp9; clear HF7 hp9 v0 v1 v2; go_wp2_with fail; go_roundw
        case rel => exact ⟨j + 1, s3, Z, insN 21 0 0, none, 0, 0, by omega, by go_num, HP9.out.1, HP9.out.2, HGK.out.2, fun _ => ⟨rfl, rfl, rfl⟩, HGK.out.1⟩
        case measure => (simp [intOf] <;> omega)
     ·obtain rfl : j = n := by omega
      obtain ⟨hpF, heF, eie, _, hgF⟩ := HI.out; rw [if_pos rfl] at eie; rw [List.drop_of_length_le (by have := HFA.out.1; omega)] at hgF; have esF : s2 = SA := hgF; subst esF eie; obtain ⟨z0, z1⟩ := HFB.out _ _ wr hpF; have HE9 := HEV.out wr (hpF.base HEN.out.2)
      have HPF : Hid (PK Z W1 kb pb rb q c2 C s2 wr ∧ EB Z W1 eb wr (endJ gs) tp tn tc) := ⟨hpF, heF⟩
      have hs2 : s2.out.length ≤ 20000000 ∧ s2.nx ≤ 20000000 := ⟨HPU.out.2.1, HPU.out.2.2.1⟩
      have hxl : ∀ z ∈ [kb, pb, rb], z < W1.heap.size := hpF.lt; have HXL : Hid _ := hxl; clear HI hpF heF hgF HPU hxl; go_wp2_with fail; refine HE9.mono ?_; rintro e V1 ⟨rfl, hbV1⟩
      have HPV : Hid (PK Z W1 kb pb rb q c2 C s2 V1 ∧ EB Z W1 eb V1 (endJ gs) tp tn tc) := ⟨HPF.out.1.below hbV1, HPF.out.2.below hbV1⟩
      clear HE9 hbV1 HPF z0 z1
      obtain ⟨sD, esD⟩ : ∃ sD, sD = s2.put (insN 18 0 0) := ⟨_, rfl⟩
      have HED : Hid (Calls Tryz.prog 105 #[ptrK kb, .slice (some ⟨V1.heap.size, 0, none⟩) 1 1] (V1.alloc (.cells #[.int .i64 18, .int .i64 0, .int .i64 0, .int .i64 0, .int .i64 0, .slice none 0 0, .slice none 0 0, .slice none 0 0] 72)) fun e V2 => (∃ x, e = .returned (.int .i64 x)) ∧ PK Z W1 kb pb rb q c2 C sD V2 ∧ EB Z W1 eb V2 (endJ gs) tp tn tc) := by
       have h1 := emN_any HEN.out.1 HPV.out.1 18 0 0 (by omega) (Below.refl _ _); rw [← esD] at h1; refine h1.mono ?_; rintro e V2 ⟨a1, a2, a3⟩; exact ⟨a1, a2, HPV.out.2.fr a3 HXL.out⟩
      have hsD : sD.out.length ≤ 20000001 ∧ sD.nx ≤ 20000000 := by rw [esD]; simp only [KS.put, List.length_append, List.length_cons, List.length_nil]; omega
      have HRD : Hid (R = sD.put (endJ gs)) := by have h1 := HRR.out; rw [if_pos (by decide), ← esD] at h1; exact h1
      clear esD HPV hs2 HRR; go_wp2_with fail; refine HED.out.mono ?_; rintro e V2 ⟨⟨y9, rfl⟩, hp2⟩; have HPD : Hid _ := hp2; clear HED hp2
      obtain ⟨ie, eie⟩ : ∃ ie, ie = endJ gs := ⟨_, rfl⟩
      rw [← eie] at HPD HRD
      obtain ⟨i1, i2, i3, i4, i5, ehd⟩ : ∃ i1 i2 i3 i4 i5, hdI ie = (i1, i2, i3, i4, i5) := ⟨_, _, _, _, _, rfl⟩
      have HBX : Hid (∀ W : World, W.heap[eb]? = some (.cells #[.int .i64 i1, .int .i64 i2, .int .i64 i3, .int .i64 i4, .int .i64 i5, .slice tp tn tc, .slice none 0 0, .slice none 0 0] 72 (0, 0)) → W.cell? ⟨eb, 0, none⟩ = some (.int .i64 i1) ∧ W.cell? ⟨eb, 1, none⟩ = some (.int .i64 i2) ∧ W.cell? ⟨eb, 2, none⟩ = some (.int .i64 i3) ∧ W.cell? ⟨eb, 3, none⟩ = some (.int .i64 i4) ∧ W.cell? ⟨eb, 4, none⟩ = some (.int .i64 i5) ∧ W.cell? ⟨eb, 5, none⟩ = some (.slice tp tn tc) ∧ W.cell? ⟨eb, 6, none⟩ = some (.slice none 0 0) ∧ W.cell? ⟨eb, 7, none⟩ = some (.slice none 0 0)) := fun W hW => ⟨by rw [cell_block hW]; rfl, by rw [cell_block hW]; rfl, by rw [cell_block hW]; rfl, by rw [cell_block hW]; rfl, by rw [cell_block hW]; rfl, by rw [cell_block hW]; rfl, by rw [cell_block hW]; rfl, by rw [cell_block hW]; rfl⟩
      have hriv : (riV (hdI ie, tp, tn, tc)).toArray = #[.int .i64 i1, .int .i64 i2, .int .i64 i3, .int .i64 i4, .int .i64 i5, .slice tp tn tc, .slice none 0 0, .slice none 0 0] := by rw [ehd]; rfl
      obtain ⟨WD, eWD⟩ : ∃ WD, WD = V2.drew := ⟨_, rfl⟩
      have hd : Below V2.heap.size V2 WD := by rw [eWD]; exact below_drewK (Below.refl _ _)
      have hbD : WD.heap[eb]? = some (.cells #[.int .i64 i1, .int .i64 i2, .int .i64 i3, .int .i64 i4, .int .i64 i5, .slice tp tn tc, .slice none 0 0, .slice none 0 0] 72 (0, 0)) := by
       have h1 := (HPD.out.2.below hd).bx; rw [hriv] at h1; exact h1
      obtain ⟨WE, eWE⟩ : ∃ WE, WE = WD.alloc (.cells #[.int .i64 i1, .int .i64 i2, .int .i64 i3, .int .i64 i4, .int .i64 i5, .slice tp tn tc, .slice none 0 0, .slice none 0 0] 72) := ⟨_, rfl⟩
      have hE : Below WD.heap.size WD WE := by rw [eWE]; exact new_lowK WD _
      have hbE : WE.heap[eb]? = some (.cells #[.int .i64 i1, .int .i64 i2, .int .i64 i3, .int .i64 i4, .int .i64 i5, .slice tp tn tc, .slice none 0 0, .slice none 0 0] 72 (0, 0)) := (hE.block eb (Array.getElem?_eq_some_iff.1 hbD).1).trans hbD
      have HEM : Hid (Calls Tryz.prog 105 #[ptrK kb, .slice (some ⟨WD.heap.size, 0, none⟩) 1 1] WE fun e w' => (∃ x, e = .returned (.int .i64 x)) ∧ PK [] W1 kb pb rb q c2 C R w') := by
       have hpE := HPD.out.1.below (Below.on hd hE); have heE := HPD.out.2.below (Below.on hd hE)
       have h1 := emitE_any HEN.out.1 hpE ie tp tn tc WD.heap.size heE.k heE.t heE.z (by
        have h2 : WE.heap[WD.heap.size]? = some (.cells (riV (hdI ie, tp, tn, tc)).toArray 72) := by rw [eWE, hriv]; exact heap_alloc_new WD _
        exact World.news_of_block h2) (by omega)
       rw [← HRD.out] at h1
       exact h1.mono fun e w' ⟨a1, a2, a3⟩ => ⟨a1, a2⟩
      have hRb : R.out.length ≤ 30000000 ∧ R.nx ≤ 20000000 := by rw [HRD.out]; simp only [KS.put, List.length_append, List.length_cons, List.length_nil]; omega
      have HWD : Hid (WD = V2.drew) := eWD; have HWE : Hid (WE = WD.alloc (.cells #[.int .i64 i1, .int .i64 i2, .int .i64 i3, .int .i64 i4, .int .i64 i5, .slice tp tn tc, .slice none 0 0, .slice none 0 0] 72)) := eWE
      have hbV : V2.drew.heap[eb]? = some (.cells #[.int .i64 i1, .int .i64 i2, .int .i64 i3, .int .i64 i4, .int .i64 i5, .slice tp tn tc, .slice none 0 0, .slice none 0 0] 72 (0, 0)) := by rw [← eWD]; exact hbD
      clear eie ehd hriv eWD hd eWE hE HPD HRD hsD; go_wp2_with fail; refine wp_region_held_drew (S := fun _ => True) (by kernel_rfl) trivial (fun hHeld => ?_)
      change wpAnyH _ _ _ _ _ _ _ _ V2.drew
      rw [← HWD.out]; have hT0 : True := trivial; clear HWD hbV hHeld; refine hTk (i := 0) (v := ptrK kb) (some 66) (fun o ho W hSw => ?y11) (by assumption) ?_
      case y11 => cases ho; simp [execOp, go_sem, Act.eval]
      simp only [Act.put, zzA, zzB, zzC]; refine hTk (i := 1) (v := ptrK kb) (some 67) (fun o ho W hSw => ?y12) (by assumption) ?_
      case y12 => cases ho; simp [execOp, go_sem, Act.eval]
      simp only [Act.put, zzA, zzB, zzC]; refine hTk (i := 2) (v := ptrK kb) (some 68) (fun o ho W hSw => ?y13) (by assumption) ?_
      case y13 => cases ho; simp [execOp, go_sem, Act.eval]
      simp only [Act.put, zzA, zzB, zzC]; refine hStep (i := 3) (v := .agg #[.int .i64 i1, .int .i64 i2, .int .i64 i3, .int .i64 i4, .int .i64 i5, .slice tp tn tc, .slice none 0 0, .slice none 0 0]) (w' := WD) (some 69) (by kernel_rfl) (by kernel_rfl) (by kernel_rfl) (fun o ho => ?y14) trivial ?_
      case y14 => cases ho; obtain ⟨t0, t1, t2, t3, t4, t5, t6, t7⟩ := HBX.out WD hbD; simp [execOp, go_sem, Act.eval, t0, t1, t2, t3, t4, t5, t6, t7]
      simp only [Act.put, zzA, zzB, zzC]; refine hStep (i := 4) (v := .slice (some ⟨WD.heap.size, 0, none⟩) 1 1) (w' := WD.alloc (.cells #[.int .i64 i1, .int .i64 i2, .int .i64 i3, .int .i64 i4, .int .i64 i5, .slice tp tn tc, .slice none 0 0, .slice none 0 0] 72)) (some 70) (by kernel_rfl) (by kernel_rfl) (by kernel_rfl) (fun o ho => ?y15) trivial ?_
      case y15 => cases ho; simp [execOp, go_sem, Act.eval]
      simp only [Act.put, zzA, zzB, zzC]; rw [← HWE.out]; clear HWE hbE hbD HBX; refine hCallE (i := 5) (f := 105) (args := #[ptrK kb, .slice (some ⟨WD.heap.size, 0, none⟩) 1 1]) (some 71) (by kernel_rfl) (by kernel_rfl) (by kernel_rfl) (fun o ho => ?c16) HEM.out ?k16 (fun ch w' hh => by obtain ⟨⟨_, h⟩, _⟩ := hh; cases h) (fun w' hh => by obtain ⟨⟨_, h⟩, _⟩ := hh; cases h)
      case c16 => cases ho; simp [execOp, go_sem, Act.eval]
      case k16 =>
       rintro u X1 ⟨⟨y8, eq⟩, hpX⟩
       cases eq
       refine ⟨trivial, ?_⟩; have HPX : Hid _ := hpX; have HIF := isFull_any hpX (by omega); have c4 := hpX.c4; obtain ⟨qi, mi, ci, c0, hoi⟩ := hpX.c0; have HOI : Hid (OwnIv [] X1 W1.heap.size qi mi ci R.out) := hoi; have hbX := hpX.base HEN.out.2; have ge := (hbX.cell (World.block_lt_of_cell? _ _ HER.out)).trans HER.out; have hbx0 := hbX; have HBW : Hid _ := hbX; have HW1 : Hid (w.heap.size ≤ W1.heap.size) := HEN.out.2.low.size; clear hpX HEM hoi hbX hbx0; simp only [Act.put, zzA, zzB, zzC]; refine wpAnyH_done (by kernel_rfl) ?_ _
       change Exit.then _ _ _ _ X1
       have hRn : 0 ≤ (R.nx : Int) ∧ (R.nx : Int) ≤ 20000000 := by omega
       obtain ⟨b1, eb1⟩ : ∃ b1, b1 = decide (20000 < R.out.length) := ⟨_, rfl⟩
       obtain ⟨xn, exn⟩ : ∃ xn : Int, xn = (R.nx : Int) := ⟨_, rfl⟩
       rw [← eb1] at HIF; rw [← exn] at c4 hRn
       have HB1 : Hid (b1 = decide (20000 < R.out.length) ∧ xn = (R.nx : Int)) := ⟨eb1, exn⟩
       clear eb1 exn HPX
       by_cases hbig : b1 = true ∨ 256 < xn
       ·have HOUT : Hid (CpOut R a2 w (.returned (.tuple #[.slice none 0 0, efV a2])) X1.drew) := by
         have hd : Below X1.heap.size X1 X1.drew := below_drewK (Below.refl _ _); refine ⟨Below.on HBW.out hd, .inl ⟨?_, rfl⟩⟩; rw [← HB1.out.1]
         rcases hbig with h9 | h9
         ·rw [h9]; rfl
         ·rw [Bool.or_eq_true]
          exact .inr (decide_eq_true (by have := HB1.out.2; omega))
        clear HB1 c0 HOI HBW
        have h2c : b1 = true ∨ (b1 = false ∧ 256 < xn) := by
         cases hb : b1 with
         | true => exact .inl rfl
         | false =>
           rcases hbig with h9 | h9
           ·rw [hb] at h9; cases h9
           ·exact .inr ⟨rfl, h9⟩
        clear hbig
        rcases h2c with rfl | ⟨rfl, hx⟩
        all_goals
         go_wp2_with fail; refine HIF.mono ?_; rintro e X2 ⟨rfl, hX2⟩; rw [hX2]; clear hX2 HIF; go_wp2_with fail; refine wp_region_held_drew (S := fun W => W.cell? ⟨0, 0, none⟩ = some (efV a2)) (by kernel_rfl) ge (fun hHeld => ?_)
         change wpAnyH _ _ _ _ _ _ _ _ X1.drew
         have hSg : X1.drew.cell? ⟨0, 0, none⟩ = some (efV a2) := ge; clear hHeld; refine hTk (i := 0) (v := efV a2) (some 83) (fun o ho W hSw => ?y17) (by assumption) ?_
         case y17 => cases ho; simp [execOp, go_sem, Act.eval, hSw]
         simp only [Act.put, zzA, zzB, zzC]; refine hTk (i := 1) (v := .slice none 0 0) (some 2) (fun o ho W hSw => ?y18) (by assumption) ?_
         case y18 => cases ho; simp [execOp, go_sem, Act.eval]
         simp only [Act.put, zzA, zzB, zzC]; refine hTk (i := 2) (v := efV a2) (some 3) (fun o ho W hSw => ?y19) (by assumption) ?_
         case y19 => cases ho; simp [execOp, go_sem, Act.eval]
         simp only [Act.put, zzA, zzB, zzC]; refine wpAnyH_done (by kernel_rfl) ?_ _
         change Exit.then _ _ _ _ X1.drew
         go_wp2_with fail
         go_ret2
         exact HOUT.out
       ·have HOUT : Hid (CpOut R a2 w (.returned (.tuple #[.slice qi mi ci, .nilIface])) X1) := by
         refine ⟨HBW.out, .inr ⟨?_, qi, mi, ci, rfl, OwnIv.mono HOI.out HW1.out⟩⟩; rw [← HB1.out.1, Bool.or_eq_false_iff]; refine ⟨?_, decide_eq_false fun h9 => hbig (.inr (by have := HB1.out.2; omega))⟩
         cases hb : b1 with
         | true => exact absurd (.inl hb) hbig
         | false => rfl
        have hx : ¬ 256 < xn := fun h9 => hbig (.inr h9)
        have hb0 : b1 = false := by
         cases hb : b1 with
         | true => exact absurd (.inl hb) hbig
         | false => rfl
        subst hb0; clear HB1 HOI HBW hbig ge; go_wp2_with fail; refine HIF.mono ?_; rintro e X2 ⟨rfl, hX2⟩; rw [hX2]; clear hX2 HIF; go_wp2_with fail
        go_ret2
        exact HOUT.out
 | false =>
   have HP3 : Hid (PK [] W1 kb pb rb q c2 C (cc0 C h gs) W2) := by
    have hs := HS0.out; rw [if_neg (by decide)] at hs; rw [hs]; exact HP2.out
   obtain ⟨W3, eW3⟩ : ∃ W3, W3 = W2 := ⟨_, rfl⟩
   rw [← eW3] at HP3 ⊢; clear HP2 HS0 hS0l eW3; obtain ⟨z0, z1⟩ := HFB.out [] _ W3 HP3.out; have HA3 := HAR.out W3 (HP3.out.base HEN.out.2)
   have HH3 : Hid (Calls Tryz.prog 106 #[ptrK kb, .slice pa L0 L0] W3 fun e W4 => e = .returned (.tuple #[]) ∧ PK [] W1 kb pb rb q c2 C S1 W4) := by
    have h1 := head_any HEN.out.1 HEN.out.2 HP3.out h pa HFA.out.2.2.2.2.1 HFA.out.2.2.2.1 5000 (Nat.le_refl _) (by rw [← HFA.out.2.2.2.2.2.1]; have := HPU.out; omega); rw [← HFA.out.2.2.2.2.2.1, ← HL0.out] at h1
    exact h1.mono fun e W4 ⟨a1, a2, a3⟩ => ⟨a1, a2⟩
   go_wp2_with fail; refine HA3.mono ?_; rintro e W4 ⟨rfl, hW4⟩; rw [hW4]; clear HA3 hW4 HAR; go_wp2_with fail; refine HH3.out.mono ?_; rintro e W4 ⟨rfl, hp4⟩
   have HP5 : Hid (PK [W4.heap.size] W1 kb pb rb q c2 C S1 (W4.alloc (.cells #[.int .i64 21, .int .i64 0, .int .i64 0, .int .i64 0, .int .i64 0, .slice none 0 0, .slice none 0 0, .slice none 0 0] 72)) ∧ EB [W4.heap.size] W1 W4.heap.size (W4.alloc (.cells #[.int .i64 21, .int .i64 0, .int .i64 0, .int .i64 0, .int .i64 0, .slice none 0 0, .slice none 0 0, .slice none 0 0] 72)) (insN 21 0 0) none 0 0) :=
    ⟨hp4.fresh (Nat.le_refl _) (new_lowK W4 _) (by simp), heap_alloc_new W4 _, ⟨rfl, rfl⟩, ⟨rfl, fun h => by omega⟩, fun h => by omega, List.mem_cons_self .., hp4.sty.size⟩
   obtain ⟨_, y1⟩ := HFB.out _ _ _ HP5.out.1; clear HH3 HP3 hp4 z0 z1 HL0; go_wp2_with fail
   obtain ⟨eb, eeb⟩ : ∃ eb, eb = W4.heap.size := ⟨_, rfl⟩
   rw [← eeb] at HP5 ⊢; have HEB : Hid (eb = W4.heap.size) := eeb; clear eeb
   go_loopw [32] (fun iv wr => ∃ (j : Nat) (s2 : KS) (Z : List Nat) (ie : Iv) (tp : Option Addr) (tn tc : Nat), j ≤ n ∧ iv = .int .i64 j ∧ Hid (PK Z W1 kb pb rb q c2 C s2 wr ∧ EB Z W1 eb wr ie tp tn tc ∧ ie = (if j = n then endJ gs else insN 21 0 0) ∧ (j < n → tn = 0 ∧ tp = none ∧ tc = 0) ∧ golsK C 5000 s2 (gs.drop j) = SA)) (fun iv _ => n - (intOf iv).toNat)
   case atStart =>
    refine ⟨0, S1, [eb], insN 21 0 0, none, 0, 0, Nat.zero_le _, by go_num, HP5.out.1, HP5.out.2, ?_, fun _ => ⟨rfl, rfl, rfl⟩, by rw [List.drop_zero]; exact HPU.out.1⟩
    by_cases h0 : 0 = n
    ·rw [if_pos h0]
     have h1 := HFA.out.1; have h2 : gs = [] := List.eq_nil_of_length_eq_zero (by omega); rw [h2]; rfl
    ·rw [if_neg h0]
   case round =>
    obtain ⟨j, s2, Z, ie, tp, tn, tc, hjn, rfl, HI⟩ := hrel; clear HP5 y1 HEB
    by_cases hj : j < n
    ·obtain ⟨x, ex⟩ : ∃ x, gs[j]? = some x := ⟨_, List.getElem?_eq_getElem (by have := HFA.out.1; omega)⟩
     obtain ⟨hgx, hgd, hcal⟩ := HFA.out.2.2.1 x (List.mem_of_getElem? ex); obtain ⟨g, ty, y, ep, D0, D1, hfx⟩ := HFA.out.2.1 j x ex; subst ep; have hbs := HI.out.1.base HEN.out.2; have d0 := (hbs.cell (World.block_lt_of_cell? _ _ D0)).trans D0; have d1 := (hbs.cell (World.block_lt_of_cell? _ _ D1)).trans D1
     obtain ⟨l, el⟩ : ∃ l, l = (gs.drop (j + 1)).isEmpty := ⟨_, rfl⟩
     have hll : l = true ↔ j + 1 = n := by
      rw [el, List.isEmpty_iff, List.drop_eq_nil_iff]; have := HFA.out.1; omega
     obtain ⟨s3, es3⟩ : ∃ s3, s3 = gol1 C 5000 s2 x l := ⟨_, rfl⟩
     have hgk : golsK C 5000 s3 (gs.drop (j + 1)) = SA := by
      have h1 := HI.out.2.2.2.2; obtain ⟨hl1, e1⟩ := List.getElem?_eq_some_iff.1 ex; rw [List.drop_eq_getElem_cons hl1, e1] at h1; rw [es3, el]; exact h1
     have hmo := mo_golsK C HFA.out.2.2.2.2.2.2 5000 (gs.drop (j + 1)) s3; rw [hgk] at hmo; have hb9 := HPU.out
     unfold Kmo at hmo
     obtain ⟨sA, kA, hargs, hlast, hcarry⟩ := goal_parts HEN.out.1 HEN.out.2 x ty y hfx hgx hgd l s2 (by rw [← es3]; omega); rw [← es3] at kA hlast hcarry; obtain ⟨e21, e22⟩ := HI.out.2.2; rw [if_neg (by omega)] at e21
     have hie : ie = insN 21 0 0 ∧ tn = 0 ∧ tp = none ∧ tc = 0 := ⟨e21, e22.1 hj⟩
     obtain ⟨rfl, rfl, rfl, rfl⟩ := hie
     have h19 : (giO x.1 = 19) ↔ inlG x = false := by
      have h1 := giO_call hgx.ok hgd
      cases hb : inlG x with
      | true => rw [hb] at h1; simp at h1; simp [h1]
      | false => rw [hb] at h1; simp at h1; simp [h1]
     obtain ⟨gi, egi⟩ : ∃ gi, gi = giO x.1 := ⟨_, rfl⟩
     rw [← egi] at d1 hargs hlast hcarry h19
     -- the box of the goal
     obtain ⟨U, eU⟩ : ∃ U, U = wr.alloc (.cells #[.iface ty y, .int .i64 gi] 118) := ⟨_, rfl⟩
     have hU : Below wr.heap.size wr U := by rw [eU]; exact new_lowK wr _
     have hbU : U.heap[wr.heap.size]? = some (.cells #[.iface ty y, .int .i64 gi] 118 (0, 0)) := by rw [eU]; exact heap_alloc_new wr _
     have hXl : ∀ z ∈ [kb, pb, rb], z < W1.heap.size := HI.out.1.lt
     have hXw : wr.heap.size ∉ [kb, pb, rb] := fun hm => by have := HI.out.1.lt _ hm; have := HI.out.1.sty.size; omega
     obtain ⟨gb, egb⟩ : ∃ gb, gb = wr.heap.size := ⟨_, rfl⟩
     have HGB : Hid (gb = wr.heap.size) := egb
     have HAG : Hid (Calls Tryz.prog 107 #[ptrK kb, fgV ty y gi] (wr.alloc (.cells #[.iface ty y, .int .i64 gi] 118)) fun e W6 => e = .returned (.tuple #[]) ∧ W6.heap[gb]? = some (.cells #[.iface ty y, .int .i64 gi] 118 (0, 0)) ∧ PK Z W1 kb pb rb q c2 C sA W6 ∧ EB Z W1 eb W6 (insN 21 0 0) none 0 0) := by
      rw [egb, ← eU]; refine (hargs Z U (HI.out.1.below hU)).mono ?_; rintro e W6 ⟨a1, a2, a3⟩; exact ⟨a1, FrP.box a3 hbU (by decide) hXw, a2, (HI.out.2.1.below hU).fr a3 hXl⟩
     have HIS : Hid (∀ W6 : World, W6.heap[gb]? = some (.cells #[.iface ty y, .int .i64 gi] 118 (0, 0)) → (W6.cell? ⟨gb, 0, none⟩ = some (.iface ty y) ∧ W6.cell? ⟨gb, 1, none⟩ = some (.int .i64 gi)) ∧ Calls Tryz.prog 108 #[fgV ty y gi] W6 fun e W7 => e = .returned (.bool (gi == 19)) ∧ Below W6.heap.size W6 W7) := fun W6 h6 => ⟨⟨by rw [cell_block h6]; rfl, by rw [cell_block h6]; rfl⟩, isCall_any ty y gi W6⟩
     by_cases hcl : gi = 19 ∧ l = true
     ·-- the last call
      obtain ⟨hgi, hl1⟩ := hcl; have HJL : Hid (j + 1 = n) := hll.1 hl1
      have hje : n ≤ j + 1 := by have := HJL.out; omega
      have esA : s3 = sA := hlast hgi hl1; have hnx : namC x.1 = x.1 := namC_eq hgx.ok hcal
      have hej : endJ gs = insC 20 0 0 x.1 := by
       rw [endJ_last gs x (by have h9 := HFA.out.1; have h8 := HJL.out; rw [show gs.length - 1 = j by omega]; exact ex), h19.1 hgi, if_neg (by decide), hnx]
      have HFC : Hid (∀ W7, PK Z W1 kb pb rb q c2 C sA W7 → EB Z W1 eb W7 (insN 21 0 0) none 0 0 → Calls Tryz.prog 109 #[.iface ty y] W7 fun e W8 => ∃ tp tc, e = .returned (.agg #[.int .i64 x.1.1, .int .i64 x.1.2.1, .slice tp x.1.2.2.length tc]) ∧
        ((W8.cell? ⟨eb, 0, none⟩ = some (.int .i64 21) ∧ W8.cell? ⟨eb, 1, none⟩ = some (.int .i64 0) ∧ W8.cell? ⟨eb, 2, none⟩ = some (.int .i64 0) ∧ W8.cell? ⟨eb, 3, none⟩ = some (.int .i64 0) ∧ W8.cell? ⟨eb, 4, none⟩ = some (.int .i64 0) ∧ W8.cell? ⟨eb, 5, none⟩ = some (.slice none 0 0) ∧ W8.cell? ⟨eb, 6, none⟩ = some (.slice none 0 0) ∧ W8.cell? ⟨eb, 7, none⟩ = some (.slice none 0 0)) ∧ (∀ k, W8.frozen? ⟨eb, k, none⟩ = false) ∧ eb < W8.heap.size) ∧
        ∃ Z', PK Z' W1 kb pb rb q c2 C s3 (set8 W8 eb (.int .i64 20) (.int .i64 0) (.int .i64 0) (.int .i64 x.1.1) (.int .i64 x.1.2.1) (.slice tp x.1.2.2.length tc) (.slice none 0 0) (.slice none 0 0)) ∧ EB Z' W1 eb (set8 W8 eb (.int .i64 20) (.int .i64 0) (.int .i64 0) (.int .i64 x.1.1) (.int .i64 x.1.2.1) (.slice tp x.1.2.2.length tc) (.slice none 0 0) (.slice none 0 0)) (endJ gs) tp x.1.2.2.length tc) := fun W7 hp7 he7 => by
       refine (firstCell_any x (.iface ty y) W7 hgx.ok (hfx.below (hp7.base HEN.out.2))).mono ?_; rintro e W8 ⟨tp, tc, rfl, hT, hb8⟩; have he8 := he7.below hb8; have hbx : W8.heap[eb]? = some (.cells #[.int .i64 21, .int .i64 0, .int .i64 0, .int .i64 0, .int .i64 0, .slice none 0 0, .slice none 0 0, .slice none 0 0] 72 (0, 0)) := he8.bx; have hlt := (Array.getElem?_eq_some_iff.1 hbx).1; have heb7 := (Array.getElem?_eq_some_iff.1 he7.bx).1; refine ⟨tp, tc, rfl, ⟨⟨by rw [cell_block hbx]; rfl, by rw [cell_block hbx]; rfl, by rw [cell_block hbx]; rfl, by rw [cell_block hbx]; rfl, by rw [cell_block hbx]; rfl, by rw [cell_block hbx]; rfl, by rw [cell_block hbx]; rfl, by rw [cell_block hbx]; rfl⟩, fun k => frozen_block hbx k, hlt⟩, ?_⟩
       have hto : OwnT (set8 W8 eb (.int .i64 20) (.int .i64 0) (.int .i64 0) (.int .i64 x.1.1) (.int .i64 x.1.2.1) (.slice tp x.1.2.2.length tc) (.slice none 0 0) (.slice none 0 0)) W1.heap.size tp x.1.2.2.length tc x.1.2.2 := (hT.mono hp7.sty.size).other (by rw [set8_size]; exact Nat.le_refl _) fun g0 h0 e0 => set8_oth (by
        obtain ⟨g', e', hB', _⟩ := hT.2 h0
        rw [e0] at e'; cases e'
        omega) _ _ _ _ _ _ _ _
       rw [esA, hej]
       rcases Nat.eq_zero_or_pos x.1.2.2.length with h0 | h0
       ·exact ⟨Z, (hp7.below hb8).set8 he8.m he8.ge _ _ _ _ _ _ _ _, set8_blk hbx _ _ _ _ _ _ _ _, ⟨rfl, rfl⟩, hto, fun h9 => by omega, he8.m, he8.ge⟩
       ·obtain ⟨tb, etb, hB', hlt', _⟩ := hT.2 h0
        exact ⟨tb :: Z, (hp7.fresh hB' hb8 hlt').set8 (List.mem_cons_of_mem _ he8.m) he8.ge _ _ _ _ _ _ _ _, set8_blk hbx _ _ _ _ _ _ _ _, ⟨rfl, rfl⟩, hto, fun _ => ⟨tb, List.mem_cons_self .., etb⟩, List.mem_cons_of_mem _ he8.m, he8.ge⟩
      have HGK : Hid (golsK C 5000 s3 (gs.drop (j + 1)) = SA) := hgk
      obtain ⟨x1, ex1⟩ : ∃ x1, x1 = x.1.1 := ⟨_, rfl⟩
      obtain ⟨x2, ex2⟩ : ∃ x2, x2 = x.1.2.1 := ⟨_, rfl⟩
      obtain ⟨ml, eml⟩ : ∃ ml, ml = x.1.2.2.length := ⟨_, rfl⟩
      rw [← ex1, ← ex2, ← eml] at HFC; subst hgi; clear hgx hgd hcal hfx D0 D1 hbs hll es3 hgk hmo hb9 kA hargs hlast hcarry h19 egi eU hU hbU hXl hXw egb esA hnx hej el HI ex ex1 ex2 eml hl1 e21 e22; go_wp2_with fail; refine HAG.out.mono ?_; rintro e W6 ⟨rfl, hk6, hp6, he6⟩; rw [← HGB.out]; obtain ⟨⟨u0, u1⟩, hic⟩ := HIS.out W6 hk6; have HP6 : Hid _ := And.intro hp6 (And.intro he6 hk6); clear HAG d0 d1 hp6 he6 hk6 HIS HGB; go_wp2_with fail; refine hic.mono ?_; rintro e W7 ⟨rfl, hb7⟩; have hp7 := HP6.out.1.below hb7; have hf7 := HFC.out W7 hp7 (HP6.out.2.1.below hb7)
      have v0 : W7.cell? ⟨gb, 0, none⟩ = some (.iface ty y) := by
       have h7 := (hb7.block gb (Array.getElem?_eq_some_iff.1 HP6.out.2.2).1).trans HP6.out.2.2; rw [cell_block h7]; rfl
      obtain ⟨_, v1⟩ := HFB.out _ _ W7 hp7; have HF7 : Hid (Calls _ _ _ _ _) := hf7; clear hic hb7 hp7 hf7 HFC HP6 u0 u1; go_wp2_with fail; refine HF7.out.mono ?_; rintro e W8 ⟨tp, tc, rfl, ⟨⟨c0, c1, c2', c3, c4, c5, c6, c7⟩, cf, clt⟩, Z', hp9, he9⟩; have HP9 : Hid _ := hp9; have HE9 : Hid _ := he9; clear HF7 hp9 he9 v0 v1; go_wp2_with fail; go_roundw
      case rel => exact ⟨j + 1, s3, Z', endJ gs, tp, ml, tc, by omega, by go_num, HP9.out, HE9.out, by rw [if_pos HJL.out], fun h9 => by omega, HGK.out⟩
      case measure => (simp [intOf] <;> omega)
     ·have HCA : Hid (∀ W7, PK Z W1 kb pb rb q c2 C sA W7 → EB Z W1 eb W7 (insN 21 0 0) none 0 0 → Calls Tryz.prog 110 #[ptrK kb, fgV ty y gi] W7 fun e W8 => e = .returned (.tuple #[]) ∧ PK Z W1 kb pb rb q c2 C s3 W8 ∧ EB Z W1 eb W8 (insN 21 0 0) none 0 0) := fun W7 hp7 he7 => by
       refine (hcarry hcl Z W7 hp7).mono ?_; rintro e W8 ⟨a1, a2, a3⟩; exact ⟨a1, a2, he7.fr a3 hXl⟩
      have HGK : Hid (golsK C 5000 s3 (gs.drop (j + 1)) = SA ∧ insN 21 0 0 = (if j + 1 = n then endJ gs else insN 21 0 0)) := by
       refine ⟨hgk, ?_⟩
       split
       ·rename_i hjl
        have hni : inlG x = true := by
         cases hb : inlG x with
         | true => rfl
         | false => exact absurd ⟨h19.2 hb, hll.2 hjl⟩ hcl
        rw [endJ_last gs x (by have := HFA.out.1; rw [show gs.length - 1 = j by omega]; exact ex), hni, if_pos rfl]
       ·rfl
      have hcs : (gi == 19) = false ∨ ((gi == 19) = true ∧ ¬ (j : Int) = (n : Int) - 1) := by
       by_cases hg9 : gi = 19
       ·refine .inr ⟨by simpa using hg9, fun e9 => hcl ⟨hg9, hll.2 (by omega)⟩⟩
       ·exact .inl (by simpa using hg9)
      clear hgx hgd hcal hfx D0 D1 hbs hll es3 hgk hmo hb9 kA hargs hlast hcarry h19 egi eU hU hbU hXl hXw egb el HI ex hcl e21 e22
      rcases hcs with hb9 | ⟨hb9, hne⟩
      ·rw [hb9] at HIS
       clear hb9; go_wp2_with fail; refine HAG.out.mono ?_; rintro e W6 ⟨rfl, hk6, hp6, he6⟩; rw [← HGB.out]; obtain ⟨⟨u0, u1⟩, hic⟩ := HIS.out W6 hk6; have HP6 : Hid _ := And.intro hp6 (And.intro he6 hk6); clear HAG d0 d1 hp6 he6 hk6 HGB; go_wp2_with fail; refine hic.mono ?_; rintro e W7 ⟨rfl, hb7⟩; have hf7 := HCA.out W7 (HP6.out.1.below hb7) (HP6.out.2.1.below hb7); have h7 := (hb7.block gb (Array.getElem?_eq_some_iff.1 HP6.out.2.2).1).trans HP6.out.2.2; obtain ⟨⟨v0, v1⟩, _⟩ := HIS.out W7 h7; have HF7 : Hid (Calls _ _ _ _ _) := hf7; clear hic hb7 hf7 HCA HP6 u0 u1 h7 HIS; go_wp2_with fail; refine HF7.out.mono ?_; rintro e W8 ⟨rfl, hp9⟩; have HP9 : Hid _ := hp9; clear HF7 hp9 v0 v1; go_wp2_with fail; go_roundw
       case rel => exact ⟨j + 1, s3, Z, insN 21 0 0, none, 0, 0, by omega, by go_num, HP9.out.1, HP9.out.2, HGK.out.2, fun _ => ⟨rfl, rfl, rfl⟩, HGK.out.1⟩
       case measure => (simp [intOf] <;> omega)
      ·rw [hb9] at HIS
       clear hb9; go_wp2_with fail; refine HAG.out.mono ?_; rintro e W6 ⟨rfl, hk6, hp6, he6⟩; rw [← HGB.out]; obtain ⟨⟨u0, u1⟩, hic⟩ := HIS.out W6 hk6; have HP6 : Hid _ := And.intro hp6 (And.intro he6 hk6); clear HAG d0 d1 hp6 he6 hk6 HGB; go_wp2_with fail; refine hic.mono ?_; rintro e W7 ⟨rfl, hb7⟩; have hp7 := HP6.out.1.below hb7; have hf7 := HCA.out W7 hp7 (HP6.out.2.1.below hb7); have h7 := (hb7.block gb (Array.getElem?_eq_some_iff.1 HP6.out.2.2).1).trans HP6.out.2.2; obtain ⟨⟨v0, v1⟩, _⟩ := HIS.out W7 h7; obtain ⟨_, v2⟩ := HFB.out _ _ W7 hp7; have HF7 : Hid (Calls _ _ _ _ _) := hf7; clear hic hb7 hf7 HCA HP6 u0 u1 h7 HIS hp7; go_wp2_with fail; refine HF7.out.mono ?_; rintro e W8 ⟨rfl, hp9⟩; have HP9 : Hid _ := hp9; clear HF7 hp9 v0 v1 v2; go_wp2_with fail; go_roundw
       case rel => exact ⟨j + 1, s3, Z, insN 21 0 0, none, 0, 0, by omega, by go_num, HP9.out.1, HP9.out.2, HGK.out.2, fun _ => ⟨rfl, rfl, rfl⟩, HGK.out.1⟩
       case measure => (simp [intOf] <;> omega)
    ·obtain rfl : j = n := by omega
     obtain ⟨hpF, heF, eie, _, hgF⟩ := HI.out; rw [if_pos rfl] at eie; rw [List.drop_of_length_le (by have := HFA.out.1; omega)] at hgF; have esF : s2 = SA := hgF; subst esF eie; obtain ⟨z0, z1⟩ := HFB.out _ _ wr hpF; have HE9 := HEV.out wr (hpF.base HEN.out.2)
     have HPF : Hid (PK Z W1 kb pb rb q c2 C s2 wr ∧ EB Z W1 eb wr (endJ gs) tp tn tc) := ⟨hpF, heF⟩
     have hs2 : s2.out.length ≤ 20000000 ∧ s2.nx ≤ 20000000 := ⟨HPU.out.2.1, HPU.out.2.2.1⟩
     have hxl : ∀ z ∈ [kb, pb, rb], z < W1.heap.size := hpF.lt; have HXL : Hid _ := hxl; clear HI hpF heF hgF HPU hxl; go_wp2_with fail; refine HE9.mono ?_; rintro e V1 ⟨rfl, hbV1⟩
     have HPV : Hid (PK Z W1 kb pb rb q c2 C s2 V1 ∧ EB Z W1 eb V1 (endJ gs) tp tn tc) := ⟨HPF.out.1.below hbV1, HPF.out.2.below hbV1⟩
     clear HE9 hbV1 HPF z0 z1
     obtain ⟨V2, eV2⟩ : ∃ V2, V2 = V1 := ⟨_, rfl⟩
     obtain ⟨sD, esD⟩ : ∃ sD, sD = s2 := ⟨_, rfl⟩
     have HPD : Hid (PK Z W1 kb pb rb q c2 C sD V2 ∧ EB Z W1 eb V2 (endJ gs) tp tn tc) := by rw [esD, eV2]; exact HPV.out
     have hsD : sD.out.length ≤ 20000001 ∧ sD.nx ≤ 20000000 := by rw [esD]; omega
     have HRD : Hid (R = sD.put (endJ gs)) := by have h1 := HRR.out; rw [if_neg (by decide)] at h1; rw [esD]; exact h1
     rw [← eV2]; clear esD HPV hs2 HRR eV2
     obtain ⟨ie, eie⟩ : ∃ ie, ie = endJ gs := ⟨_, rfl⟩
     rw [← eie] at HPD HRD
     obtain ⟨i1, i2, i3, i4, i5, ehd⟩ : ∃ i1 i2 i3 i4 i5, hdI ie = (i1, i2, i3, i4, i5) := ⟨_, _, _, _, _, rfl⟩
     have HBX : Hid (∀ W : World, W.heap[eb]? = some (.cells #[.int .i64 i1, .int .i64 i2, .int .i64 i3, .int .i64 i4, .int .i64 i5, .slice tp tn tc, .slice none 0 0, .slice none 0 0] 72 (0, 0)) → W.cell? ⟨eb, 0, none⟩ = some (.int .i64 i1) ∧ W.cell? ⟨eb, 1, none⟩ = some (.int .i64 i2) ∧ W.cell? ⟨eb, 2, none⟩ = some (.int .i64 i3) ∧ W.cell? ⟨eb, 3, none⟩ = some (.int .i64 i4) ∧ W.cell? ⟨eb, 4, none⟩ = some (.int .i64 i5) ∧ W.cell? ⟨eb, 5, none⟩ = some (.slice tp tn tc) ∧ W.cell? ⟨eb, 6, none⟩ = some (.slice none 0 0) ∧ W.cell? ⟨eb, 7, none⟩ = some (.slice none 0 0)) := fun W hW => ⟨by rw [cell_block hW]; rfl, by rw [cell_block hW]; rfl, by rw [cell_block hW]; rfl, by rw [cell_block hW]; rfl, by rw [cell_block hW]; rfl, by rw [cell_block hW]; rfl, by rw [cell_block hW]; rfl, by rw [cell_block hW]; rfl⟩
     have hriv : (riV (hdI ie, tp, tn, tc)).toArray = #[.int .i64 i1, .int .i64 i2, .int .i64 i3, .int .i64 i4, .int .i64 i5, .slice tp tn tc, .slice none 0 0, .slice none 0 0] := by rw [ehd]; rfl
     obtain ⟨WD, eWD⟩ : ∃ WD, WD = V2.drew := ⟨_, rfl⟩
     have hd : Below V2.heap.size V2 WD := by rw [eWD]; exact below_drewK (Below.refl _ _)
     have hbD : WD.heap[eb]? = some (.cells #[.int .i64 i1, .int .i64 i2, .int .i64 i3, .int .i64 i4, .int .i64 i5, .slice tp tn tc, .slice none 0 0, .slice none 0 0] 72 (0, 0)) := by
      have h1 := (HPD.out.2.below hd).bx; rw [hriv] at h1; exact h1
     obtain ⟨WE, eWE⟩ : ∃ WE, WE = WD.alloc (.cells #[.int .i64 i1, .int .i64 i2, .int .i64 i3, .int .i64 i4, .int .i64 i5, .slice tp tn tc, .slice none 0 0, .slice none 0 0] 72) := ⟨_, rfl⟩
     have hE : Below WD.heap.size WD WE := by rw [eWE]; exact new_lowK WD _
     have hbE : WE.heap[eb]? = some (.cells #[.int .i64 i1, .int .i64 i2, .int .i64 i3, .int .i64 i4, .int .i64 i5, .slice tp tn tc, .slice none 0 0, .slice none 0 0] 72 (0, 0)) := (hE.block eb (Array.getElem?_eq_some_iff.1 hbD).1).trans hbD
     have HEM : Hid (Calls Tryz.prog 105 #[ptrK kb, .slice (some ⟨WD.heap.size, 0, none⟩) 1 1] WE fun e w' => (∃ x, e = .returned (.int .i64 x)) ∧ PK [] W1 kb pb rb q c2 C R w') := by
      have hpE := HPD.out.1.below (Below.on hd hE); have heE := HPD.out.2.below (Below.on hd hE)
      have h1 := emitE_any HEN.out.1 hpE ie tp tn tc WD.heap.size heE.k heE.t heE.z (by
       have h2 : WE.heap[WD.heap.size]? = some (.cells (riV (hdI ie, tp, tn, tc)).toArray 72) := by rw [eWE, hriv]; exact heap_alloc_new WD _
       exact World.news_of_block h2) (by omega)
      rw [← HRD.out] at h1
      exact h1.mono fun e w' ⟨a1, a2, a3⟩ => ⟨a1, a2⟩
     have hRb : R.out.length ≤ 30000000 ∧ R.nx ≤ 20000000 := by rw [HRD.out]; simp only [KS.put, List.length_append, List.length_cons, List.length_nil]; omega
     have HWD : Hid (WD = V2.drew) := eWD; have HWE : Hid (WE = WD.alloc (.cells #[.int .i64 i1, .int .i64 i2, .int .i64 i3, .int .i64 i4, .int .i64 i5, .slice tp tn tc, .slice none 0 0, .slice none 0 0] 72)) := eWE
     have hbV : V2.drew.heap[eb]? = some (.cells #[.int .i64 i1, .int .i64 i2, .int .i64 i3, .int .i64 i4, .int .i64 i5, .slice tp tn tc, .slice none 0 0, .slice none 0 0] 72 (0, 0)) := by rw [← eWD]; exact hbD
     clear eie ehd hriv eWD hd eWE hE HPD HRD hsD; go_wp2_with fail; refine wp_region_held_drew (S := fun _ => True) (by kernel_rfl) trivial (fun hHeld => ?_)
     change wpAnyH _ _ _ _ _ _ _ _ V2.drew
     rw [← HWD.out]; have hT0 : True := trivial; clear HWD hbV hHeld; refine hTk (i := 0) (v := ptrK kb) (some 66) (fun o ho W hSw => ?y0) (by assumption) ?_
     case y0 => cases ho; simp [execOp, go_sem, Act.eval]
     simp only [Act.put, zzA, zzB, zzC]; refine hTk (i := 1) (v := ptrK kb) (some 67) (fun o ho W hSw => ?y1) (by assumption) ?_
     case y1 => cases ho; simp [execOp, go_sem, Act.eval]
     simp only [Act.put, zzA, zzB, zzC]; refine hTk (i := 2) (v := ptrK kb) (some 68) (fun o ho W hSw => ?y2) (by assumption) ?_
     case y2 => cases ho; simp [execOp, go_sem, Act.eval]
     simp only [Act.put, zzA, zzB, zzC]; refine hStep (i := 3) (v := .agg #[.int .i64 i1, .int .i64 i2, .int .i64 i3, .int .i64 i4, .int .i64 i5, .slice tp tn tc, .slice none 0 0, .slice none 0 0]) (w' := WD) (some 69) (by kernel_rfl) (by kernel_rfl) (by kernel_rfl) (fun o ho => ?y3) trivial ?_
     case y3 => cases ho; obtain ⟨t0, t1, t2, t3, t4, t5, t6, t7⟩ := HBX.out WD hbD; simp [execOp, go_sem, Act.eval, t0, t1, t2, t3, t4, t5, t6, t7]
     simp only [Act.put, zzA, zzB, zzC]; refine hStep (i := 4) (v := .slice (some ⟨WD.heap.size, 0, none⟩) 1 1) (w' := WD.alloc (.cells #[.int .i64 i1, .int .i64 i2, .int .i64 i3, .int .i64 i4, .int .i64 i5, .slice tp tn tc, .slice none 0 0, .slice none 0 0] 72)) (some 70) (by kernel_rfl) (by kernel_rfl) (by kernel_rfl) (fun o ho => ?y4) trivial ?_
     case y4 => cases ho; simp [execOp, go_sem, Act.eval]
     simp only [Act.put, zzA, zzB, zzC]; rw [← HWE.out]; clear HWE hbE hbD HBX; refine hCallE (i := 5) (f := 105) (args := #[ptrK kb, .slice (some ⟨WD.heap.size, 0, none⟩) 1 1]) (some 71) (by kernel_rfl) (by kernel_rfl) (by kernel_rfl) (fun o ho => ?c5) HEM.out ?k5 (fun ch w' hh => by obtain ⟨⟨_, h⟩, _⟩ := hh; cases h) (fun w' hh => by obtain ⟨⟨_, h⟩, _⟩ := hh; cases h)
     case c5 => cases ho; simp [execOp, go_sem, Act.eval]
     case k5 =>
      rintro u X1 ⟨⟨y8, eq⟩, hpX⟩
      cases eq
      refine ⟨trivial, ?_⟩; have HPX : Hid _ := hpX; have HIF := isFull_any hpX (by omega); have c4 := hpX.c4; obtain ⟨qi, mi, ci, c0, hoi⟩ := hpX.c0; have HOI : Hid (OwnIv [] X1 W1.heap.size qi mi ci R.out) := hoi; have hbX := hpX.base HEN.out.2; have ge := (hbX.cell (World.block_lt_of_cell? _ _ HER.out)).trans HER.out; have hbx0 := hbX; have HBW : Hid _ := hbX; have HW1 : Hid (w.heap.size ≤ W1.heap.size) := HEN.out.2.low.size; clear hpX HEM hoi hbX hbx0; simp only [Act.put, zzA, zzB, zzC]; refine wpAnyH_done (by kernel_rfl) ?_ _
      change Exit.then _ _ _ _ X1
      have hRn : 0 ≤ (R.nx : Int) ∧ (R.nx : Int) ≤ 20000000 := by omega
      obtain ⟨b1, eb1⟩ : ∃ b1, b1 = decide (20000 < R.out.length) := ⟨_, rfl⟩
      obtain ⟨xn, exn⟩ : ∃ xn : Int, xn = (R.nx : Int) := ⟨_, rfl⟩
      rw [← eb1] at HIF; rw [← exn] at c4 hRn
      have HB1 : Hid (b1 = decide (20000 < R.out.length) ∧ xn = (R.nx : Int)) := ⟨eb1, exn⟩
      clear eb1 exn HPX
      by_cases hbig : b1 = true ∨ 256 < xn
      ·have HOUT : Hid (CpOut R a2 w (.returned (.tuple #[.slice none 0 0, efV a2])) X1.drew) := by
        have hd : Below X1.heap.size X1 X1.drew := below_drewK (Below.refl _ _); refine ⟨Below.on HBW.out hd, .inl ⟨?_, rfl⟩⟩; rw [← HB1.out.1]
        rcases hbig with h9 | h9
        ·rw [h9]; rfl
        ·rw [Bool.or_eq_true]
         exact .inr (decide_eq_true (by have := HB1.out.2; omega))
       clear HB1 c0 HOI HBW
       have h2c : b1 = true ∨ (b1 = false ∧ 256 < xn) := by
        cases hb : b1 with
        | true => exact .inl rfl
        | false =>
          rcases hbig with h9 | h9
          ·rw [hb] at h9; cases h9
          ·exact .inr ⟨rfl, h9⟩
       clear hbig
       rcases h2c with rfl | ⟨rfl, hx⟩
       all_goals
        go_wp2_with fail; refine HIF.mono ?_; rintro e X2 ⟨rfl, hX2⟩; rw [hX2]; clear hX2 HIF; go_wp2_with fail; refine wp_region_held_drew (S := fun W => W.cell? ⟨0, 0, none⟩ = some (efV a2)) (by kernel_rfl) ge (fun hHeld => ?_)
        change wpAnyH _ _ _ _ _ _ _ _ X1.drew
        have hSg : X1.drew.cell? ⟨0, 0, none⟩ = some (efV a2) := ge; clear hHeld; refine hTk (i := 0) (v := efV a2) (some 83) (fun o ho W hSw => ?y6) (by assumption) ?_
        case y6 => cases ho; simp [execOp, go_sem, Act.eval, hSw]
        simp only [Act.put, zzA, zzB, zzC]; refine hTk (i := 1) (v := .slice none 0 0) (some 2) (fun o ho W hSw => ?y7) (by assumption) ?_
        case y7 => cases ho; simp [execOp, go_sem, Act.eval]
        simp only [Act.put, zzA, zzB, zzC]; refine hTk (i := 2) (v := efV a2) (some 3) (fun o ho W hSw => ?y8) (by assumption) ?_
        case y8 => cases ho; simp [execOp, go_sem, Act.eval]
        simp only [Act.put, zzA, zzB, zzC]; refine wpAnyH_done (by kernel_rfl) ?_ _
        change Exit.then _ _ _ _ X1.drew
        go_wp2_with fail
        go_ret2
        exact HOUT.out
      ·have HOUT : Hid (CpOut R a2 w (.returned (.tuple #[.slice qi mi ci, .nilIface])) X1) := by
        refine ⟨HBW.out, .inr ⟨?_, qi, mi, ci, rfl, OwnIv.mono HOI.out HW1.out⟩⟩; rw [← HB1.out.1, Bool.or_eq_false_iff]; refine ⟨?_, decide_eq_false fun h9 => hbig (.inr (by have := HB1.out.2; omega))⟩
        cases hb : b1 with
        | true => exact absurd (.inl hb) hbig
        | false => rfl
       have hx : ¬ 256 < xn := fun h9 => hbig (.inr h9)
       have hb0 : b1 = false := by
        cases hb : b1 with
        | true => exact absurd (.inl hb) hbig
        | false => rfl
       subst hb0; clear HB1 HOI HBW hbig ge; go_wp2_with fail; refine HIF.mono ?_; rintro e X2 ⟨rfl, hX2⟩; rw [hX2]; clear hX2 HIF; go_wp2_with fail
       go_ret2
       exact HOUT.out
end Go.Proofs.YtickbkcpcgmlmaaGreatDoor
