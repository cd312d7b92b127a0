/- Texts of GmD. Own work of the verifier. -/
import Derived.Test.YtbnmmcegjlmdmaaGreatDoorUqbi
import Derived.Test.YtbnmmcegjlmdmaaGreatDoorUqak
namespace Go.Proofs.YtbnmmcegjlmdmaaGreatDoor
open Go Go.RowKit
set_option linter.unusedVariables false
set_option linter.unusedSimpArgs false
theorem isP_any {W : World} {p : Option Addr} {n c : Nat} {t : Tr} (h : TI W p n c t) (hb : Byte t.1.2.2) (l : List UInt8) (a : Int) (ha : 0 < a) : Calls Tryz.prog 13 #[.slice p n c, .string ⟨l.toArray⟩, .int .i64 a] W fun e w' => e = .returned (.bool (decide (t.1 = (3, a, l.map fun u => (u.toNat : Int))))) ∧ w' = W := by
  have := isT_any h ⟨l.toArray⟩ a
  rw [isB_pos hb l a ha] at this
  exact this
theorem isZ_any {W : World} {p : Option Addr} {n c : Nat} {t : Tr} (h : TI W p n c t) (hb : Byte t.1.2.2) (hc : cellB t.1.1 t.1.2.1 t.1.2.2.length = true) (l : List UInt8) : Calls Tryz.prog 13 #[.slice p n c, .string ⟨l.toArray⟩, .int .i64 0] W fun e w' => e = .returned (.bool (decide (t.1 = (2, 0, l.map fun u => (u.toNat : Int))))) ∧ w' = W := by
  have := isT_any h ⟨l.toArray⟩ 0
  rw [isB_zero hb hc l] at this
  exact this
def Fit (x : Tr) : Prop := okG x.fo ∧ (itC x).length ≤ 12000
theorem Fit.size {x : Tr} (h : Fit x) : (itC x).length + tl (itC x) ≤ 2000000 := by have := tr_size h.1 h.2; omega
theorem itC_pos (x : Tr) : 0 < (itC x).length := by simp [itC]
theorem pair_tk (gb : Nat) (nm : List Int) (hs : Byte nm) (x y : Tr) (hx : Fit x) (hy : Fit y) (pa pb : Option Addr) (la lb ca cb : Nat) (st : GSt) (W : World) (ha : TK W gb pa la ca x) (hb : TK W gb pb lb cb y) (hg : GMm W gb st) :
    Calls Tryz.prog 19 #[.string (strOfNums nm), .slice pa la ca, .slice pb lb cb] W (GOutM W gb (cmpT nm [x, y], st)) := by
  refine (l2pairO_any nm hs pa pb la lb ca cb (itC x) (itC y) W ha.1 hb.1 ha.2.2.2.cin hb.2.2.2.cin (itC_pos x) (itC_pos y) hx.size hy.size).mono ?_
  rintro e w' ⟨q, m, c2, rfl, ho, hb'⟩
  exact ⟨q, m, c2, rfl, ho.tk (World.block_lt_of_cell? _ _ hg.c0) (by rw [cmpT_cells]; simp), hg.below hb', grownM_below gb hb'⟩
theorem one_tk (gb : Nat) (nm : List Int) (hs : Byte nm) (x : Tr) (hx : Fit x) (pa : Option Addr) (la ca : Nat) (st : GSt) (W : World) (ha : TK W gb pa la ca x) (hg : GMm W gb st) :
    Calls Tryz.prog 36 #[.string (strOfNums nm), .slice (some ⟨W.heap.size, 0, none⟩) 1 1] (W.alloc (.cells #[.slice pa la ca] 24)) (GOutM W gb (cmpT nm [x], st)) := by
  refine (l2oneO_any nm hs pa la ca (itC x) W ha.1 ha.2.2.2.cin (itC_pos x) hx.size).mono ?_
  rintro e w' ⟨q, m, c2, rfl, ho, hb'⟩
  exact ⟨q, m, c2, rfl, ho.tk (World.block_lt_of_cell? _ _ hg.c0) (by rw [cmpT_cells]; simp), hg.below hb', grownM_below gb hb'⟩
theorem cell_three (w : World) (u0 u1 u2 : Value) (t : TypeId) : (w.alloc (.cells #[u0, u1, u2] t)).cell? ⟨w.heap.size, 0, none⟩ = some u0 ∧ (w.alloc (.cells #[u0, u1, u2] t)).cell? ⟨w.heap.size, 1, none⟩ = some u1 ∧ (w.alloc (.cells #[u0, u1, u2] t)).cell? ⟨w.heap.size, 2, none⟩ = some u2 := by
  refine ⟨?_, ?_, ?_⟩ <;> simp [World.cell?_alloc_new]
theorem three_tk (gb : Nat) (nm : List Int) (hs : Byte nm) (x y z : Tr) (hx : Fit x) (hy : Fit y) (hz : Fit z) (pa pb pc : Option Addr) (la lb lc ca cb cc : Nat) (st : GSt) (W : World) (hla : la = (itC x).length) (ha : CIn W pa (itC x)) (hb : TK W gb pb lb cb y) (hc : TK W gb pc lc cc z) (hg : GMm W gb st) :
    Calls Tryz.prog 36 #[.string (strOfNums nm), .slice (some ⟨W.heap.size, 0, none⟩) 3 3] (W.alloc (.cells #[.slice pa la ca, .slice pb lb cb, .slice pc lc cc] 24)) (GOutM W gb (cmpT nm [x, y, z], st)) := by
  have hAL : Below W.heap.size W (W.alloc (.cells #[.slice pa la ca, .slice pb lb cb, .slice pc lc cc] 24)) := (Below.refl _ _).alloc (Nat.le_refl _) _
  obtain ⟨e0, e1, e2⟩ := cell_three W (.slice pa la ca) (.slice pb lb cb) (.slice pc lc cc) 24
  have hro : RowsO (W.alloc (.cells #[.slice pa la ca, .slice pb lb cb, .slice pc lc cc] 24)) W.heap.size 0 [itC x, itC y, itC z] := fun j hj => by
    match j, hj with
    | 0, _ => exact ⟨pa, ca, by show _ = some (Value.slice pa (itC x).length ca); rw [← hla]; exact e0, ha.below hAL, itC_pos x, hx.size⟩
    | 1, _ => exact ⟨pb, cb, by show _ = some (Value.slice pb (itC y).length cb); rw [← hb.1]; exact e1, hb.2.2.2.cin.below hAL, itC_pos y, hy.size⟩
    | 2, _ => exact ⟨pc, cc, by show _ = some (Value.slice pc (itC z).length cc); rw [← hc.1]; exact e2, hc.2.2.2.cin.below hAL, itC_pos z, hz.size⟩
    | n + 3, h => exact absurd h (by simp)
  refine (l2compO_any nm hs W.heap.size 0 3 3 [itC x, itC y, itC z] _ rfl (by decide) hro).mono ?_
  rintro e w' ⟨q, m, c2, rfl, ho, hb'⟩
  have hbw := Below.on hAL hb'
  have hlt : gb < W.heap.size := World.block_lt_of_cell? _ _ hg.c0
  exact ⟨q, m, c2, rfl, ho.tk (by simp; omega) (by rw [cmpT_cells]; simp), hg.below hbw, grownM_below gb hbw⟩
theorem args_tk {Wi w1 : World} {gb B : Nat} {q : Option Addr} {m mc : Nat} {rs : List (Option Addr × Nat × Nat)} {t : Tr} (hr : w1.ownsRow B 24 1 (.slice q m mc) m (rs.map slV)) (hm : m = (trs t.2).length) (ha : ArgRowU Wi rs (trs t.2)) (hg : gb < B) (h0 : 0 < m) :
    ∃ g, q = some ⟨g, 0, none⟩ ∧ ∀ i, i < m → ∃ r n c, (∀ W, w1.grownBy W (some gb) → W.cell? ⟨g, i, none⟩ = some (.slice r n c)) ∧ TI Wi r n c (kidG t i) := by
  obtain ⟨g, cap, hv, hB, hl⟩ := hr.form h0
  simp only [Value.slice.injEq] at hv
  refine ⟨g, hv.1, fun i hi => ?_⟩
  have hi2 : i < (trs t.2).length := by omega
  obtain ⟨r, e1, e2, e3, e4, e5⟩ := argU_at ha (List.getElem?_eq_getElem hi2)
  have ek : kidG t i = (trs t.2)[i] := by unfold kidG; simp [List.getD, hi2]
  rw [hv.1] at hr
  have hc := hr.cellAt i (by omega)
  rw [List.getElem?_map, e1] at hc
  refine ⟨r.1, r.2.1, r.2.2, fun W hW => ?_, ?_⟩
  · have hb := hW.block g hl (fun e => by have := Option.some.inj e; omega)
    exact (World.cell?_of_block (w := w1) (a := ⟨g, i, none⟩) hb).trans (by rw [hc]; rfl)
  · rw [ek]
    exact ⟨by rw [e2]; simp [itC], e3, e4, e5⟩
def PhM (gb : Nat) (Wi : World) (f : Nat) : Prop := ∀ (t : Tr) (p : Option Addr) (n c : Nat) (pa pb : Option Addr) (ca cb : Nat) (a b : Int) (st : GSt) (w : World), t.fo.ok → (itC t).length ≤ f → (itC t).length ≤ 2000 → TI Wi p n c t → Below Wi.heap.size Wi w → TK w gb pa 1 ca (vT a) → TK w gb pb 1 cb (vT b) → 0 ≤ a ∧ a ≤ 1100000 → 0 ≤ b ∧ b ≤ 1100000 → 0 ≤ st.1 → st.1 + (itC t).length ≤ 1100000 → GMm w gb st →
  Calls Tryz.prog 18 #[.pointer (some ⟨gb, 0, none⟩), .slice p n c, .slice pa 1 ca, .slice pb 1 cb] w (GOutM w gb (gPh nilT f t a b st))
theorem fit_vT {n : Int} (h : 0 ≤ n ∧ n ≤ 1100000) : Fit (vT n) := ⟨vT_okG h.1 h.2, by simp [vT_cells]⟩
theorem fit_eqV {a b : Int} (ha : 0 ≤ a ∧ a ≤ 1100000) (hb : 0 ≤ b ∧ b ≤ 1100000) : Fit (eqV a b) := ⟨eqV_okG ha hb, by unfold eqV; rw [cmpT_cells]; simp [vT_cells]⟩
theorem fit_of {t : Tr} (ht : t.fo.ok) (hl : (itC t).length ≤ 2000) : Fit t := ⟨okG_of ht, by omega⟩
theorem fit_g {t : Tr} {n : Nat} {st : GSt} {x : Tr × GSt} (h : GOk t n st x) (hn : n ≤ 2000) : Fit x.1 := ⟨h.ok, by have := h.len; omega⟩
theorem GOutM.from {w w1 : World} {gb : Nat} {x : Tr × GSt} {e : Ending} {w' : World} (h : GOutM w1 gb x e w') (hg : w.grownBy w1 (some gb)) : GOutM w gb x e w' := by
  obtain ⟨q, m, c, he, h1, h2, h3⟩ := h
  exact ⟨q, m, c, he, h1, h2, grown_trans hg h3⟩
theorem below_in {Wi w w' : World} {gb : Nat} (hW : Below Wi.heap.size Wi w) (hg : w.grownBy w' (some gb)) (hi : Wi.heap.size ≤ gb) : Below Wi.heap.size Wi w' := hW.grown hg hW.size (fun k hk => by cases hk; exact hi)
set_option maxRecDepth 100000 in
set_option maxHeartbeats 1000000 in
theorem phrase_var (gb : Nat) (Wi : World) (f : Nat) (t : Tr) (p : Option Addr) (n c : Nat) (pa pb : Option Addr) (ca cb : Nat) (a b : Int) (st : GSt) (w : World) (ht : t.fo.ok) (hf : (itC t).length ≤ f + 1) (hl : (itC t).length ≤ 2000) (hti : TI Wi p n c t) (hW : Below Wi.heap.size Wi w) (hgi : Wi.heap.size ≤ gb) (hka : TK w gb pa 1 ca (vT a)) (hkb : TK w gb pb 1 cb (vT b)) (ha : 0 ≤ a ∧ a ≤ 1100000) (hb : 0 ≤ b ∧ b ≤ 1100000) (h0 : 0 ≤ st.1) (h1 : st.1 + (itC t).length ≤ 1100000) (hg : GMm w gb st) (k0 : t.1.1 = 0) :
    Calls Tryz.prog 18 #[.pointer (some ⟨gb, 0, none⟩), .slice p n c, .slice pa 1 ca, .slice pb 1 cb] w (GOutM w gb (gPh nilT (f + 1) t a b st)) := by
  have hnl : n ≤ 2000 := by rw [hti.1]; simp only [itC, List.length_cons] at hl; omega
  have hn0 : 0 < n := by have := hti.1; omega
  have hlt : gb < w.heap.size := World.block_lt_of_cell? _ _ hg.c0
  have EQ : gPh nilT (f + 1) t a b st = (cmpT nPhrase [t, vT a, vT b], st) := by simp only [gPh, if_pos k0]
  rw [EQ]
  have eS : strOfNums nPhrase = ⟨#[112, 104, 114, 97, 115, 101]⟩ := rfl
  have H3 := three_tk gb nPhrase (byte_small (by decide)) t (vT a) (vT b) (fit_of ht hl) (fit_vT ha) (fit_vT hb) p pa pb n 1 1 c ca cb st w (by rw [hti.1]; simp [itC]) (hti.2.2.2.below hW) hka hkb hg
  rw [eS] at H3
  obtain ⟨b0, o0, q1, qc, rfl, d0, d1, d2, d3⟩ := (hti.below hW).head
  rw [k0] at d0
  obtain ⟨P, eP⟩ : ∃ P, P = GOutM w gb (cmpT nPhrase [t, vT a, vT b], st) := ⟨_, rfl⟩
  have HF : Hid (∀ e w', GOutM w gb (cmpT nPhrase [t, vT a, vT b], st) e w' → P e w') := fun e w' h => by rw [eP]; exact h
  rw [← eP]
  clear ht hf hl hti hW hgi hka hkb ha hb h0 h1 hg d1 d2 d3 EQ eP eS hlt
  go_enter Tryz.func18, Tryz.ntmps18
  go_wp2_with fail
  refine H3.mono ?_
  rintro e w1 hh
  have HG : Hid _ := HF.out _ _ hh
  obtain ⟨q2, m2, c2, rfl, _⟩ := hh
  clear H3 HF
  go_wp2_with fail
  exact HG.out
set_option maxRecDepth 100000 in
set_option maxHeartbeats 1000000 in
theorem phrase_num (gb : Nat) (Wi : World) (f : Nat) (t : Tr) (p : Option Addr) (n c : Nat) (pa pb : Option Addr) (ca cb : Nat) (a b : Int) (st : GSt) (w : World) (ht : t.fo.ok) (hf : (itC t).length ≤ f + 1) (hl : (itC t).length ≤ 2000) (hti : TI Wi p n c t) (hW : Below Wi.heap.size Wi w) (hgi : Wi.heap.size ≤ gb) (hka : TK w gb pa 1 ca (vT a)) (hkb : TK w gb pb 1 cb (vT b)) (ha : 0 ≤ a ∧ a ≤ 1100000) (hb : 0 ≤ b ∧ b ≤ 1100000) (h0 : 0 ≤ st.1) (h1 : st.1 + (itC t).length ≤ 1100000) (hg : GMm w gb st) (k0 : ¬ t.1.1 = 0) (k1 : t.1.1 = 1) :
    Calls Tryz.prog 18 #[.pointer (some ⟨gb, 0, none⟩), .slice p n c, .slice pa 1 ca, .slice pb 1 cb] w (GOutM w gb (gPh nilT (f + 1) t a b st)) := by
  have hnl : n ≤ 2000 := by rw [hti.1]; simp only [itC, List.length_cons] at hl; omega
  have hn0 : 0 < n := by have := hti.1; omega
  have hlt : gb < w.heap.size := World.block_lt_of_cell? _ _ hg.c0
  have EQ : gPh nilT (f + 1) t a b st = (nilT, flt 4 st) := by simp only [gPh, if_neg k0, if_pos k1]
  rw [EQ]
  have H3 := l8fault_any gb st 4 (by decide) w hg
  obtain ⟨b0, o0, q1, qc, rfl, d0, d1, d2, d3⟩ := (hti.below hW).head
  rw [k1] at d0
  obtain ⟨P, eP⟩ : ∃ P, P = GOutM w gb (nilT, flt 4 st) := ⟨_, rfl⟩
  have HF : Hid (∀ e w', GOutM w gb (nilT, flt 4 st) e w' → P e w') := fun e w' h => by rw [eP]; exact h
  rw [← eP]
  clear ht hf hl hti hW hgi hka hkb ha hb h0 h1 hg d1 d2 d3 EQ eP hlt
  go_enter Tryz.func18, Tryz.ntmps18
  go_wp2_with fail
  refine H3.mono ?_
  rintro e w1 hh
  have HG : Hid _ := HF.out _ _ hh
  obtain ⟨q2, m2, c2, rfl, _⟩ := hh
  clear H3 HF
  go_wp2_with fail
  exact HG.out
set_option maxRecDepth 100000 in
set_option maxHeartbeats 1000000 in
theorem phrase_cComma (gb : Nat) (Wi : World) (f : Nat) (t : Tr) (p : Option Addr) (n c : Nat) (pa pb : Option Addr) (ca cb : Nat) (a b : Int) (st : GSt) (w : World) (ht : t.fo.ok) (hf : (itC t).length ≤ f + 1) (hl : (itC t).length ≤ 2000) (hti : TI Wi p n c t) (hW : Below Wi.heap.size Wi w) (hgi : Wi.heap.size ≤ gb) (hka : TK w gb pa 1 ca (vT a)) (hkb : TK w gb pb 1 cb (vT b)) (ha : 0 ≤ a ∧ a ≤ 1100000) (hb : 0 ≤ b ∧ b ≤ 1100000) (h0 : 0 ≤ st.1) (h1 : st.1 + (itC t).length ≤ 1100000) (hg : GMm w gb st) (kz : ¬ t.1.1 = 0) (ko : ¬ t.1.1 = 1) (kcComma : t.1 = cComma) (ih : PhM gb Wi f) :
    Calls Tryz.prog 18 #[.pointer (some ⟨gb, 0, none⟩), .slice p n c, .slice pa 1 ca, .slice pb 1 cb] w (GOutM w gb (gPh nilT (f + 1) t a b st)) := by
  have hnl : n ≤ 2000 := by rw [hti.1]; simp only [itC, List.length_cons] at hl; omega
  have hn0 : 0 < n := by have := hti.1; omega
  have hlt : gb < w.heap.size := World.block_lt_of_cell? _ _ hg.c0
  have EQ : gPh nilT (f + 1) t a b st = (cmpT t.1.2.2 [(gPh nilT f (kidG t 0) a st.1 (st.1 + 1, st.2)).1, (gPh nilT f (kidG t 1) st.1 b (gPh nilT f (kidG t 0) a st.1 (st.1 + 1, st.2)).2).1], (gPh nilT f (kidG t 1) st.1 b (gPh nilT f (kidG t 0) a st.1 (st.1 + 1, st.2)).2).2) := by simp only [gPh, if_neg kz, if_neg ko, if_pos (show t.1 = cComma ∨ t.1 = cThen from Or.inl kcComma)]
  rw [EQ]
  have HAR := l2argsG_any hti hW hnl ht
  have hcnt : t.2.count = 2 := count_of ht (n := 2) kcComma
  have kq0 := kid_ok ht (i := 0) (by omega)
  have kq1 := kid_ok ht (i := 1) (by omega)
  have hsz : (itC t).length = ((trs t.2).flatMap itC).length + 1 := by rw [trs_cells]; simp [itC]
  rw [two_kid hcnt] at hsz
  simp only [List.flatMap_cons, List.flatMap_nil, List.length_append, List.length_nil] at hsz
  have hq0 : decide (t.1 = cComma) = true := by simpa using kcComma
  have HQ0 : Hid (∀ W, Below Wi.heap.size Wi W → Calls Tryz.prog 13 #[.slice p n c, .string ⟨#[44]⟩, .int .i64 2] W fun e w' => e = .returned (.bool true) ∧ w' = W) := fun W hB => by
    have h8 : Calls Tryz.prog 13 #[.slice p n c, .string ⟨#[44]⟩, .int .i64 2] W fun e w' => e = .returned (.bool (decide (t.1 = cComma))) ∧ w' = W := isP_any (hti.below hB) ht.2.1 [44] 2 (by decide)
    rw [hq0] at h8; exact h8
  have HWI : Hid (∀ W, w.grownBy W (some gb) → Below Wi.heap.size Wi W) := fun W hW' => below_in hW hW' hgi
  have G0 := gPh_ok nilT_ok f (kidG t 0) a st.1 (st.1 + 1, st.2) kq0.1 (by omega) ha ⟨h0, by omega⟩ (by show 0 ≤ st.1 + 1; omega) (by show st.1 + 1 + _ ≤ _; omega)
  have u0 := G0.up
  have w0 := G0.few
  simp only at u0 w0
  have G1 := gPh_ok nilT_ok f (kidG t 1) st.1 b (gPh nilT f (kidG t 0) a st.1 (st.1 + 1, st.2)).2 kq1.1 (by omega) ⟨h0, by omega⟩ hb (by omega) (by omega)
  have HNW : Hid (∀ W, w.grownBy W (some gb) → GMm W gb st → Calls Tryz.prog 16 #[.pointer (some ⟨gb, 0, none⟩)] W (GOutM W gb (vT st.1, (st.1 + 1, st.2)))) := fun W _ hG => l8new_any gb st W hG (by omega)
  have HGM : Hid (∀ W, Below w.heap.size w W → GMm W gb st) := fun W hW' => hg.below hW'
  have HP0 : Hid (∀ (W : World) (r : Option Addr) (nr cr : Nat) (pm : Option Addr) (cm : Nat), w.grownBy W (some gb) → TI Wi r nr cr (kidG t 0) → TK W gb pm 1 cm (vT st.1) → GMm W gb (st.1 + 1, st.2) → Calls Tryz.prog 18 #[.pointer (some ⟨gb, 0, none⟩), .slice r nr cr, .slice pa 1 ca, .slice pm 1 cm] W (GOutM W gb (gPh nilT f (kidG t 0) a st.1 (st.1 + 1, st.2)))) := fun W r nr cr pm cm hG hT hM hS =>
    ih (kidG t 0) r nr cr pa pm ca cm a st.1 (st.1 + 1, st.2) W kq0.1 (by omega) (by omega) hT (below_in hW hG hgi) (hka.move hG) hM ha ⟨h0, by omega⟩ (by show 0 ≤ st.1 + 1; omega) (by show st.1 + 1 + _ ≤ _; omega) hS
  have HP1 : Hid (∀ (W : World) (r : Option Addr) (nr cr : Nat) (pm : Option Addr) (cm : Nat), w.grownBy W (some gb) → TI Wi r nr cr (kidG t 1) → TK W gb pm 1 cm (vT st.1) → GMm W gb (gPh nilT f (kidG t 0) a st.1 (st.1 + 1, st.2)).2 → Calls Tryz.prog 18 #[.pointer (some ⟨gb, 0, none⟩), .slice r nr cr, .slice pm 1 cm, .slice pb 1 cb] W (GOutM W gb (gPh nilT f (kidG t 1) st.1 b (gPh nilT f (kidG t 0) a st.1 (st.1 + 1, st.2)).2))) := fun W r nr cr pm cm hG hT hM hS =>
    ih (kidG t 1) r nr cr pm pb cm cb st.1 b (gPh nilT f (kidG t 0) a st.1 (st.1 + 1, st.2)).2 W kq1.1 (by omega) (by omega) hT (below_in hW hG hgi) hM (hkb.move hG) ⟨h0, by omega⟩ hb (by omega) (by omega) hS
  have HPA : Hid (∀ (W : World) (r1 r2 : Option Addr) (n1 n2 c1 c2 : Nat), TK W gb r1 n1 c1 (gPh nilT f (kidG t 0) a st.1 (st.1 + 1, st.2)).1 → TK W gb r2 n2 c2 (gPh nilT f (kidG t 1) st.1 b (gPh nilT f (kidG t 0) a st.1 (st.1 + 1, st.2)).2).1 → GMm W gb (gPh nilT f (kidG t 1) st.1 b (gPh nilT f (kidG t 0) a st.1 (st.1 + 1, st.2)).2).2 → Calls Tryz.prog 19 #[.string (strOfNums t.1.2.2), .slice r1 n1 c1, .slice r2 n2 c2] W (GOutM W gb (cmpT t.1.2.2 [(gPh nilT f (kidG t 0) a st.1 (st.1 + 1, st.2)).1, (gPh nilT f (kidG t 1) st.1 b (gPh nilT f (kidG t 0) a st.1 (st.1 + 1, st.2)).2).1], (gPh nilT f (kidG t 1) st.1 b (gPh nilT f (kidG t 0) a st.1 (st.1 + 1, st.2)).2).2))) := fun W r1 r2 n1 n2 c1 c2 h1 h2 h3 =>
    pair_tk gb t.1.2.2 ht.2.1 _ _ (fit_g G0 (by omega)) (fit_g G1 (by omega)) r1 r2 n1 n2 c1 c2 _ W h1 h2 h3
  clear G0 G1 u0 w0 ih
  obtain ⟨P, eP⟩ : ∃ P, P = GOutM w gb (cmpT t.1.2.2 [(gPh nilT f (kidG t 0) a st.1 (st.1 + 1, st.2)).1, (gPh nilT f (kidG t 1) st.1 b (gPh nilT f (kidG t 0) a st.1 (st.1 + 1, st.2)).2).1], (gPh nilT f (kidG t 1) st.1 b (gPh nilT f (kidG t 0) a st.1 (st.1 + 1, st.2)).2).2) := ⟨_, rfl⟩
  have HF : Hid (∀ e w', GOutM w gb (cmpT t.1.2.2 [(gPh nilT f (kidG t 0) a st.1 (st.1 + 1, st.2)).1, (gPh nilT f (kidG t 1) st.1 b (gPh nilT f (kidG t 0) a st.1 (st.1 + 1, st.2)).2).1], (gPh nilT f (kidG t 1) st.1 b (gPh nilT f (kidG t 0) a st.1 (st.1 + 1, st.2)).2).2) e w' → P e w') := fun e w' h => by rw [eP]; exact h
  rw [← eP]
  obtain ⟨b0, o0, q1, qc, ep, d0, d1, d2, d3⟩ := (hti.below hW).head
  have HHD : Hid (∀ W, w.grownBy W (some gb) → W.cell? ⟨b0, o0 + 2, none⟩ = some (.slice q1 t.1.2.2.length qc) ∧ (convert 32 9 (.slice q1 t.1.2.2.length qc)).run Tryz.prog W = .ok (.string (strOfNums t.1.2.2)) W) := fun W hW' => by
    obtain ⟨b9, o9, q9, qc9, ep9, _, _, d92, d93⟩ := (hti.below (below_in hW hW' hgi)).head
    rw [ep] at ep9
    cases ep9
    obtain ⟨b8, o8, q8, qc8, ep8, _, _, d82, d83⟩ := hti.head
    rw [ep] at ep8
    cases ep8
    have h8 := ((hW.cell (World.block_lt_of_cell? _ _ d82)).trans d82).symm.trans d2
    injection h8 with h8
    injection h8 with h81 h82 h83
    subst h81 h83
    exact ⟨((below_in hW hW' hgi).cell (World.block_lt_of_cell? _ _ d82)).trans d82, conv_str (d83.below (below_in hW hW' hgi)) _ qc8 rfl 9 Tryz.underlying9⟩
  subst ep
  obtain ⟨x, ex⟩ : ∃ x, x = t.1.1 := ⟨_, rfl⟩
  rw [← ex] at d0 kz ko
  have kzb : (x == 0) = false := by simpa using kz
  have kob : (x == 1) = false := by simpa using ko
  have HGS : Hid (gb < w.heap.size) := hlt
  clear ht hf hl hti hW hgi hka hkb ha hb h0 h1 hg d1 d2 d3 EQ eP hlt ex kq0 kq1 hsz hq0
  go_enter Tryz.func18, Tryz.ntmps18
  go_wp2_with fail
  refine HAR.mono ?_
  rintro e w1 ⟨q, m, mc, rs, rfl, hm, hrow, harg, hb1⟩
  have HG1 : Hid (w.grownBy w1 (some gb)) := grownM_below gb hb1
  have HI1 : Hid (Below Wi.heap.size Wi w1) := HWI.out w1 HG1.out
  have hm0 : 0 < m := by rw [hm, trs_len]; omega
  obtain ⟨g, eg, hkid⟩ := args_tk (gb := gb) hrow hm harg HGS.out hm0
  subst eg
  have hm2 : m = 2 := by rw [hm, trs_len]; exact hcnt
  obtain ⟨r0, n0, c0, kc0, kt0⟩ := hkid 0 (by omega)
  have HK0 : Hid (∀ W, w1.grownBy W (some gb) → W.cell? ⟨g, 0, none⟩ = some (.slice r0 n0 c0)) := kc0
  have HT0 : Hid (TI Wi r0 n0 c0 (kidG t 0)) := kt0
  obtain ⟨r1, n1, c1, kc1, kt1⟩ := hkid 1 (by omega)
  have HK1 : Hid (∀ W, w1.grownBy W (some gb) → W.cell? ⟨g, 1, none⟩ = some (.slice r1 n1 c1)) := kc1
  have HT1 : Hid (TI Wi r1 n1 c1 (kidG t 1)) := kt1
  clear hkid kc0 kt0 kc1 kt1
  have HM1 : Hid (GMm w1 gb st) := HGM.out w1 hb1
  clear hm hrow harg hb1 HAR hcnt HGM hm0
  subst hm2
  go_wp2_with fail
  refine (HQ0.out w1 HI1.out).mono ?_
  rintro e wq ⟨rfl, ew⟩
  rw [ew]
  clear ew HQ0
  go_wp2_with fail
  refine (HNW.out w1 HG1.out HM1.out).mono ?_
  rintro e w2 ⟨pm, mm, cm, rfl, tkm, gm2, gr2⟩
  obtain rfl : mm = 1 := tkm.1
  have HM : Hid (TK w2 gb pm 1 cm (vT st.1)) := tkm
  have HG2 : Hid (w1.grownBy w2 (some gb)) := gr2
  have HS2 : Hid (GMm w2 gb (st.1 + 1, st.2)) := gm2
  have f0 := HK0.out w2 HG2.out
  clear tkm gm2 gr2 HNW HM1
  go_wp2_with fail
  refine (HP0.out w2 r0 n0 c0 pm cm (grown_trans HG1.out HG2.out) HT0.out HM.out HS2.out).mono ?_
  rintro e w3 ⟨qa, ma, ca', rfl, tka, gm3, gr3⟩
  have HA3 : Hid (TK w3 gb qa ma ca' (gPh nilT f (kidG t 0) a st.1 (st.1 + 1, st.2)).1) := tka
  have HG3 : Hid (w1.grownBy w3 (some gb)) := grown_trans HG2.out gr3
  have HS3 : Hid (GMm w3 gb (gPh nilT f (kidG t 0) a st.1 (st.1 + 1, st.2)).2) := gm3
  have HM3 : Hid (TK w3 gb pm 1 cm (vT st.1)) := HM.out.move gr3
  clear tka gm3 gr3 HP0 f0 HM HS2
  go_wp2_with fail
  have hdr : w3.grownBy w3.drew (some gb) := grownM_below gb ((Below.refl _ _).drew)
  have HDR : Hid _ := hdr
  have HSS : Hid (∀ W, w3.grownBy W (some gb) → w.grownBy W (some gb)) := fun W hW' => grown_trans HG1.out (grown_trans HG3.out hW')
  obtain ⟨lt, elt⟩ : ∃ lt, lt = t.1.2.2.length := ⟨_, rfl⟩
  obtain ⟨sn, esn⟩ : ∃ sn, sn = strOfNums t.1.2.2 := ⟨_, rfl⟩
  rw [← elt, ← esn] at HHD
  rw [← esn] at HPA
  clear elt esn hdr
  refine wp_region_held_drew (S := fun W => w3.grownBy W (some gb)) (by kernel_rfl) HDR.out (fun hHeld => ?_)
  have hSS : w3.grownBy w3.drew (some gb) := HDR.out
  refine hTake (i := 0) (v := .slice (some ⟨b0, o0, none⟩) n c) (some 49) (by kernel_rfl) (by kernel_rfl) (by kernel_rfl) (by kernel_rfl) (by kernel_rfl) (fun _ _ _ h => h) (fun o ho W hSw => ?y0) (by assumption) ?_
  case y0 =>
    cases ho
    simp [execOp, go_sem, Act.eval]
  simp only [Act.put, List.setIfInBounds_toArray, List.set_cons_zero, List.set_cons_succ]
  refine hTake (i := 1) (v := .pointer (some ⟨b0, o0, none⟩)) (some 50) (by kernel_rfl) (by kernel_rfl) (by kernel_rfl) (by kernel_rfl) (by kernel_rfl) (fun _ _ _ h => h) (fun o ho W hSw => ?y1) (by assumption) ?_
  case y1 =>
    cases ho
    simp [execOp, go_sem, Act.eval, hn0]
  simp only [Act.put, List.setIfInBounds_toArray, List.set_cons_zero, List.set_cons_succ]
  refine hTake (i := 2) (v := .pointer (some ⟨b0, o0 + 2, none⟩)) (some 51) (by kernel_rfl) (by kernel_rfl) (by kernel_rfl) (by kernel_rfl) (by kernel_rfl) (fun _ _ _ h => h) (fun o ho W hSw => ?y2) (by assumption) ?_
  case y2 =>
    cases ho
    simp [execOp, go_sem, Act.eval]
  simp only [Act.put, List.setIfInBounds_toArray, List.set_cons_zero, List.set_cons_succ]
  refine hTake (i := 3) (v := .slice q1 lt qc) (some 52) (by kernel_rfl) (by kernel_rfl) (by kernel_rfl) (by kernel_rfl) (by kernel_rfl) (fun _ _ _ h => h) (fun o ho W hSw => ?y3) (by assumption) ?_
  case y3 =>
    cases ho
    simp [execOp, go_sem, Act.eval, (HHD.out W (HSS.out W hSw)).1]
  simp only [Act.put, List.setIfInBounds_toArray, List.set_cons_zero, List.set_cons_succ]
  refine hTake (i := 4) (v := .string sn) (some 53) (by kernel_rfl) (by kernel_rfl) (by kernel_rfl) (by kernel_rfl) (by kernel_rfl) (fun _ _ _ h => h) (fun o ho W hSw => ?y4) (by assumption) ?_
  case y4 =>
    cases ho
    simp [execOp, go_sem, Act.eval, (HHD.out W (HSS.out W hSw)).2]
  simp only [Act.put, List.setIfInBounds_toArray, List.set_cons_zero, List.set_cons_succ]
  refine hTake (i := 5) (v := .slice qa ma ca') (some 54) (by kernel_rfl) (by kernel_rfl) (by kernel_rfl) (by kernel_rfl) (by kernel_rfl) (fun _ _ _ h => h) (fun o ho W hSw => ?y5) (by assumption) ?_
  case y5 =>
    cases ho
    simp [execOp, go_sem, Act.eval]
  simp only [Act.put, List.setIfInBounds_toArray, List.set_cons_zero, List.set_cons_succ]
  refine hTake (i := 6) (v := .pointer (some ⟨gb, 0, none⟩)) (some 55) (by kernel_rfl) (by kernel_rfl) (by kernel_rfl) (by kernel_rfl) (by kernel_rfl) (fun _ _ _ h => h) (fun o ho W hSw => ?y6) (by assumption) ?_
  case y6 =>
    cases ho
    simp [execOp, go_sem, Act.eval]
  simp only [Act.put, List.setIfInBounds_toArray, List.set_cons_zero, List.set_cons_succ]
  refine hTake (i := 7) (v := .slice (some ⟨g, 0, none⟩) 2 mc) (some 56) (by kernel_rfl) (by kernel_rfl) (by kernel_rfl) (by kernel_rfl) (by kernel_rfl) (fun _ _ _ h => h) (fun o ho W hSw => ?y7) (by assumption) ?_
  case y7 =>
    cases ho
    simp [execOp, go_sem, Act.eval]
  simp only [Act.put, List.setIfInBounds_toArray, List.set_cons_zero, List.set_cons_succ]
  refine hTake (i := 8) (v := .pointer (some ⟨g, 1, none⟩)) (some 57) (by kernel_rfl) (by kernel_rfl) (by kernel_rfl) (by kernel_rfl) (by kernel_rfl) (fun _ _ _ h => h) (fun o ho W hSw => ?y8) (by assumption) ?_
  case y8 =>
    cases ho
    simp [execOp, go_sem, Act.eval]
  simp only [Act.put, List.setIfInBounds_toArray, List.set_cons_zero, List.set_cons_succ]
  refine hTake (i := 9) (v := .slice r1 n1 c1) (some 58) (by kernel_rfl) (by kernel_rfl) (by kernel_rfl) (by kernel_rfl) (by kernel_rfl) (fun _ _ _ h => h) (fun o ho W hSw => ?y9) (by assumption) ?_
  case y9 =>
    cases ho
    simp [execOp, go_sem, Act.eval, HK1.out W (grown_trans HG3.out hSw)]
  simp only [Act.put, List.setIfInBounds_toArray, List.set_cons_zero, List.set_cons_succ]
  refine hTake (i := 10) (v := .slice pm 1 cm) (some 59) (by kernel_rfl) (by kernel_rfl) (by kernel_rfl) (by kernel_rfl) (by kernel_rfl) (fun _ _ _ h => h) (fun o ho W hSw => ?y10) (by assumption) ?_
  case y10 =>
    cases ho
    simp [execOp, go_sem, Act.eval]
  simp only [Act.put, List.setIfInBounds_toArray, List.set_cons_zero, List.set_cons_succ]
  refine hTake (i := 11) (v := .slice pb 1 cb) (some 60) (by kernel_rfl) (by kernel_rfl) (by kernel_rfl) (by kernel_rfl) (by kernel_rfl) (fun _ _ _ h => h) (fun o ho W hSw => ?y11) (by assumption) ?_
  case y11 =>
    cases ho
    simp [execOp, go_sem, Act.eval]
  simp only [Act.put, List.setIfInBounds_toArray, List.set_cons_zero, List.set_cons_succ]
  refine hCallE (i := 12) (some 61) (by kernel_rfl) (by kernel_rfl) (by kernel_rfl) (fun o ho => ?y12) (HP1.out w3.drew r1 n1 c1 pm cm (HSS.out _ HDR.out) HT1.out (HM3.out.move HDR.out) (HS3.out.below ((Below.refl _ _).drew))) ?_ (fun ch w' h => by obtain ⟨_, _, _, h, _⟩ := h; simp at h) (fun w' h => by obtain ⟨_, _, _, h, _⟩ := h; simp at h)
  case y12 =>
    cases ho
    simp [execOp, go_sem, Act.eval]
  rintro u w4 ⟨qb, mb, cb', hu, tkb, gm4, gr4⟩
  cases hu
  have HG4 : Hid (w3.grownBy w4 (some gb)) := grown_trans HDR.out gr4
  have H5 := HPA.out w4 qa qb ma mb ca' cb' (HA3.out.move HG4.out) tkb gm4
  refine ⟨HG4.out, ?_⟩
  clear tkb gm4 gr4 HP1 HPA
  simp only [Act.put, List.setIfInBounds_toArray, List.set_cons_zero, List.set_cons_succ]
  refine hCallE (i := 13) (some 62) (by kernel_rfl) (by kernel_rfl) (by kernel_rfl) (fun o ho => ?y13) H5 ?_ (fun ch w' h => by obtain ⟨_, _, _, h, _⟩ := h; simp at h) (fun w' h => by obtain ⟨_, _, _, h, _⟩ := h; simp at h)
  case y13 =>
    cases ho
    simp [execOp, go_sem, Act.eval]
  rintro u w5 hh
  have HG : Hid _ := HF.out _ _ (hh.from (HSS.out _ HG4.out))
  obtain ⟨qz, mz, cz, hu, h51, h52, gr5⟩ := hh
  cases hu
  have hS5 : w3.grownBy w5 (some gb) := grown_trans HG4.out gr5
  refine ⟨hS5, ?_⟩
  clear h51 h52 gr5 H5 HF
  simp only [Act.put, List.setIfInBounds_toArray, List.set_cons_zero, List.set_cons_succ]
  refine hTake (i := 14) (v := .slice qz mz cz) (some 8) (by kernel_rfl) (by kernel_rfl) (by kernel_rfl) (by kernel_rfl) (by kernel_rfl) (fun _ _ _ h => h) (fun o ho W hSw => ?y14) (by assumption) ?_
  case y14 =>
    cases ho
    simp [execOp, go_sem, Act.eval]
  simp only [Act.put, List.setIfInBounds_toArray, List.set_cons_zero, List.set_cons_succ]
  refine wpAnyH_done (by kernel_rfl) ?_ _
  go_wp2_with fail
  exact HG.out
set_option maxRecDepth 100000 in
set_option maxHeartbeats 1000000 in
theorem phrase_cThen (gb : Nat) (Wi : World) (f : Nat) (t : Tr) (p : Option Addr) (n c : Nat) (pa pb : Option Addr) (ca cb : Nat) (a b : Int) (st : GSt) (w : World) (ht : t.fo.ok) (hf : (itC t).length ≤ f + 1) (hl : (itC t).length ≤ 2000) (hti : TI Wi p n c t) (hW : Below Wi.heap.size Wi w) (hgi : Wi.heap.size ≤ gb) (hka : TK w gb pa 1 ca (vT a)) (hkb : TK w gb pb 1 cb (vT b)) (ha : 0 ≤ a ∧ a ≤ 1100000) (hb : 0 ≤ b ∧ b ≤ 1100000) (h0 : 0 ≤ st.1) (h1 : st.1 + (itC t).length ≤ 1100000) (hg : GMm w gb st) (kz : ¬ t.1.1 = 0) (ko : ¬ t.1.1 = 1) (kcComma : ¬ t.1 = cComma) (kcThen : t.1 = cThen) (ih : PhM gb Wi f) :
    Calls Tryz.prog 18 #[.pointer (some ⟨gb, 0, none⟩), .slice p n c, .slice pa 1 ca, .slice pb 1 cb] w (GOutM w gb (gPh nilT (f + 1) t a b st)) := by
  have hnl : n ≤ 2000 := by rw [hti.1]; simp only [itC, List.length_cons] at hl; omega
  have hn0 : 0 < n := by have := hti.1; omega
  have hlt : gb < w.heap.size := World.block_lt_of_cell? _ _ hg.c0
  have EQ : gPh nilT (f + 1) t a b st = (cmpT t.1.2.2 [(gPh nilT f (kidG t 0) a st.1 (st.1 + 1, st.2)).1, (gPh nilT f (kidG t 1) st.1 b (gPh nilT f (kidG t 0) a st.1 (st.1 + 1, st.2)).2).1], (gPh nilT f (kidG t 1) st.1 b (gPh nilT f (kidG t 0) a st.1 (st.1 + 1, st.2)).2).2) := by simp only [gPh, if_neg kz, if_neg ko, if_pos (show t.1 = cComma ∨ t.1 = cThen from Or.inr kcThen)]
  rw [EQ]
  have HAR := l2argsG_any hti hW hnl ht
  have hcnt : t.2.count = 2 := count_of ht (n := 2) kcThen
  have kq0 := kid_ok ht (i := 0) (by omega)
  have kq1 := kid_ok ht (i := 1) (by omega)
  have hsz : (itC t).length = ((trs t.2).flatMap itC).length + 1 := by rw [trs_cells]; simp [itC]
  rw [two_kid hcnt] at hsz
  simp only [List.flatMap_cons, List.flatMap_nil, List.length_append, List.length_nil] at hsz
  have hq0 : decide (t.1 = cComma) = false := by simpa using kcComma
  have HQ0 : Hid (∀ W, Below Wi.heap.size Wi W → Calls Tryz.prog 13 #[.slice p n c, .string ⟨#[44]⟩, .int .i64 2] W fun e w' => e = .returned (.bool false) ∧ w' = W) := fun W hB => by
    have h8 : Calls Tryz.prog 13 #[.slice p n c, .string ⟨#[44]⟩, .int .i64 2] W fun e w' => e = .returned (.bool (decide (t.1 = cComma))) ∧ w' = W := isP_any (hti.below hB) ht.2.1 [44] 2 (by decide)
    rw [hq0] at h8; exact h8
  have hq1 : decide (t.1 = cThen) = true := by simpa using kcThen
  have HQ1 : Hid (∀ W, Below Wi.heap.size Wi W → Calls Tryz.prog 13 #[.slice p n c, .string ⟨#[45, 62]⟩, .int .i64 2] W fun e w' => e = .returned (.bool true) ∧ w' = W) := fun W hB => by
    have h8 : Calls Tryz.prog 13 #[.slice p n c, .string ⟨#[45, 62]⟩, .int .i64 2] W fun e w' => e = .returned (.bool (decide (t.1 = cThen))) ∧ w' = W := isP_any (hti.below hB) ht.2.1 [45, 62] 2 (by decide)
    rw [hq1] at h8; exact h8
  have HWI : Hid (∀ W, w.grownBy W (some gb) → Below Wi.heap.size Wi W) := fun W hW' => below_in hW hW' hgi
  have G0 := gPh_ok nilT_ok f (kidG t 0) a st.1 (st.1 + 1, st.2) kq0.1 (by omega) ha ⟨h0, by omega⟩ (by show 0 ≤ st.1 + 1; omega) (by show st.1 + 1 + _ ≤ _; omega)
  have u0 := G0.up
  have w0 := G0.few
  simp only at u0 w0
  have G1 := gPh_ok nilT_ok f (kidG t 1) st.1 b (gPh nilT f (kidG t 0) a st.1 (st.1 + 1, st.2)).2 kq1.1 (by omega) ⟨h0, by omega⟩ hb (by omega) (by omega)
  have HNW : Hid (∀ W, w.grownBy W (some gb) → GMm W gb st → Calls Tryz.prog 16 #[.pointer (some ⟨gb, 0, none⟩)] W (GOutM W gb (vT st.1, (st.1 + 1, st.2)))) := fun W _ hG => l8new_any gb st W hG (by omega)
  have HGM : Hid (∀ W, Below w.heap.size w W → GMm W gb st) := fun W hW' => hg.below hW'
  have HP0 : Hid (∀ (W : World) (r : Option Addr) (nr cr : Nat) (pm : Option Addr) (cm : Nat), w.grownBy W (some gb) → TI Wi r nr cr (kidG t 0) → TK W gb pm 1 cm (vT st.1) → GMm W gb (st.1 + 1, st.2) → Calls Tryz.prog 18 #[.pointer (some ⟨gb, 0, none⟩), .slice r nr cr, .slice pa 1 ca, .slice pm 1 cm] W (GOutM W gb (gPh nilT f (kidG t 0) a st.1 (st.1 + 1, st.2)))) := fun W r nr cr pm cm hG hT hM hS =>
    ih (kidG t 0) r nr cr pa pm ca cm a st.1 (st.1 + 1, st.2) W kq0.1 (by omega) (by omega) hT (below_in hW hG hgi) (hka.move hG) hM ha ⟨h0, by omega⟩ (by show 0 ≤ st.1 + 1; omega) (by show st.1 + 1 + _ ≤ _; omega) hS
  have HP1 : Hid (∀ (W : World) (r : Option Addr) (nr cr : Nat) (pm : Option Addr) (cm : Nat), w.grownBy W (some gb) → TI Wi r nr cr (kidG t 1) → TK W gb pm 1 cm (vT st.1) → GMm W gb (gPh nilT f (kidG t 0) a st.1 (st.1 + 1, st.2)).2 → Calls Tryz.prog 18 #[.pointer (some ⟨gb, 0, none⟩), .slice r nr cr, .slice pm 1 cm, .slice pb 1 cb] W (GOutM W gb (gPh nilT f (kidG t 1) st.1 b (gPh nilT f (kidG t 0) a st.1 (st.1 + 1, st.2)).2))) := fun W r nr cr pm cm hG hT hM hS =>
    ih (kidG t 1) r nr cr pm pb cm cb st.1 b (gPh nilT f (kidG t 0) a st.1 (st.1 + 1, st.2)).2 W kq1.1 (by omega) (by omega) hT (below_in hW hG hgi) hM (hkb.move hG) ⟨h0, by omega⟩ hb (by omega) (by omega) hS
  have HPA : Hid (∀ (W : World) (r1 r2 : Option Addr) (n1 n2 c1 c2 : Nat), TK W gb r1 n1 c1 (gPh nilT f (kidG t 0) a st.1 (st.1 + 1, st.2)).1 → TK W gb r2 n2 c2 (gPh nilT f (kidG t 1) st.1 b (gPh nilT f (kidG t 0) a st.1 (st.1 + 1, st.2)).2).1 → GMm W gb (gPh nilT f (kidG t 1) st.1 b (gPh nilT f (kidG t 0) a st.1 (st.1 + 1, st.2)).2).2 → Calls Tryz.prog 19 #[.string (strOfNums t.1.2.2), .slice r1 n1 c1, .slice r2 n2 c2] W (GOutM W gb (cmpT t.1.2.2 [(gPh nilT f (kidG t 0) a st.1 (st.1 + 1, st.2)).1, (gPh nilT f (kidG t 1) st.1 b (gPh nilT f (kidG t 0) a st.1 (st.1 + 1, st.2)).2).1], (gPh nilT f (kidG t 1) st.1 b (gPh nilT f (kidG t 0) a st.1 (st.1 + 1, st.2)).2).2))) := fun W r1 r2 n1 n2 c1 c2 h1 h2 h3 =>
    pair_tk gb t.1.2.2 ht.2.1 _ _ (fit_g G0 (by omega)) (fit_g G1 (by omega)) r1 r2 n1 n2 c1 c2 _ W h1 h2 h3
  clear G0 G1 u0 w0 ih
  obtain ⟨P, eP⟩ : ∃ P, P = GOutM w gb (cmpT t.1.2.2 [(gPh nilT f (kidG t 0) a st.1 (st.1 + 1, st.2)).1, (gPh nilT f (kidG t 1) st.1 b (gPh nilT f (kidG t 0) a st.1 (st.1 + 1, st.2)).2).1], (gPh nilT f (kidG t 1) st.1 b (gPh nilT f (kidG t 0) a st.1 (st.1 + 1, st.2)).2).2) := ⟨_, rfl⟩
  have HF : Hid (∀ e w', GOutM w gb (cmpT t.1.2.2 [(gPh nilT f (kidG t 0) a st.1 (st.1 + 1, st.2)).1, (gPh nilT f (kidG t 1) st.1 b (gPh nilT f (kidG t 0) a st.1 (st.1 + 1, st.2)).2).1], (gPh nilT f (kidG t 1) st.1 b (gPh nilT f (kidG t 0) a st.1 (st.1 + 1, st.2)).2).2) e w' → P e w') := fun e w' h => by rw [eP]; exact h
  rw [← eP]
  obtain ⟨b0, o0, q1, qc, ep, d0, d1, d2, d3⟩ := (hti.below hW).head
  have HHD : Hid (∀ W, w.grownBy W (some gb) → W.cell? ⟨b0, o0 + 2, none⟩ = some (.slice q1 t.1.2.2.length qc) ∧ (convert 32 9 (.slice q1 t.1.2.2.length qc)).run Tryz.prog W = .ok (.string (strOfNums t.1.2.2)) W) := fun W hW' => by
    obtain ⟨b9, o9, q9, qc9, ep9, _, _, d92, d93⟩ := (hti.below (below_in hW hW' hgi)).head
    rw [ep] at ep9
    cases ep9
    obtain ⟨b8, o8, q8, qc8, ep8, _, _, d82, d83⟩ := hti.head
    rw [ep] at ep8
    cases ep8
    have h8 := ((hW.cell (World.block_lt_of_cell? _ _ d82)).trans d82).symm.trans d2
    injection h8 with h8
    injection h8 with h81 h82 h83
    subst h81 h83
    exact ⟨((below_in hW hW' hgi).cell (World.block_lt_of_cell? _ _ d82)).trans d82, conv_str (d83.below (below_in hW hW' hgi)) _ qc8 rfl 9 Tryz.underlying9⟩
  subst ep
  obtain ⟨x, ex⟩ : ∃ x, x = t.1.1 := ⟨_, rfl⟩
  rw [← ex] at d0 kz ko
  have kzb : (x == 0) = false := by simpa using kz
  have kob : (x == 1) = false := by simpa using ko
  have HGS : Hid (gb < w.heap.size) := hlt
  clear ht hf hl hti hW hgi hka hkb ha hb h0 h1 hg d1 d2 d3 EQ eP hlt ex kq0 kq1 hsz hq0 hq1
  go_enter Tryz.func18, Tryz.ntmps18
  go_wp2_with fail
  refine HAR.mono ?_
  rintro e w1 ⟨q, m, mc, rs, rfl, hm, hrow, harg, hb1⟩
  have HG1 : Hid (w.grownBy w1 (some gb)) := grownM_below gb hb1
  have HI1 : Hid (Below Wi.heap.size Wi w1) := HWI.out w1 HG1.out
  have hm0 : 0 < m := by rw [hm, trs_len]; omega
  obtain ⟨g, eg, hkid⟩ := args_tk (gb := gb) hrow hm harg HGS.out hm0
  subst eg
  have hm2 : m = 2 := by rw [hm, trs_len]; exact hcnt
  obtain ⟨r0, n0, c0, kc0, kt0⟩ := hkid 0 (by omega)
  have HK0 : Hid (∀ W, w1.grownBy W (some gb) → W.cell? ⟨g, 0, none⟩ = some (.slice r0 n0 c0)) := kc0
  have HT0 : Hid (TI Wi r0 n0 c0 (kidG t 0)) := kt0
  obtain ⟨r1, n1, c1, kc1, kt1⟩ := hkid 1 (by omega)
  have HK1 : Hid (∀ W, w1.grownBy W (some gb) → W.cell? ⟨g, 1, none⟩ = some (.slice r1 n1 c1)) := kc1
  have HT1 : Hid (TI Wi r1 n1 c1 (kidG t 1)) := kt1
  clear hkid kc0 kt0 kc1 kt1
  have HM1 : Hid (GMm w1 gb st) := HGM.out w1 hb1
  clear hm hrow harg hb1 HAR hcnt HGM hm0
  subst hm2
  go_wp2_with fail
  refine (HQ0.out w1 HI1.out).mono ?_
  rintro e wq ⟨rfl, ew⟩
  rw [ew]
  clear ew HQ0
  go_wp2_with fail
  refine (HQ1.out w1 HI1.out).mono ?_
  rintro e wq ⟨rfl, ew⟩
  rw [ew]
  clear ew HQ1
  go_wp2_with fail
  refine (HNW.out w1 HG1.out HM1.out).mono ?_
  rintro e w2 ⟨pm, mm, cm, rfl, tkm, gm2, gr2⟩
  obtain rfl : mm = 1 := tkm.1
  have HM : Hid (TK w2 gb pm 1 cm (vT st.1)) := tkm
  have HG2 : Hid (w1.grownBy w2 (some gb)) := gr2
  have HS2 : Hid (GMm w2 gb (st.1 + 1, st.2)) := gm2
  have f0 := HK0.out w2 HG2.out
  clear tkm gm2 gr2 HNW HM1
  go_wp2_with fail
  refine (HP0.out w2 r0 n0 c0 pm cm (grown_trans HG1.out HG2.out) HT0.out HM.out HS2.out).mono ?_
  rintro e w3 ⟨qa, ma, ca', rfl, tka, gm3, gr3⟩
  have HA3 : Hid (TK w3 gb qa ma ca' (gPh nilT f (kidG t 0) a st.1 (st.1 + 1, st.2)).1) := tka
  have HG3 : Hid (w1.grownBy w3 (some gb)) := grown_trans HG2.out gr3
  have HS3 : Hid (GMm w3 gb (gPh nilT f (kidG t 0) a st.1 (st.1 + 1, st.2)).2) := gm3
  have HM3 : Hid (TK w3 gb pm 1 cm (vT st.1)) := HM.out.move gr3
  clear tka gm3 gr3 HP0 f0 HM HS2
  go_wp2_with fail
  have hdr : w3.grownBy w3.drew (some gb) := grownM_below gb ((Below.refl _ _).drew)
  have HDR : Hid _ := hdr
  have HSS : Hid (∀ W, w3.grownBy W (some gb) → w.grownBy W (some gb)) := fun W hW' => grown_trans HG1.out (grown_trans HG3.out hW')
  obtain ⟨lt, elt⟩ : ∃ lt, lt = t.1.2.2.length := ⟨_, rfl⟩
  obtain ⟨sn, esn⟩ : ∃ sn, sn = strOfNums t.1.2.2 := ⟨_, rfl⟩
  rw [← elt, ← esn] at HHD
  rw [← esn] at HPA
  clear elt esn hdr
  refine wp_region_held_drew (S := fun W => w3.grownBy W (some gb)) (by kernel_rfl) HDR.out (fun hHeld => ?_)
  have hSS : w3.grownBy w3.drew (some gb) := HDR.out
  refine hTake (i := 0) (v := .slice (some ⟨b0, o0, none⟩) n c) (some 49) (by kernel_rfl) (by kernel_rfl) (by kernel_rfl) (by kernel_rfl) (by kernel_rfl) (fun _ _ _ h => h) (fun o ho W hSw => ?y0) (by assumption) ?_
  case y0 =>
    cases ho
    simp [execOp, go_sem, Act.eval]
  simp only [Act.put, List.setIfInBounds_toArray, List.set_cons_zero, List.set_cons_succ]
  refine hTake (i := 1) (v := .pointer (some ⟨b0, o0, none⟩)) (some 50) (by kernel_rfl) (by kernel_rfl) (by kernel_rfl) (by kernel_rfl) (by kernel_rfl) (fun _ _ _ h => h) (fun o ho W hSw => ?y1) (by assumption) ?_
  case y1 =>
    cases ho
    simp [execOp, go_sem, Act.eval, hn0]
  simp only [Act.put, List.setIfInBounds_toArray, List.set_cons_zero, List.set_cons_succ]
  refine hTake (i := 2) (v := .pointer (some ⟨b0, o0 + 2, none⟩)) (some 51) (by kernel_rfl) (by kernel_rfl) (by kernel_rfl) (by kernel_rfl) (by kernel_rfl) (fun _ _ _ h => h) (fun o ho W hSw => ?y2) (by assumption) ?_
  case y2 =>
    cases ho
    simp [execOp, go_sem, Act.eval]
  simp only [Act.put, List.setIfInBounds_toArray, List.set_cons_zero, List.set_cons_succ]
  refine hTake (i := 3) (v := .slice q1 lt qc) (some 52) (by kernel_rfl) (by kernel_rfl) (by kernel_rfl) (by kernel_rfl) (by kernel_rfl) (fun _ _ _ h => h) (fun o ho W hSw => ?y3) (by assumption) ?_
  case y3 =>
    cases ho
    simp [execOp, go_sem, Act.eval, (HHD.out W (HSS.out W hSw)).1]
  simp only [Act.put, List.setIfInBounds_toArray, List.set_cons_zero, List.set_cons_succ]
  refine hTake (i := 4) (v := .string sn) (some 53) (by kernel_rfl) (by kernel_rfl) (by kernel_rfl) (by kernel_rfl) (by kernel_rfl) (fun _ _ _ h => h) (fun o ho W hSw => ?y4) (by assumption) ?_
  case y4 =>
    cases ho
    simp [execOp, go_sem, Act.eval, (HHD.out W (HSS.out W hSw)).2]
  simp only [Act.put, List.setIfInBounds_toArray, List.set_cons_zero, List.set_cons_succ]
  refine hTake (i := 5) (v := .slice qa ma ca') (some 54) (by kernel_rfl) (by kernel_rfl) (by kernel_rfl) (by kernel_rfl) (by kernel_rfl) (fun _ _ _ h => h) (fun o ho W hSw => ?y5) (by assumption) ?_
  case y5 =>
    cases ho
    simp [execOp, go_sem, Act.eval]
  simp only [Act.put, List.setIfInBounds_toArray, List.set_cons_zero, List.set_cons_succ]
  refine hTake (i := 6) (v := .pointer (some ⟨gb, 0, none⟩)) (some 55) (by kernel_rfl) (by kernel_rfl) (by kernel_rfl) (by kernel_rfl) (by kernel_rfl) (fun _ _ _ h => h) (fun o ho W hSw => ?y6) (by assumption) ?_
  case y6 =>
    cases ho
    simp [execOp, go_sem, Act.eval]
  simp only [Act.put, List.setIfInBounds_toArray, List.set_cons_zero, List.set_cons_succ]
  refine hTake (i := 7) (v := .slice (some ⟨g, 0, none⟩) 2 mc) (some 56) (by kernel_rfl) (by kernel_rfl) (by kernel_rfl) (by kernel_rfl) (by kernel_rfl) (fun _ _ _ h => h) (fun o ho W hSw => ?y7) (by assumption) ?_
  case y7 =>
    cases ho
    simp [execOp, go_sem, Act.eval]
  simp only [Act.put, List.setIfInBounds_toArray, List.set_cons_zero, List.set_cons_succ]
  refine hTake (i := 8) (v := .pointer (some ⟨g, 1, none⟩)) (some 57) (by kernel_rfl) (by kernel_rfl) (by kernel_rfl) (by kernel_rfl) (by kernel_rfl) (fun _ _ _ h => h) (fun o ho W hSw => ?y8) (by assumption) ?_
  case y8 =>
    cases ho
    simp [execOp, go_sem, Act.eval]
  simp only [Act.put, List.setIfInBounds_toArray, List.set_cons_zero, List.set_cons_succ]
  refine hTake (i := 9) (v := .slice r1 n1 c1) (some 58) (by kernel_rfl) (by kernel_rfl) (by kernel_rfl) (by kernel_rfl) (by kernel_rfl) (fun _ _ _ h => h) (fun o ho W hSw => ?y9) (by assumption) ?_
  case y9 =>
    cases ho
    simp [execOp, go_sem, Act.eval, HK1.out W (grown_trans HG3.out hSw)]
  simp only [Act.put, List.setIfInBounds_toArray, List.set_cons_zero, List.set_cons_succ]
  refine hTake (i := 10) (v := .slice pm 1 cm) (some 59) (by kernel_rfl) (by kernel_rfl) (by kernel_rfl) (by kernel_rfl) (by kernel_rfl) (fun _ _ _ h => h) (fun o ho W hSw => ?y10) (by assumption) ?_
  case y10 =>
    cases ho
    simp [execOp, go_sem, Act.eval]
  simp only [Act.put, List.setIfInBounds_toArray, List.set_cons_zero, List.set_cons_succ]
  refine hTake (i := 11) (v := .slice pb 1 cb) (some 60) (by kernel_rfl) (by kernel_rfl) (by kernel_rfl) (by kernel_rfl) (by kernel_rfl) (fun _ _ _ h => h) (fun o ho W hSw => ?y11) (by assumption) ?_
  case y11 =>
    cases ho
    simp [execOp, go_sem, Act.eval]
  simp only [Act.put, List.setIfInBounds_toArray, List.set_cons_zero, List.set_cons_succ]
  refine hCallE (i := 12) (some 61) (by kernel_rfl) (by kernel_rfl) (by kernel_rfl) (fun o ho => ?y12) (HP1.out w3.drew r1 n1 c1 pm cm (HSS.out _ HDR.out) HT1.out (HM3.out.move HDR.out) (HS3.out.below ((Below.refl _ _).drew))) ?_ (fun ch w' h => by obtain ⟨_, _, _, h, _⟩ := h; simp at h) (fun w' h => by obtain ⟨_, _, _, h, _⟩ := h; simp at h)
  case y12 =>
    cases ho
    simp [execOp, go_sem, Act.eval]
  rintro u w4 ⟨qb, mb, cb', hu, tkb, gm4, gr4⟩
  cases hu
  have HG4 : Hid (w3.grownBy w4 (some gb)) := grown_trans HDR.out gr4
  have H5 := HPA.out w4 qa qb ma mb ca' cb' (HA3.out.move HG4.out) tkb gm4
  refine ⟨HG4.out, ?_⟩
  clear tkb gm4 gr4 HP1 HPA
  simp only [Act.put, List.setIfInBounds_toArray, List.set_cons_zero, List.set_cons_succ]
  refine hCallE (i := 13) (some 62) (by kernel_rfl) (by kernel_rfl) (by kernel_rfl) (fun o ho => ?y13) H5 ?_ (fun ch w' h => by obtain ⟨_, _, _, h, _⟩ := h; simp at h) (fun w' h => by obtain ⟨_, _, _, h, _⟩ := h; simp at h)
  case y13 =>
    cases ho
    simp [execOp, go_sem, Act.eval]
  rintro u w5 hh
  have HG : Hid _ := HF.out _ _ (hh.from (HSS.out _ HG4.out))
  obtain ⟨qz, mz, cz, hu, h51, h52, gr5⟩ := hh
  cases hu
  have hS5 : w3.grownBy w5 (some gb) := grown_trans HG4.out gr5
  refine ⟨hS5, ?_⟩
  clear h51 h52 gr5 H5 HF
  simp only [Act.put, List.setIfInBounds_toArray, List.set_cons_zero, List.set_cons_succ]
  refine hTake (i := 14) (v := .slice qz mz cz) (some 8) (by kernel_rfl) (by kernel_rfl) (by kernel_rfl) (by kernel_rfl) (by kernel_rfl) (fun _ _ _ h => h) (fun o ho W hSw => ?y14) (by assumption) ?_
  case y14 =>
    cases ho
    simp [execOp, go_sem, Act.eval]
  simp only [Act.put, List.setIfInBounds_toArray, List.set_cons_zero, List.set_cons_succ]
  refine wpAnyH_done (by kernel_rfl) ?_ _
  go_wp2_with fail
  exact HG.out
set_option maxRecDepth 100000 in
set_option maxHeartbeats 1000000 in
theorem phrase_or (gb : Nat) (Wi : World) (f : Nat) (t : Tr) (p : Option Addr) (n c : Nat) (pa pb : Option Addr) (ca cb : Nat) (a b : Int) (st : GSt) (w : World) (ht : t.fo.ok) (hf : (itC t).length ≤ f + 1) (hl : (itC t).length ≤ 2000) (hti : TI Wi p n c t) (hW : Below Wi.heap.size Wi w) (hgi : Wi.heap.size ≤ gb) (hka : TK w gb pa 1 ca (vT a)) (hkb : TK w gb pb 1 cb (vT b)) (ha : 0 ≤ a ∧ a ≤ 1100000) (hb : 0 ≤ b ∧ b ≤ 1100000) (h0 : 0 ≤ st.1) (h1 : st.1 + (itC t).length ≤ 1100000) (hg : GMm w gb st) (kz : ¬ t.1.1 = 0) (ko : ¬ t.1.1 = 1) (kcComma : ¬ t.1 = cComma) (kcThen : ¬ t.1 = cThen) (kcOr : t.1 = cOr) (ih : PhM gb Wi f) :
    Calls Tryz.prog 18 #[.pointer (some ⟨gb, 0, none⟩), .slice p n c, .slice pa 1 ca, .slice pb 1 cb] w (GOutM w gb (gPh nilT (f + 1) t a b st)) := by
  have hnl : n ≤ 2000 := by rw [hti.1]; simp only [itC, List.length_cons] at hl; omega
  have hn0 : 0 < n := by have := hti.1; omega
  have hlt : gb < w.heap.size := World.block_lt_of_cell? _ _ hg.c0
  have EQ : gPh nilT (f + 1) t a b st = (cmpT [59] [(gPh nilT f (kidG t 0) a b st).1, (gPh nilT f (kidG t 1) a b (gPh nilT f (kidG t 0) a b st).2).1], (gPh nilT f (kidG t 1) a b (gPh nilT f (kidG t 0) a b st).2).2) := by simp only [gPh, if_neg kz, if_neg ko, if_neg (show ¬ (t.1 = cComma ∨ t.1 = cThen) from fun h => h.elim kcComma kcThen), if_pos kcOr]
  rw [EQ]
  have HAR := l2argsG_any hti hW hnl ht
  have hcnt : t.2.count = 2 := count_of ht (n := 2) kcOr
  have kq0 := kid_ok ht (i := 0) (by omega)
  have kq1 := kid_ok ht (i := 1) (by omega)
  have hsz : (itC t).length = ((trs t.2).flatMap itC).length + 1 := by rw [trs_cells]; simp [itC]
  rw [two_kid hcnt] at hsz
  simp only [List.flatMap_cons, List.flatMap_nil, List.length_append, List.length_nil] at hsz
  have hq0 : decide (t.1 = cComma) = false := by simpa using kcComma
  have HQ0 : Hid (∀ W, Below Wi.heap.size Wi W → Calls Tryz.prog 13 #[.slice p n c, .string ⟨#[44]⟩, .int .i64 2] W fun e w' => e = .returned (.bool false) ∧ w' = W) := fun W hB => by
    have h8 : Calls Tryz.prog 13 #[.slice p n c, .string ⟨#[44]⟩, .int .i64 2] W fun e w' => e = .returned (.bool (decide (t.1 = cComma))) ∧ w' = W := isP_any (hti.below hB) ht.2.1 [44] 2 (by decide)
    rw [hq0] at h8; exact h8
  have hq1 : decide (t.1 = cThen) = false := by simpa using kcThen
  have HQ1 : Hid (∀ W, Below Wi.heap.size Wi W → Calls Tryz.prog 13 #[.slice p n c, .string ⟨#[45, 62]⟩, .int .i64 2] W fun e w' => e = .returned (.bool false) ∧ w' = W) := fun W hB => by
    have h8 : Calls Tryz.prog 13 #[.slice p n c, .string ⟨#[45, 62]⟩, .int .i64 2] W fun e w' => e = .returned (.bool (decide (t.1 = cThen))) ∧ w' = W := isP_any (hti.below hB) ht.2.1 [45, 62] 2 (by decide)
    rw [hq1] at h8; exact h8
  have hq2 : decide (t.1 = cOr) = true := by simpa using kcOr
  have HQ2 : Hid (∀ W, Below Wi.heap.size Wi W → Calls Tryz.prog 13 #[.slice p n c, .string ⟨#[59]⟩, .int .i64 2] W fun e w' => e = .returned (.bool true) ∧ w' = W) := fun W hB => by
    have h8 : Calls Tryz.prog 13 #[.slice p n c, .string ⟨#[59]⟩, .int .i64 2] W fun e w' => e = .returned (.bool (decide (t.1 = cOr))) ∧ w' = W := isP_any (hti.below hB) ht.2.1 [59] 2 (by decide)
    rw [hq2] at h8; exact h8
  have HWI : Hid (∀ W, w.grownBy W (some gb) → Below Wi.heap.size Wi W) := fun W hW' => below_in hW hW' hgi
  have G0 := gPh_ok nilT_ok f (kidG t 0) a b st kq0.1 (by omega) ha hb h0 (by omega)
  have u0 := G0.up
  have w0 := G0.few
  have G1 := gPh_ok nilT_ok f (kidG t 1) a b (gPh nilT f (kidG t 0) a b st).2 kq1.1 (by omega) ha hb (by omega) (by omega)
  have eS : strOfNums [59] = ⟨#[59]⟩ := rfl
  have HGM : Hid (∀ W, Below w.heap.size w W → GMm W gb st) := fun W hW' => hg.below hW'
  have HP0 : Hid (∀ (W : World) (r : Option Addr) (nr cr : Nat), w.grownBy W (some gb) → TI Wi r nr cr (kidG t 0) → GMm W gb st → Calls Tryz.prog 18 #[.pointer (some ⟨gb, 0, none⟩), .slice r nr cr, .slice pa 1 ca, .slice pb 1 cb] W (GOutM W gb (gPh nilT f (kidG t 0) a b st))) := fun W r nr cr hG hT hS =>
    ih (kidG t 0) r nr cr pa pb ca cb a b st W kq0.1 (by omega) (by omega) hT (below_in hW hG hgi) (hka.move hG) (hkb.move hG) ha hb h0 (by omega) hS
  have HP1 : Hid (∀ (W : World) (r : Option Addr) (nr cr : Nat), w.grownBy W (some gb) → TI Wi r nr cr (kidG t 1) → GMm W gb (gPh nilT f (kidG t 0) a b st).2 → Calls Tryz.prog 18 #[.pointer (some ⟨gb, 0, none⟩), .slice r nr cr, .slice pa 1 ca, .slice pb 1 cb] W (GOutM W gb (gPh nilT f (kidG t 1) a b (gPh nilT f (kidG t 0) a b st).2))) := fun W r nr cr hG hT hS =>
    ih (kidG t 1) r nr cr pa pb ca cb a b (gPh nilT f (kidG t 0) a b st).2 W kq1.1 (by omega) (by omega) hT (below_in hW hG hgi) (hka.move hG) (hkb.move hG) ha hb (by omega) (by omega) hS
  have HPA : Hid (∀ (W : World) (r1 r2 : Option Addr) (n1 n2 c1 c2 : Nat), TK W gb r1 n1 c1 (gPh nilT f (kidG t 0) a b st).1 → TK W gb r2 n2 c2 (gPh nilT f (kidG t 1) a b (gPh nilT f (kidG t 0) a b st).2).1 → GMm W gb (gPh nilT f (kidG t 1) a b (gPh nilT f (kidG t 0) a b st).2).2 → Calls Tryz.prog 19 #[.string ⟨#[59]⟩, .slice r1 n1 c1, .slice r2 n2 c2] W (GOutM W gb (cmpT [59] [(gPh nilT f (kidG t 0) a b st).1, (gPh nilT f (kidG t 1) a b (gPh nilT f (kidG t 0) a b st).2).1], (gPh nilT f (kidG t 1) a b (gPh nilT f (kidG t 0) a b st).2).2))) := fun W r1 r2 n1 n2 c1 c2 h1 h2 h3 => by
    have h8 := pair_tk gb [59] (byte_small (by decide)) _ _ (fit_g G0 (by omega)) (fit_g G1 (by omega)) r1 r2 n1 n2 c1 c2 _ W h1 h2 h3
    rw [eS] at h8; exact h8
  clear G0 G1 u0 w0 ih eS
  obtain ⟨P, eP⟩ : ∃ P, P = GOutM w gb (cmpT [59] [(gPh nilT f (kidG t 0) a b st).1, (gPh nilT f (kidG t 1) a b (gPh nilT f (kidG t 0) a b st).2).1], (gPh nilT f (kidG t 1) a b (gPh nilT f (kidG t 0) a b st).2).2) := ⟨_, rfl⟩
  have HF : Hid (∀ e w', GOutM w gb (cmpT [59] [(gPh nilT f (kidG t 0) a b st).1, (gPh nilT f (kidG t 1) a b (gPh nilT f (kidG t 0) a b st).2).1], (gPh nilT f (kidG t 1) a b (gPh nilT f (kidG t 0) a b st).2).2) e w' → P e w') := fun e w' h => by rw [eP]; exact h
  rw [← eP]
  obtain ⟨b0, o0, q1, qc, ep, d0, d1, d2, d3⟩ := (hti.below hW).head
  have HHD : Hid (∀ W, w.grownBy W (some gb) → W.cell? ⟨b0, o0 + 2, none⟩ = some (.slice q1 t.1.2.2.length qc) ∧ (convert 32 9 (.slice q1 t.1.2.2.length qc)).run Tryz.prog W = .ok (.string (strOfNums t.1.2.2)) W) := fun W hW' => by
    obtain ⟨b9, o9, q9, qc9, ep9, _, _, d92, d93⟩ := (hti.below (below_in hW hW' hgi)).head
    rw [ep] at ep9
    cases ep9
    obtain ⟨b8, o8, q8, qc8, ep8, _, _, d82, d83⟩ := hti.head
    rw [ep] at ep8
    cases ep8
    have h8 := ((hW.cell (World.block_lt_of_cell? _ _ d82)).trans d82).symm.trans d2
    injection h8 with h8
    injection h8 with h81 h82 h83
    subst h81 h83
    exact ⟨((below_in hW hW' hgi).cell (World.block_lt_of_cell? _ _ d82)).trans d82, conv_str (d83.below (below_in hW hW' hgi)) _ qc8 rfl 9 Tryz.underlying9⟩
  subst ep
  obtain ⟨x, ex⟩ : ∃ x, x = t.1.1 := ⟨_, rfl⟩
  rw [← ex] at d0 kz ko
  have kzb : (x == 0) = false := by simpa using kz
  have kob : (x == 1) = false := by simpa using ko
  have HGS : Hid (gb < w.heap.size) := hlt
  clear ht hf hl hti hW hgi hka hkb ha hb h0 h1 hg d1 d2 d3 EQ eP hlt ex kq0 kq1 hsz hq0 hq1 hq2 HHD
  go_enter Tryz.func18, Tryz.ntmps18
  go_wp2_with fail
  refine HAR.mono ?_
  rintro e w1 ⟨q, m, mc, rs, rfl, hm, hrow, harg, hb1⟩
  have HG1 : Hid (w.grownBy w1 (some gb)) := grownM_below gb hb1
  have HI1 : Hid (Below Wi.heap.size Wi w1) := HWI.out w1 HG1.out
  have hm0 : 0 < m := by rw [hm, trs_len]; omega
  obtain ⟨g, eg, hkid⟩ := args_tk (gb := gb) hrow hm harg HGS.out hm0
  subst eg
  have hm2 : m = 2 := by rw [hm, trs_len]; exact hcnt
  obtain ⟨r0, n0, c0, kc0, kt0⟩ := hkid 0 (by omega)
  have HK0 : Hid (∀ W, w1.grownBy W (some gb) → W.cell? ⟨g, 0, none⟩ = some (.slice r0 n0 c0)) := kc0
  have HT0 : Hid (TI Wi r0 n0 c0 (kidG t 0)) := kt0
  obtain ⟨r1, n1, c1, kc1, kt1⟩ := hkid 1 (by omega)
  have HK1 : Hid (∀ W, w1.grownBy W (some gb) → W.cell? ⟨g, 1, none⟩ = some (.slice r1 n1 c1)) := kc1
  have HT1 : Hid (TI Wi r1 n1 c1 (kidG t 1)) := kt1
  clear hkid kc0 kt0 kc1 kt1
  have HM1 : Hid (GMm w1 gb st) := HGM.out w1 hb1
  clear hm hrow harg hb1 HAR hcnt HGM hm0
  subst hm2
  go_wp2_with fail
  refine (HQ0.out w1 HI1.out).mono ?_
  rintro e wq ⟨rfl, ew⟩
  rw [ew]
  clear ew HQ0
  go_wp2_with fail
  refine (HQ1.out w1 HI1.out).mono ?_
  rintro e wq ⟨rfl, ew⟩
  rw [ew]
  clear ew HQ1
  go_wp2_with fail
  refine (HQ2.out w1 HI1.out).mono ?_
  rintro e wq ⟨rfl, ew⟩
  rw [ew]
  clear ew HQ2
  have f0 := HK0.out w1 (grown_refl _ _)
  go_wp2_with fail
  refine (HP0.out w1 r0 n0 c0 HG1.out HT0.out HM1.out).mono ?_
  rintro e w3 ⟨qa, ma, ca', rfl, tka, gm3, gr3⟩
  have HA3 : Hid (TK w3 gb qa ma ca' (gPh nilT f (kidG t 0) a b st).1) := tka
  have HG3 : Hid (w1.grownBy w3 (some gb)) := gr3
  have HS3 : Hid (GMm w3 gb (gPh nilT f (kidG t 0) a b st).2) := gm3
  have f1 := HK1.out w3 HG3.out
  clear tka gm3 gr3 HP0 f0 HM1
  go_wp2_with fail
  refine (HP1.out w3 r1 n1 c1 (grown_trans HG1.out HG3.out) HT1.out HS3.out).mono ?_
  rintro e w4 ⟨qb, mb, cb', rfl, tkb, gm4, gr4⟩
  have HG4 : Hid (w1.grownBy w4 (some gb)) := grown_trans HG3.out gr4
  have H5 := HPA.out w4 qa qb ma mb ca' cb' (HA3.out.move gr4) tkb gm4
  clear tkb gm4 gr4 HP1 HPA f1
  go_wp2_with fail
  refine (H5).mono ?_
  rintro e wz hh
  have HG : Hid _ := HF.out _ _ (hh.from (grown_trans HG1.out HG4.out))
  obtain ⟨qz, mz, cz, rfl, _⟩ := hh
  clear HF
  go_wp2_with fail
  exact HG.out
set_option maxRecDepth 100000 in
set_option maxHeartbeats 1000000 in
theorem phrase_not (gb : Nat) (Wi : World) (f : Nat) (t : Tr) (p : Option Addr) (n c : Nat) (pa pb : Option Addr) (ca cb : Nat) (a b : Int) (st : GSt) (w : World) (ht : t.fo.ok) (hf : (itC t).length ≤ f + 1) (hl : (itC t).length ≤ 2000) (hti : TI Wi p n c t) (hW : Below Wi.heap.size Wi w) (hgi : Wi.heap.size ≤ gb) (hka : TK w gb pa 1 ca (vT a)) (hkb : TK w gb pb 1 cb (vT b)) (ha : 0 ≤ a ∧ a ≤ 1100000) (hb : 0 ≤ b ∧ b ≤ 1100000) (h0 : 0 ≤ st.1) (h1 : st.1 + (itC t).length ≤ 1100000) (hg : GMm w gb st) (kz : ¬ t.1.1 = 0) (ko : ¬ t.1.1 = 1) (kcComma : ¬ t.1 = cComma) (kcThen : ¬ t.1 = cThen) (kcOr : ¬ t.1 = cOr) (kcNot : t.1 = cNot) (ih : PhM gb Wi f) :
    Calls Tryz.prog 18 #[.pointer (some ⟨gb, 0, none⟩), .slice p n c, .slice pa 1 ca, .slice pb 1 cb] w (GOutM w gb (gPh nilT (f + 1) t a b st)) := by
  have hnl : n ≤ 2000 := by rw [hti.1]; simp only [itC, List.length_cons] at hl; omega
  have hn0 : 0 < n := by have := hti.1; omega
  have hlt : gb < w.heap.size := World.block_lt_of_cell? _ _ hg.c0
  have EQ : gPh nilT (f + 1) t a b st = (cmpT [44] [cmpT [92, 43] [(gPh nilT f (kidG t 0) a st.1 (st.1 + 1, st.2)).1], eqV a b], (gPh nilT f (kidG t 0) a st.1 (st.1 + 1, st.2)).2) := by simp only [gPh, if_neg kz, if_neg ko, if_neg (show ¬ (t.1 = cComma ∨ t.1 = cThen) from fun h => h.elim kcComma kcThen), if_neg kcOr, if_pos kcNot]
  rw [EQ]
  have HAR := l2argsG_any hti hW hnl ht
  have hcnt : t.2.count = 1 := count_of ht (n := 1) kcNot
  have kq0 := kid_ok ht (i := 0) (by omega)
  have hsz : (itC t).length = ((trs t.2).flatMap itC).length + 1 := by rw [trs_cells]; simp [itC]
  rw [one_kid hcnt] at hsz
  simp only [List.flatMap_cons, List.flatMap_nil, List.length_append, List.length_nil] at hsz
  have hq0 : decide (t.1 = cComma) = false := by simpa using kcComma
  have HQ0 : Hid (∀ W, Below Wi.heap.size Wi W → Calls Tryz.prog 13 #[.slice p n c, .string ⟨#[44]⟩, .int .i64 2] W fun e w' => e = .returned (.bool false) ∧ w' = W) := fun W hB => by
    have h8 : Calls Tryz.prog 13 #[.slice p n c, .string ⟨#[44]⟩, .int .i64 2] W fun e w' => e = .returned (.bool (decide (t.1 = cComma))) ∧ w' = W := isP_any (hti.below hB) ht.2.1 [44] 2 (by decide)
    rw [hq0] at h8; exact h8
  have hq1 : decide (t.1 = cThen) = false := by simpa using kcThen
  have HQ1 : Hid (∀ W, Below Wi.heap.size Wi W → Calls Tryz.prog 13 #[.slice p n c, .string ⟨#[45, 62]⟩, .int .i64 2] W fun e w' => e = .returned (.bool false) ∧ w' = W) := fun W hB => by
    have h8 : Calls Tryz.prog 13 #[.slice p n c, .string ⟨#[45, 62]⟩, .int .i64 2] W fun e w' => e = .returned (.bool (decide (t.1 = cThen))) ∧ w' = W := isP_any (hti.below hB) ht.2.1 [45, 62] 2 (by decide)
    rw [hq1] at h8; exact h8
  have hq2 : decide (t.1 = cOr) = false := by simpa using kcOr
  have HQ2 : Hid (∀ W, Below Wi.heap.size Wi W → Calls Tryz.prog 13 #[.slice p n c, .string ⟨#[59]⟩, .int .i64 2] W fun e w' => e = .returned (.bool false) ∧ w' = W) := fun W hB => by
    have h8 : Calls Tryz.prog 13 #[.slice p n c, .string ⟨#[59]⟩, .int .i64 2] W fun e w' => e = .returned (.bool (decide (t.1 = cOr))) ∧ w' = W := isP_any (hti.below hB) ht.2.1 [59] 2 (by decide)
    rw [hq2] at h8; exact h8
  have hq3 : decide (t.1 = cNot) = true := by simpa using kcNot
  have HQ3 : Hid (∀ W, Below Wi.heap.size Wi W → Calls Tryz.prog 13 #[.slice p n c, .string ⟨#[92, 43]⟩, .int .i64 1] W fun e w' => e = .returned (.bool true) ∧ w' = W) := fun W hB => by
    have h8 : Calls Tryz.prog 13 #[.slice p n c, .string ⟨#[92, 43]⟩, .int .i64 1] W fun e w' => e = .returned (.bool (decide (t.1 = cNot))) ∧ w' = W := isP_any (hti.below hB) ht.2.1 [92, 43] 1 (by decide)
    rw [hq3] at h8; exact h8
  have HWI : Hid (∀ W, w.grownBy W (some gb) → Below Wi.heap.size Wi W) := fun W hW' => below_in hW hW' hgi
  have G0 := gPh_ok nilT_ok f (kidG t 0) a st.1 (st.1 + 1, st.2) kq0.1 (by omega) ha ⟨h0, by omega⟩ (by show 0 ≤ st.1 + 1; omega) (by show st.1 + 1 + _ ≤ _; omega)
  have eE : strOfNums [61] = ⟨#[61]⟩ := rfl
  have eK : strOfNums [44] = ⟨#[44]⟩ := rfl
  have HGM : Hid (∀ W, Below w.heap.size w W → GMm W gb st) := fun W hW' => hg.below hW'
  have HSA : Hid (∀ W, w.grownBy W (some gb) → GMm W gb st → Calls Tryz.prog 19 #[.string ⟨#[61]⟩, .slice pa 1 ca, .slice pb 1 cb] W (GOutM W gb (eqV a b, st))) := fun W hG hS => by
    have h8 := pair_tk gb [61] (byte_small (by decide)) (vT a) (vT b) (fit_vT ha) (fit_vT hb) pa pb 1 1 ca cb st W (hka.move hG) (hkb.move hG) hS
    rw [eE] at h8; exact h8
  have eN : strOfNums [92, 43] = ⟨#[92, 43]⟩ := rfl
  have HNW : Hid (∀ W, GMm W gb st → Calls Tryz.prog 16 #[.pointer (some ⟨gb, 0, none⟩)] W (GOutM W gb (vT st.1, (st.1 + 1, st.2)))) := fun W hG => l8new_any gb st W hG (by omega)
  have HP0 : Hid (∀ (W : World) (r : Option Addr) (nr cr : Nat) (pm : Option Addr) (cm : Nat), w.grownBy W (some gb) → TI Wi r nr cr (kidG t 0) → TK W gb pm 1 cm (vT st.1) → GMm W gb (st.1 + 1, st.2) → Calls Tryz.prog 18 #[.pointer (some ⟨gb, 0, none⟩), .slice r nr cr, .slice pa 1 ca, .slice pm 1 cm] W (GOutM W gb (gPh nilT f (kidG t 0) a st.1 (st.1 + 1, st.2)))) := fun W r nr cr pm cm hG hT hM hS =>
    ih (kidG t 0) r nr cr pa pm ca cm a st.1 (st.1 + 1, st.2) W kq0.1 (by omega) (by omega) hT (below_in hW hG hgi) (hka.move hG) hM ha ⟨h0, by omega⟩ (by show 0 ≤ st.1 + 1; omega) (by show st.1 + 1 + _ ≤ _; omega) hS
  have HON : Hid (∀ (W : World) (r1 : Option Addr) (n1 c1 : Nat), TK W gb r1 n1 c1 (gPh nilT f (kidG t 0) a st.1 (st.1 + 1, st.2)).1 → GMm W gb (gPh nilT f (kidG t 0) a st.1 (st.1 + 1, st.2)).2 → Calls Tryz.prog 36 #[.string ⟨#[92, 43]⟩, .slice (some ⟨W.heap.size, 0, none⟩) 1 1] (W.alloc (.cells #[.slice r1 n1 c1] 24)) (GOutM W gb (cmpT [92, 43] [(gPh nilT f (kidG t 0) a st.1 (st.1 + 1, st.2)).1], (gPh nilT f (kidG t 0) a st.1 (st.1 + 1, st.2)).2))) := fun W r1 n1 c1 h1 h3 => by
    have h8 := one_tk gb [92, 43] (byte_small (by decide)) _ (fit_g G0 (by omega)) r1 n1 c1 _ W h1 h3
    rw [eN] at h8; exact h8
  have HPA : Hid (∀ (W : World) (r1 r2 : Option Addr) (n1 n2 c1 c2 : Nat), TK W gb r1 n1 c1 (cmpT [92, 43] [(gPh nilT f (kidG t 0) a st.1 (st.1 + 1, st.2)).1]) → TK W gb r2 n2 c2 (eqV a b) → GMm W gb (gPh nilT f (kidG t 0) a st.1 (st.1 + 1, st.2)).2 → Calls Tryz.prog 19 #[.string ⟨#[44]⟩, .slice r1 n1 c1, .slice r2 n2 c2] W (GOutM W gb (cmpT [44] [cmpT [92, 43] [(gPh nilT f (kidG t 0) a st.1 (st.1 + 1, st.2)).1], eqV a b], (gPh nilT f (kidG t 0) a st.1 (st.1 + 1, st.2)).2))) := fun W r1 r2 n1 n2 c1 c2 h1 h2 h3 => by
    have h8 := pair_tk gb [44] (byte_small (by decide)) (cmpT [92, 43] [(gPh nilT f (kidG t 0) a st.1 (st.1 + 1, st.2)).1]) (eqV a b) ⟨cmpT_okG (byte_small (by decide)) (by decide) (by simp) (by simp) (fun y hy => by have e : y = (gPh nilT f (kidG t 0) a st.1 (st.1 + 1, st.2)).1 := (by simpa using hy); rw [e]; exact G0.ok), by rw [cmpT_cells]; have := G0.len; simp; omega⟩ (fit_eqV ha hb) r1 r2 n1 n2 c1 c2 _ W h1 h2 h3
    rw [eK] at h8; exact h8
  clear G0 ih eE eK eN
  obtain ⟨P, eP⟩ : ∃ P, P = GOutM w gb (cmpT [44] [cmpT [92, 43] [(gPh nilT f (kidG t 0) a st.1 (st.1 + 1, st.2)).1], eqV a b], (gPh nilT f (kidG t 0) a st.1 (st.1 + 1, st.2)).2) := ⟨_, rfl⟩
  have HF : Hid (∀ e w', GOutM w gb (cmpT [44] [cmpT [92, 43] [(gPh nilT f (kidG t 0) a st.1 (st.1 + 1, st.2)).1], eqV a b], (gPh nilT f (kidG t 0) a st.1 (st.1 + 1, st.2)).2) e w' → P e w') := fun e w' h => by rw [eP]; exact h
  rw [← eP]
  obtain ⟨b0, o0, q1, qc, ep, d0, d1, d2, d3⟩ := (hti.below hW).head
  have HHD : Hid (∀ W, w.grownBy W (some gb) → W.cell? ⟨b0, o0 + 2, none⟩ = some (.slice q1 t.1.2.2.length qc) ∧ (convert 32 9 (.slice q1 t.1.2.2.length qc)).run Tryz.prog W = .ok (.string (strOfNums t.1.2.2)) W) := fun W hW' => by
    obtain ⟨b9, o9, q9, qc9, ep9, _, _, d92, d93⟩ := (hti.below (below_in hW hW' hgi)).head
    rw [ep] at ep9
    cases ep9
    obtain ⟨b8, o8, q8, qc8, ep8, _, _, d82, d83⟩ := hti.head
    rw [ep] at ep8
    cases ep8
    have h8 := ((hW.cell (World.block_lt_of_cell? _ _ d82)).trans d82).symm.trans d2
    injection h8 with h8
    injection h8 with h81 h82 h83
    subst h81 h83
    exact ⟨((below_in hW hW' hgi).cell (World.block_lt_of_cell? _ _ d82)).trans d82, conv_str (d83.below (below_in hW hW' hgi)) _ qc8 rfl 9 Tryz.underlying9⟩
  subst ep
  obtain ⟨x, ex⟩ : ∃ x, x = t.1.1 := ⟨_, rfl⟩
  rw [← ex] at d0 kz ko
  have kzb : (x == 0) = false := by simpa using kz
  have kob : (x == 1) = false := by simpa using ko
  have HGS : Hid (gb < w.heap.size) := hlt
  clear ht hf hl hti hW hgi hka hkb ha hb h0 h1 hg d1 d2 d3 EQ eP hlt ex kq0 hsz hq0 hq1 hq2 hq3 HHD
  go_enter Tryz.func18, Tryz.ntmps18
  go_wp2_with fail
  refine HAR.mono ?_
  rintro e w1 ⟨q, m, mc, rs, rfl, hm, hrow, harg, hb1⟩
  have HG1 : Hid (w.grownBy w1 (some gb)) := grownM_below gb hb1
  have HI1 : Hid (Below Wi.heap.size Wi w1) := HWI.out w1 HG1.out
  have hm0 : 0 < m := by rw [hm, trs_len]; omega
  obtain ⟨g, eg, hkid⟩ := args_tk (gb := gb) hrow hm harg HGS.out hm0
  subst eg
  have hm1 : m = 1 := by rw [hm, trs_len]; exact hcnt
  obtain ⟨r0, n0, c0, kc0, kt0⟩ := hkid 0 (by omega)
  have HK0 : Hid (∀ W, w1.grownBy W (some gb) → W.cell? ⟨g, 0, none⟩ = some (.slice r0 n0 c0)) := kc0
  have HT0 : Hid (TI Wi r0 n0 c0 (kidG t 0)) := kt0
  clear hkid kc0 kt0
  have HM1 : Hid (GMm w1 gb st) := HGM.out w1 hb1
  clear hm hrow harg hb1 HAR hcnt HGM hm0
  subst hm1
  go_wp2_with fail
  refine (HQ0.out w1 HI1.out).mono ?_
  rintro e wq ⟨rfl, ew⟩
  rw [ew]
  clear ew HQ0
  go_wp2_with fail
  refine (HQ1.out w1 HI1.out).mono ?_
  rintro e wq ⟨rfl, ew⟩
  rw [ew]
  clear ew HQ1
  go_wp2_with fail
  refine (HQ2.out w1 HI1.out).mono ?_
  rintro e wq ⟨rfl, ew⟩
  rw [ew]
  clear ew HQ2
  go_wp2_with fail
  refine (HSA.out w1 HG1.out HM1.out).mono ?_
  rintro e w2 ⟨qs, ms, cs', rfl, tks, gm2, gr2⟩
  have HS2 : Hid (TK w2 gb qs ms cs' (eqV a b)) := tks
  have HG2 : Hid (w1.grownBy w2 (some gb)) := gr2
  have HM2 : Hid (GMm w2 gb st) := gm2
  have HI2 : Hid (Below Wi.heap.size Wi w2) := HWI.out w2 (grown_trans HG1.out HG2.out)
  clear tks gm2 gr2 HSA HM1
  go_wp2_with fail
  refine (HQ3.out w2 HI2.out).mono ?_
  rintro e wq ⟨rfl, ew⟩
  rw [ew]
  clear ew HQ3
  go_wp2_with fail
  refine (HNW.out w2 HM2.out).mono ?_
  rintro e w3 ⟨pm, mm, cm, rfl, tkm, gm3, gr3⟩
  obtain rfl : mm = 1 := tkm.1
  have HM3 : Hid (TK w3 gb pm 1 cm (vT st.1)) := tkm
  have HG3 : Hid (w1.grownBy w3 (some gb)) := grown_trans HG2.out gr3
  have HC3 : Hid (GMm w3 gb (st.1 + 1, st.2)) := gm3
  have HS3 : Hid (TK w3 gb qs ms cs' (eqV a b)) := HS2.out.move gr3
  have f0 := HK0.out w3 HG3.out
  clear tkm gm3 gr3 HNW HM2 HS2
  go_wp2_with fail
  refine (HP0.out w3 r0 n0 c0 pm cm (grown_trans HG1.out HG3.out) HT0.out HM3.out HC3.out).mono ?_
  rintro e w4 ⟨qa, ma, ca', rfl, tka, gm4, gr4⟩
  have HG4 : Hid (w1.grownBy w4 (some gb)) := grown_trans HG3.out gr4
  have HS4 : Hid (TK w4 gb qs ms cs' (eqV a b)) := HS3.out.move gr4
  have H5 := HON.out w4 qa ma ca' tka gm4
  clear tka gm4 gr4 HP0 f0 HM3 HC3 HS3 HON
  go_wp2_with fail
  refine H5.mono ?_
  rintro e w5 ⟨qn, mn, cn', rfl, tkn, gm5, gr5⟩
  have HG5 : Hid (w1.grownBy w5 (some gb)) := grown_trans HG4.out gr5
  have H6 := HPA.out w5 qn qs mn ms cn' cs' tkn (HS4.out.move gr5) gm5
  clear tkn gm5 gr5 H5 HPA
  go_wp2_with fail
  refine (H6).mono ?_
  rintro e wz hh
  have HG : Hid _ := HF.out _ _ (hh.from (grown_trans HG1.out HG5.out))
  obtain ⟨qz, mz, cz, rfl, _⟩ := hh
  clear HF
  go_wp2_with fail
  exact HG.out
set_option maxRecDepth 100000 in
set_option maxHeartbeats 1000000 in
theorem phrase_cut (gb : Nat) (Wi : World) (f : Nat) (t : Tr) (p : Option Addr) (n c : Nat) (pa pb : Option Addr) (ca cb : Nat) (a b : Int) (st : GSt) (w : World) (ht : t.fo.ok) (hf : (itC t).length ≤ f + 1) (hl : (itC t).length ≤ 2000) (hti : TI Wi p n c t) (hW : Below Wi.heap.size Wi w) (hgi : Wi.heap.size ≤ gb) (hka : TK w gb pa 1 ca (vT a)) (hkb : TK w gb pb 1 cb (vT b)) (ha : 0 ≤ a ∧ a ≤ 1100000) (hb : 0 ≤ b ∧ b ≤ 1100000) (h0 : 0 ≤ st.1) (h1 : st.1 + (itC t).length ≤ 1100000) (hg : GMm w gb st) (kz : ¬ t.1.1 = 0) (ko : ¬ t.1.1 = 1) (kcComma : ¬ t.1 = cComma) (kcThen : ¬ t.1 = cThen) (kcOr : ¬ t.1 = cOr) (kcNot : ¬ t.1 = cNot) (kcCut : t.1 = cCut) :
    Calls Tryz.prog 18 #[.pointer (some ⟨gb, 0, none⟩), .slice p n c, .slice pa 1 ca, .slice pb 1 cb] w (GOutM w gb (gPh nilT (f + 1) t a b st)) := by
  have hnl : n ≤ 2000 := by rw [hti.1]; simp only [itC, List.length_cons] at hl; omega
  have hn0 : 0 < n := by have := hti.1; omega
  have hlt : gb < w.heap.size := World.block_lt_of_cell? _ _ hg.c0
  have EQ : gPh nilT (f + 1) t a b st = (cmpT [44] [t, eqV a b], st) := by simp only [gPh, if_neg kz, if_neg ko, if_neg (show ¬ (t.1 = cComma ∨ t.1 = cThen) from fun h => h.elim kcComma kcThen), if_neg kcOr, if_neg kcNot, if_pos kcCut]
  rw [EQ]
  have HAR := l2argsG_any hti hW hnl ht
  have hq0 : decide (t.1 = cComma) = false := by simpa using kcComma
  have HQ0 : Hid (∀ W, Below Wi.heap.size Wi W → Calls Tryz.prog 13 #[.slice p n c, .string ⟨#[44]⟩, .int .i64 2] W fun e w' => e = .returned (.bool false) ∧ w' = W) := fun W hB => by
    have h8 : Calls Tryz.prog 13 #[.slice p n c, .string ⟨#[44]⟩, .int .i64 2] W fun e w' => e = .returned (.bool (decide (t.1 = cComma))) ∧ w' = W := isP_any (hti.below hB) ht.2.1 [44] 2 (by decide)
    rw [hq0] at h8; exact h8
  have hq1 : decide (t.1 = cThen) = false := by simpa using kcThen
  have HQ1 : Hid (∀ W, Below Wi.heap.size Wi W → Calls Tryz.prog 13 #[.slice p n c, .string ⟨#[45, 62]⟩, .int .i64 2] W fun e w' => e = .returned (.bool false) ∧ w' = W) := fun W hB => by
    have h8 : Calls Tryz.prog 13 #[.slice p n c, .string ⟨#[45, 62]⟩, .int .i64 2] W fun e w' => e = .returned (.bool (decide (t.1 = cThen))) ∧ w' = W := isP_any (hti.below hB) ht.2.1 [45, 62] 2 (by decide)
    rw [hq1] at h8; exact h8
  have hq2 : decide (t.1 = cOr) = false := by simpa using kcOr
  have HQ2 : Hid (∀ W, Below Wi.heap.size Wi W → Calls Tryz.prog 13 #[.slice p n c, .string ⟨#[59]⟩, .int .i64 2] W fun e w' => e = .returned (.bool false) ∧ w' = W) := fun W hB => by
    have h8 : Calls Tryz.prog 13 #[.slice p n c, .string ⟨#[59]⟩, .int .i64 2] W fun e w' => e = .returned (.bool (decide (t.1 = cOr))) ∧ w' = W := isP_any (hti.below hB) ht.2.1 [59] 2 (by decide)
    rw [hq2] at h8; exact h8
  have hq3 : decide (t.1 = cNot) = false := by simpa using kcNot
  have HQ3 : Hid (∀ W, Below Wi.heap.size Wi W → Calls Tryz.prog 13 #[.slice p n c, .string ⟨#[92, 43]⟩, .int .i64 1] W fun e w' => e = .returned (.bool false) ∧ w' = W) := fun W hB => by
    have h8 : Calls Tryz.prog 13 #[.slice p n c, .string ⟨#[92, 43]⟩, .int .i64 1] W fun e w' => e = .returned (.bool (decide (t.1 = cNot))) ∧ w' = W := isP_any (hti.below hB) ht.2.1 [92, 43] 1 (by decide)
    rw [hq3] at h8; exact h8
  have hq4 : decide (t.1 = cCut) = true := by simpa using kcCut
  have HQ4 : Hid (∀ W, Below Wi.heap.size Wi W → Calls Tryz.prog 13 #[.slice p n c, .string ⟨#[33]⟩, .int .i64 0] W fun e w' => e = .returned (.bool true) ∧ w' = W) := fun W hB => by
    have h8 : Calls Tryz.prog 13 #[.slice p n c, .string ⟨#[33]⟩, .int .i64 0] W fun e w' => e = .returned (.bool (decide (t.1 = cCut))) ∧ w' = W := isZ_any (hti.below hB) ht.2.1 ht.1 [33]
    rw [hq4] at h8; exact h8
  have HWI : Hid (∀ W, w.grownBy W (some gb) → Below Wi.heap.size Wi W) := fun W hW' => below_in hW hW' hgi
  have eE : strOfNums [61] = ⟨#[61]⟩ := rfl
  have eK : strOfNums [44] = ⟨#[44]⟩ := rfl
  have HGM : Hid (∀ W, Below w.heap.size w W → GMm W gb st) := fun W hW' => hg.below hW'
  have HSA : Hid (∀ W, w.grownBy W (some gb) → GMm W gb st → Calls Tryz.prog 19 #[.string ⟨#[61]⟩, .slice pa 1 ca, .slice pb 1 cb] W (GOutM W gb (eqV a b, st))) := fun W hG hS => by
    have h8 := pair_tk gb [61] (byte_small (by decide)) (vT a) (vT b) (fit_vT ha) (fit_vT hb) pa pb 1 1 ca cb st W (hka.move hG) (hkb.move hG) hS
    rw [eE] at h8; exact h8
  have HPA : Hid (∀ (W : World) (r2 : Option Addr) (n2 c2 : Nat), w.grownBy W (some gb) → TK W gb r2 n2 c2 (eqV a b) → GMm W gb st → Calls Tryz.prog 19 #[.string ⟨#[44]⟩, .slice p n c, .slice r2 n2 c2] W (GOutM W gb (cmpT [44] [t, eqV a b], st))) := fun W r2 n2 c2 hG h2 h3 => by
    have h8 := pair_tk gb [44] (byte_small (by decide)) t (eqV a b) (fit_of ht hl) (fit_eqV ha hb) p r2 n n2 c c2 st W ⟨by rw [hti.1]; simp [itC], hti.2.1, hti.2.2.1, fun V hV => hti.2.2.2.below (below_in hW (grown_trans hG hV) hgi)⟩ h2 h3
    rw [eK] at h8; exact h8
  clear eE eK
  obtain ⟨P, eP⟩ : ∃ P, P = GOutM w gb (cmpT [44] [t, eqV a b], st) := ⟨_, rfl⟩
  have HF : Hid (∀ e w', GOutM w gb (cmpT [44] [t, eqV a b], st) e w' → P e w') := fun e w' h => by rw [eP]; exact h
  rw [← eP]
  obtain ⟨b0, o0, q1, qc, ep, d0, d1, d2, d3⟩ := (hti.below hW).head
  have HHD : Hid (∀ W, w.grownBy W (some gb) → W.cell? ⟨b0, o0 + 2, none⟩ = some (.slice q1 t.1.2.2.length qc) ∧ (convert 32 9 (.slice q1 t.1.2.2.length qc)).run Tryz.prog W = .ok (.string (strOfNums t.1.2.2)) W) := fun W hW' => by
    obtain ⟨b9, o9, q9, qc9, ep9, _, _, d92, d93⟩ := (hti.below (below_in hW hW' hgi)).head
    rw [ep] at ep9
    cases ep9
    obtain ⟨b8, o8, q8, qc8, ep8, _, _, d82, d83⟩ := hti.head
    rw [ep] at ep8
    cases ep8
    have h8 := ((hW.cell (World.block_lt_of_cell? _ _ d82)).trans d82).symm.trans d2
    injection h8 with h8
    injection h8 with h81 h82 h83
    subst h81 h83
    exact ⟨((below_in hW hW' hgi).cell (World.block_lt_of_cell? _ _ d82)).trans d82, conv_str (d83.below (below_in hW hW' hgi)) _ qc8 rfl 9 Tryz.underlying9⟩
  subst ep
  obtain ⟨x, ex⟩ : ∃ x, x = t.1.1 := ⟨_, rfl⟩
  rw [← ex] at d0 kz ko
  have kzb : (x == 0) = false := by simpa using kz
  have kob : (x == 1) = false := by simpa using ko
  have HGS : Hid (gb < w.heap.size) := hlt
  clear ht hf hl hti hW hgi hka hkb ha hb h0 h1 hg d1 d2 d3 EQ eP hlt ex hq0 hq1 hq2 hq3 hq4 HHD
  go_enter Tryz.func18, Tryz.ntmps18
  go_wp2_with fail
  refine HAR.mono ?_
  rintro e w1 ⟨q, m, mc, rs, rfl, hm, hrow, harg, hb1⟩
  have HG1 : Hid (w.grownBy w1 (some gb)) := grownM_below gb hb1
  have HI1 : Hid (Below Wi.heap.size Wi w1) := HWI.out w1 HG1.out
  have HM1 : Hid (GMm w1 gb st) := HGM.out w1 hb1
  clear hm hrow harg hb1 HAR HGM
  go_wp2_with fail
  refine (HQ0.out w1 HI1.out).mono ?_
  rintro e wq ⟨rfl, ew⟩
  rw [ew]
  clear ew HQ0
  go_wp2_with fail
  refine (HQ1.out w1 HI1.out).mono ?_
  rintro e wq ⟨rfl, ew⟩
  rw [ew]
  clear ew HQ1
  go_wp2_with fail
  refine (HQ2.out w1 HI1.out).mono ?_
  rintro e wq ⟨rfl, ew⟩
  rw [ew]
  clear ew HQ2
  go_wp2_with fail
  refine (HSA.out w1 HG1.out HM1.out).mono ?_
  rintro e w2 ⟨qs, ms, cs', rfl, tks, gm2, gr2⟩
  have HS2 : Hid (TK w2 gb qs ms cs' (eqV a b)) := tks
  have HG2 : Hid (w1.grownBy w2 (some gb)) := gr2
  have HM2 : Hid (GMm w2 gb st) := gm2
  have HI2 : Hid (Below Wi.heap.size Wi w2) := HWI.out w2 (grown_trans HG1.out HG2.out)
  clear tks gm2 gr2 HSA HM1
  go_wp2_with fail
  refine (HQ3.out w2 HI2.out).mono ?_
  rintro e wq ⟨rfl, ew⟩
  rw [ew]
  clear ew HQ3
  go_wp2_with fail
  refine (HQ4.out w2 HI2.out).mono ?_
  rintro e wq ⟨rfl, ew⟩
  rw [ew]
  clear ew HQ4
  have H5 := HPA.out w2 qs ms cs' (grown_trans HG1.out HG2.out) HS2.out HM2.out
  go_wp2_with fail
  refine (H5).mono ?_
  rintro e wz hh
  have HG : Hid _ := HF.out _ _ (hh.from (grown_trans HG1.out HG2.out))
  obtain ⟨qz, mz, cz, rfl, _⟩ := hh
  clear HF
  go_wp2_with fail
  exact HG.out
set_option maxRecDepth 100000 in
set_option maxHeartbeats 1000000 in
theorem phrase_curly (gb : Nat) (Wi : World) (f : Nat) (t : Tr) (p : Option Addr) (n c : Nat) (pa pb : Option Addr) (ca cb : Nat) (a b : Int) (st : GSt) (w : World) (ht : t.fo.ok) (hf : (itC t).length ≤ f + 1) (hl : (itC t).length ≤ 2000) (hti : TI Wi p n c t) (hW : Below Wi.heap.size Wi w) (hgi : Wi.heap.size ≤ gb) (hka : TK w gb pa 1 ca (vT a)) (hkb : TK w gb pb 1 cb (vT b)) (ha : 0 ≤ a ∧ a ≤ 1100000) (hb : 0 ≤ b ∧ b ≤ 1100000) (h0 : 0 ≤ st.1) (h1 : st.1 + (itC t).length ≤ 1100000) (hg : GMm w gb st) (kz : ¬ t.1.1 = 0) (ko : ¬ t.1.1 = 1) (kcComma : ¬ t.1 = cComma) (kcThen : ¬ t.1 = cThen) (kcOr : ¬ t.1 = cOr) (kcNot : ¬ t.1 = cNot) (kcCut : ¬ t.1 = cCut) (kcCurly : t.1 = cCurly) :
    Calls Tryz.prog 18 #[.pointer (some ⟨gb, 0, none⟩), .slice p n c, .slice pa 1 ca, .slice pb 1 cb] w (GOutM w gb (gPh nilT (f + 1) t a b st)) := by
  have hnl : n ≤ 2000 := by rw [hti.1]; simp only [itC, List.length_cons] at hl; omega
  have hn0 : 0 < n := by have := hti.1; omega
  have hlt : gb < w.heap.size := World.block_lt_of_cell? _ _ hg.c0
  have EQ : gPh nilT (f + 1) t a b st = (cmpT [44] [kidG t 0, eqV a b], st) := by simp only [gPh, if_neg kz, if_neg ko, if_neg (show ¬ (t.1 = cComma ∨ t.1 = cThen) from fun h => h.elim kcComma kcThen), if_neg kcOr, if_neg kcNot, if_neg kcCut, if_pos kcCurly]
  rw [EQ]
  have HAR := l2argsG_any hti hW hnl ht
  have hcnt : t.2.count = 1 := count_of ht (n := 1) kcCurly
  have kq0 := kid_ok ht (i := 0) (by omega)
  have hsz : (itC t).length = ((trs t.2).flatMap itC).length + 1 := by rw [trs_cells]; simp [itC]
  rw [one_kid hcnt] at hsz
  simp only [List.flatMap_cons, List.flatMap_nil, List.length_append, List.length_nil] at hsz
  have hq0 : decide (t.1 = cComma) = false := by simpa using kcComma
  have HQ0 : Hid (∀ W, Below Wi.heap.size Wi W → Calls Tryz.prog 13 #[.slice p n c, .string ⟨#[44]⟩, .int .i64 2] W fun e w' => e = .returned (.bool false) ∧ w' = W) := fun W hB => by
    have h8 : Calls Tryz.prog 13 #[.slice p n c, .string ⟨#[44]⟩, .int .i64 2] W fun e w' => e = .returned (.bool (decide (t.1 = cComma))) ∧ w' = W := isP_any (hti.below hB) ht.2.1 [44] 2 (by decide)
    rw [hq0] at h8; exact h8
  have hq1 : decide (t.1 = cThen) = false := by simpa using kcThen
  have HQ1 : Hid (∀ W, Below Wi.heap.size Wi W → Calls Tryz.prog 13 #[.slice p n c, .string ⟨#[45, 62]⟩, .int .i64 2] W fun e w' => e = .returned (.bool false) ∧ w' = W) := fun W hB => by
    have h8 : Calls Tryz.prog 13 #[.slice p n c, .string ⟨#[45, 62]⟩, .int .i64 2] W fun e w' => e = .returned (.bool (decide (t.1 = cThen))) ∧ w' = W := isP_any (hti.below hB) ht.2.1 [45, 62] 2 (by decide)
    rw [hq1] at h8; exact h8
  have hq2 : decide (t.1 = cOr) = false := by simpa using kcOr
  have HQ2 : Hid (∀ W, Below Wi.heap.size Wi W → Calls Tryz.prog 13 #[.slice p n c, .string ⟨#[59]⟩, .int .i64 2] W fun e w' => e = .returned (.bool false) ∧ w' = W) := fun W hB => by
    have h8 : Calls Tryz.prog 13 #[.slice p n c, .string ⟨#[59]⟩, .int .i64 2] W fun e w' => e = .returned (.bool (decide (t.1 = cOr))) ∧ w' = W := isP_any (hti.below hB) ht.2.1 [59] 2 (by decide)
    rw [hq2] at h8; exact h8
  have hq3 : decide (t.1 = cNot) = false := by simpa using kcNot
  have HQ3 : Hid (∀ W, Below Wi.heap.size Wi W → Calls Tryz.prog 13 #[.slice p n c, .string ⟨#[92, 43]⟩, .int .i64 1] W fun e w' => e = .returned (.bool false) ∧ w' = W) := fun W hB => by
    have h8 : Calls Tryz.prog 13 #[.slice p n c, .string ⟨#[92, 43]⟩, .int .i64 1] W fun e w' => e = .returned (.bool (decide (t.1 = cNot))) ∧ w' = W := isP_any (hti.below hB) ht.2.1 [92, 43] 1 (by decide)
    rw [hq3] at h8; exact h8
  have hq4 : decide (t.1 = cCut) = false := by simpa using kcCut
  have HQ4 : Hid (∀ W, Below Wi.heap.size Wi W → Calls Tryz.prog 13 #[.slice p n c, .string ⟨#[33]⟩, .int .i64 0] W fun e w' => e = .returned (.bool false) ∧ w' = W) := fun W hB => by
    have h8 : Calls Tryz.prog 13 #[.slice p n c, .string ⟨#[33]⟩, .int .i64 0] W fun e w' => e = .returned (.bool (decide (t.1 = cCut))) ∧ w' = W := isZ_any (hti.below hB) ht.2.1 ht.1 [33]
    rw [hq4] at h8; exact h8
  have hq5 : decide (t.1 = cCurly) = true := by simpa using kcCurly
  have HQ5 : Hid (∀ W, Below Wi.heap.size Wi W → Calls Tryz.prog 13 #[.slice p n c, .string ⟨#[123, 125]⟩, .int .i64 1] W fun e w' => e = .returned (.bool true) ∧ w' = W) := fun W hB => by
    have h8 : Calls Tryz.prog 13 #[.slice p n c, .string ⟨#[123, 125]⟩, .int .i64 1] W fun e w' => e = .returned (.bool (decide (t.1 = cCurly))) ∧ w' = W := isP_any (hti.below hB) ht.2.1 [123, 125] 1 (by decide)
    rw [hq5] at h8; exact h8
  have HWI : Hid (∀ W, w.grownBy W (some gb) → Below Wi.heap.size Wi W) := fun W hW' => below_in hW hW' hgi
  have eE : strOfNums [61] = ⟨#[61]⟩ := rfl
  have eK : strOfNums [44] = ⟨#[44]⟩ := rfl
  have HGM : Hid (∀ W, Below w.heap.size w W → GMm W gb st) := fun W hW' => hg.below hW'
  have HSA : Hid (∀ W, w.grownBy W (some gb) → GMm W gb st → Calls Tryz.prog 19 #[.string ⟨#[61]⟩, .slice pa 1 ca, .slice pb 1 cb] W (GOutM W gb (eqV a b, st))) := fun W hG hS => by
    have h8 := pair_tk gb [61] (byte_small (by decide)) (vT a) (vT b) (fit_vT ha) (fit_vT hb) pa pb 1 1 ca cb st W (hka.move hG) (hkb.move hG) hS
    rw [eE] at h8; exact h8
  have HPA : Hid (∀ (W : World) (r1 r2 : Option Addr) (n1 n2 c1 c2 : Nat), w.grownBy W (some gb) → TI Wi r1 n1 c1 (kidG t 0) → TK W gb r2 n2 c2 (eqV a b) → GMm W gb st → Calls Tryz.prog 19 #[.string ⟨#[44]⟩, .slice r1 n1 c1, .slice r2 n2 c2] W (GOutM W gb (cmpT [44] [kidG t 0, eqV a b], st))) := fun W r1 r2 n1 n2 c1 c2 hG h1 h2 h3 => by
    have h8 := pair_tk gb [44] (byte_small (by decide)) (kidG t 0) (eqV a b) (fit_of kq0.1 (by omega)) (fit_eqV ha hb) r1 r2 n1 n2 c1 c2 st W ⟨by rw [h1.1]; simp [itC], h1.2.1, h1.2.2.1, fun V hV => h1.2.2.2.below (below_in hW (grown_trans hG hV) hgi)⟩ h2 h3
    rw [eK] at h8; exact h8
  clear eE eK
  obtain ⟨P, eP⟩ : ∃ P, P = GOutM w gb (cmpT [44] [kidG t 0, eqV a b], st) := ⟨_, rfl⟩
  have HF : Hid (∀ e w', GOutM w gb (cmpT [44] [kidG t 0, eqV a b], st) e w' → P e w') := fun e w' h => by rw [eP]; exact h
  rw [← eP]
  obtain ⟨b0, o0, q1, qc, ep, d0, d1, d2, d3⟩ := (hti.below hW).head
  have HHD : Hid (∀ W, w.grownBy W (some gb) → W.cell? ⟨b0, o0 + 2, none⟩ = some (.slice q1 t.1.2.2.length qc) ∧ (convert 32 9 (.slice q1 t.1.2.2.length qc)).run Tryz.prog W = .ok (.string (strOfNums t.1.2.2)) W) := fun W hW' => by
    obtain ⟨b9, o9, q9, qc9, ep9, _, _, d92, d93⟩ := (hti.below (below_in hW hW' hgi)).head
    rw [ep] at ep9
    cases ep9
    obtain ⟨b8, o8, q8, qc8, ep8, _, _, d82, d83⟩ := hti.head
    rw [ep] at ep8
    cases ep8
    have h8 := ((hW.cell (World.block_lt_of_cell? _ _ d82)).trans d82).symm.trans d2
    injection h8 with h8
    injection h8 with h81 h82 h83
    subst h81 h83
    exact ⟨((below_in hW hW' hgi).cell (World.block_lt_of_cell? _ _ d82)).trans d82, conv_str (d83.below (below_in hW hW' hgi)) _ qc8 rfl 9 Tryz.underlying9⟩
  subst ep
  obtain ⟨x, ex⟩ : ∃ x, x = t.1.1 := ⟨_, rfl⟩
  rw [← ex] at d0 kz ko
  have kzb : (x == 0) = false := by simpa using kz
  have kob : (x == 1) = false := by simpa using ko
  have HGS : Hid (gb < w.heap.size) := hlt
  clear ht hf hl hti hW hgi hka hkb ha hb h0 h1 hg d1 d2 d3 EQ eP hlt ex kq0 hsz hq0 hq1 hq2 hq3 hq4 hq5 HHD
  go_enter Tryz.func18, Tryz.ntmps18
  go_wp2_with fail
  refine HAR.mono ?_
  rintro e w1 ⟨q, m, mc, rs, rfl, hm, hrow, harg, hb1⟩
  have HG1 : Hid (w.grownBy w1 (some gb)) := grownM_below gb hb1
  have HI1 : Hid (Below Wi.heap.size Wi w1) := HWI.out w1 HG1.out
  have hm0 : 0 < m := by rw [hm, trs_len]; omega
  obtain ⟨g, eg, hkid⟩ := args_tk (gb := gb) hrow hm harg HGS.out hm0
  subst eg
  have hm1 : m = 1 := by rw [hm, trs_len]; exact hcnt
  obtain ⟨r0, n0, c0, kc0, kt0⟩ := hkid 0 (by omega)
  have HK0 : Hid (∀ W, w1.grownBy W (some gb) → W.cell? ⟨g, 0, none⟩ = some (.slice r0 n0 c0)) := kc0
  have HT0 : Hid (TI Wi r0 n0 c0 (kidG t 0)) := kt0
  clear hkid kc0 kt0
  have HM1 : Hid (GMm w1 gb st) := HGM.out w1 hb1
  clear hm hrow harg hb1 HAR hcnt HGM hm0
  subst hm1
  go_wp2_with fail
  refine (HQ0.out w1 HI1.out).mono ?_
  rintro e wq ⟨rfl, ew⟩
  rw [ew]
  clear ew HQ0
  go_wp2_with fail
  refine (HQ1.out w1 HI1.out).mono ?_
  rintro e wq ⟨rfl, ew⟩
  rw [ew]
  clear ew HQ1
  go_wp2_with fail
  refine (HQ2.out w1 HI1.out).mono ?_
  rintro e wq ⟨rfl, ew⟩
  rw [ew]
  clear ew HQ2
  go_wp2_with fail
  refine (HSA.out w1 HG1.out HM1.out).mono ?_
  rintro e w2 ⟨qs, ms, cs', rfl, tks, gm2, gr2⟩
  have HS2 : Hid (TK w2 gb qs ms cs' (eqV a b)) := tks
  have HG2 : Hid (w1.grownBy w2 (some gb)) := gr2
  have HM2 : Hid (GMm w2 gb st) := gm2
  have HI2 : Hid (Below Wi.heap.size Wi w2) := HWI.out w2 (grown_trans HG1.out HG2.out)
  clear tks gm2 gr2 HSA HM1
  go_wp2_with fail
  refine (HQ3.out w2 HI2.out).mono ?_
  rintro e wq ⟨rfl, ew⟩
  rw [ew]
  clear ew HQ3
  go_wp2_with fail
  refine (HQ4.out w2 HI2.out).mono ?_
  rintro e wq ⟨rfl, ew⟩
  rw [ew]
  clear ew HQ4
  go_wp2_with fail
  refine (HQ5.out w2 HI2.out).mono ?_
  rintro e wq ⟨rfl, ew⟩
  rw [ew]
  clear ew HQ5
  have f0 := HK0.out w2 HG2.out
  have H5 := HPA.out w2 r0 qs n0 ms c0 cs' (grown_trans HG1.out HG2.out) HT0.out HS2.out HM2.out
  go_wp2_with fail
  refine (H5).mono ?_
  rintro e wz hh
  have HG : Hid _ := HF.out _ _ (hh.from (grown_trans HG1.out HG2.out))
  obtain ⟨qz, mz, cz, rfl, _⟩ := hh
  clear HF
  go_wp2_with fail
  exact HG.out
set_option maxRecDepth 100000 in
set_option maxHeartbeats 1000000 in
theorem phrase_nilC (gb : Nat) (Wi : World) (f : Nat) (t : Tr) (p : Option Addr) (n c : Nat) (pa pb : Option Addr) (ca cb : Nat) (a b : Int) (st : GSt) (w : World) (ht : t.fo.ok) (hf : (itC t).length ≤ f + 1) (hl : (itC t).length ≤ 2000) (hti : TI Wi p n c t) (hW : Below Wi.heap.size Wi w) (hgi : Wi.heap.size ≤ gb) (hka : TK w gb pa 1 ca (vT a)) (hkb : TK w gb pb 1 cb (vT b)) (ha : 0 ≤ a ∧ a ≤ 1100000) (hb : 0 ≤ b ∧ b ≤ 1100000) (h0 : 0 ≤ st.1) (h1 : st.1 + (itC t).length ≤ 1100000) (hg : GMm w gb st) (kz : ¬ t.1.1 = 0) (ko : ¬ t.1.1 = 1) (kcComma : ¬ t.1 = cComma) (kcThen : ¬ t.1 = cThen) (kcOr : ¬ t.1 = cOr) (kcNot : ¬ t.1 = cNot) (kcCut : ¬ t.1 = cCut) (kcCurly : ¬ t.1 = cCurly) (knilC : t.1 = nilC) :
    Calls Tryz.prog 18 #[.pointer (some ⟨gb, 0, none⟩), .slice p n c, .slice pa 1 ca, .slice pb 1 cb] w (GOutM w gb (gPh nilT (f + 1) t a b st)) := by
  have hnl : n ≤ 2000 := by rw [hti.1]; simp only [itC, List.length_cons] at hl; omega
  have hn0 : 0 < n := by have := hti.1; omega
  have hlt : gb < w.heap.size := World.block_lt_of_cell? _ _ hg.c0
  have EQ : gPh nilT (f + 1) t a b st = gTer nilT t a b st := by simp only [gPh, if_neg kz, if_neg ko, if_neg (show ¬ (t.1 = cComma ∨ t.1 = cThen) from fun h => h.elim kcComma kcThen), if_neg kcOr, if_neg kcNot, if_neg kcCut, if_neg kcCurly, if_pos (show t.1 = nilC ∨ t.1 = dot from Or.inl knilC)]
  rw [EQ]
  have HAR := l2argsG_any hti hW hnl ht
  have hq0 : decide (t.1 = cComma) = false := by simpa using kcComma
  have HQ0 : Hid (∀ W, Below Wi.heap.size Wi W → Calls Tryz.prog 13 #[.slice p n c, .string ⟨#[44]⟩, .int .i64 2] W fun e w' => e = .returned (.bool false) ∧ w' = W) := fun W hB => by
    have h8 : Calls Tryz.prog 13 #[.slice p n c, .string ⟨#[44]⟩, .int .i64 2] W fun e w' => e = .returned (.bool (decide (t.1 = cComma))) ∧ w' = W := isP_any (hti.below hB) ht.2.1 [44] 2 (by decide)
    rw [hq0] at h8; exact h8
  have hq1 : decide (t.1 = cThen) = false := by simpa using kcThen
  have HQ1 : Hid (∀ W, Below Wi.heap.size Wi W → Calls Tryz.prog 13 #[.slice p n c, .string ⟨#[45, 62]⟩, .int .i64 2] W fun e w' => e = .returned (.bool false) ∧ w' = W) := fun W hB => by
    have h8 : Calls Tryz.prog 13 #[.slice p n c, .string ⟨#[45, 62]⟩, .int .i64 2] W fun e w' => e = .returned (.bool (decide (t.1 = cThen))) ∧ w' = W := isP_any (hti.below hB) ht.2.1 [45, 62] 2 (by decide)
    rw [hq1] at h8; exact h8
  have hq2 : decide (t.1 = cOr) = false := by simpa using kcOr
  have HQ2 : Hid (∀ W, Below Wi.heap.size Wi W → Calls Tryz.prog 13 #[.slice p n c, .string ⟨#[59]⟩, .int .i64 2] W fun e w' => e = .returned (.bool false) ∧ w' = W) := fun W hB => by
    have h8 : Calls Tryz.prog 13 #[.slice p n c, .string ⟨#[59]⟩, .int .i64 2] W fun e w' => e = .returned (.bool (decide (t.1 = cOr))) ∧ w' = W := isP_any (hti.below hB) ht.2.1 [59] 2 (by decide)
    rw [hq2] at h8; exact h8
  have hq3 : decide (t.1 = cNot) = false := by simpa using kcNot
  have HQ3 : Hid (∀ W, Below Wi.heap.size Wi W → Calls Tryz.prog 13 #[.slice p n c, .string ⟨#[92, 43]⟩, .int .i64 1] W fun e w' => e = .returned (.bool false) ∧ w' = W) := fun W hB => by
    have h8 : Calls Tryz.prog 13 #[.slice p n c, .string ⟨#[92, 43]⟩, .int .i64 1] W fun e w' => e = .returned (.bool (decide (t.1 = cNot))) ∧ w' = W := isP_any (hti.below hB) ht.2.1 [92, 43] 1 (by decide)
    rw [hq3] at h8; exact h8
  have hq4 : decide (t.1 = cCut) = false := by simpa using kcCut
  have HQ4 : Hid (∀ W, Below Wi.heap.size Wi W → Calls Tryz.prog 13 #[.slice p n c, .string ⟨#[33]⟩, .int .i64 0] W fun e w' => e = .returned (.bool false) ∧ w' = W) := fun W hB => by
    have h8 : Calls Tryz.prog 13 #[.slice p n c, .string ⟨#[33]⟩, .int .i64 0] W fun e w' => e = .returned (.bool (decide (t.1 = cCut))) ∧ w' = W := isZ_any (hti.below hB) ht.2.1 ht.1 [33]
    rw [hq4] at h8; exact h8
  have hq5 : decide (t.1 = cCurly) = false := by simpa using kcCurly
  have HQ5 : Hid (∀ W, Below Wi.heap.size Wi W → Calls Tryz.prog 13 #[.slice p n c, .string ⟨#[123, 125]⟩, .int .i64 1] W fun e w' => e = .returned (.bool false) ∧ w' = W) := fun W hB => by
    have h8 : Calls Tryz.prog 13 #[.slice p n c, .string ⟨#[123, 125]⟩, .int .i64 1] W fun e w' => e = .returned (.bool (decide (t.1 = cCurly))) ∧ w' = W := isP_any (hti.below hB) ht.2.1 [123, 125] 1 (by decide)
    rw [hq5] at h8; exact h8
  have hq6 : decide (t.1 = nilC) = true := by simpa using knilC
  have HQ6 : Hid (∀ W, Below Wi.heap.size Wi W → Calls Tryz.prog 13 #[.slice p n c, .string ⟨#[91, 93]⟩, .int .i64 0] W fun e w' => e = .returned (.bool true) ∧ w' = W) := fun W hB => by
    have h8 : Calls Tryz.prog 13 #[.slice p n c, .string ⟨#[91, 93]⟩, .int .i64 0] W fun e w' => e = .returned (.bool (decide (t.1 = nilC))) ∧ w' = W := isZ_any (hti.below hB) ht.2.1 ht.1 [91, 93]
    rw [hq6] at h8; exact h8
  have HWI : Hid (∀ W, w.grownBy W (some gb) → Below Wi.heap.size Wi W) := fun W hW' => below_in hW hW' hgi
  have eE : strOfNums [61] = ⟨#[61]⟩ := rfl
  have eK : strOfNums [44] = ⟨#[44]⟩ := rfl
  have HGM : Hid (∀ W, Below w.heap.size w W → GMm W gb st) := fun W hW' => hg.below hW'
  have HSA : Hid (∀ W, w.grownBy W (some gb) → GMm W gb st → Calls Tryz.prog 19 #[.string ⟨#[61]⟩, .slice pa 1 ca, .slice pb 1 cb] W (GOutM W gb (eqV a b, st))) := fun W hG hS => by
    have h8 := pair_tk gb [61] (byte_small (by decide)) (vT a) (vT b) (fit_vT ha) (fit_vT hb) pa pb 1 1 ca cb st W (hka.move hG) (hkb.move hG) hS
    rw [eE] at h8; exact h8
  have HTE : Hid (∀ W, w.grownBy W (some gb) → GMm W gb st → Calls Tryz.prog 20 #[.pointer (some ⟨gb, 0, none⟩), .slice p n c, .slice pa 1 ca, .slice pb 1 cb] W (GOutM W gb (gTer nilT t a b st))) := fun W hG hS => l8ter_any gb t p n c pa pb ca cb a b ha hb st W ht hl (hti.below (below_in hW hG hgi)) (hka.move hG) (hkb.move hG) hS
  clear eE eK
  obtain ⟨P, eP⟩ : ∃ P, P = GOutM w gb (gTer nilT t a b st) := ⟨_, rfl⟩
  have HF : Hid (∀ e w', GOutM w gb (gTer nilT t a b st) e w' → P e w') := fun e w' h => by rw [eP]; exact h
  rw [← eP]
  obtain ⟨b0, o0, q1, qc, ep, d0, d1, d2, d3⟩ := (hti.below hW).head
  have HHD : Hid (∀ W, w.grownBy W (some gb) → W.cell? ⟨b0, o0 + 2, none⟩ = some (.slice q1 t.1.2.2.length qc) ∧ (convert 32 9 (.slice q1 t.1.2.2.length qc)).run Tryz.prog W = .ok (.string (strOfNums t.1.2.2)) W) := fun W hW' => by
    obtain ⟨b9, o9, q9, qc9, ep9, _, _, d92, d93⟩ := (hti.below (below_in hW hW' hgi)).head
    rw [ep] at ep9
    cases ep9
    obtain ⟨b8, o8, q8, qc8, ep8, _, _, d82, d83⟩ := hti.head
    rw [ep] at ep8
    cases ep8
    have h8 := ((hW.cell (World.block_lt_of_cell? _ _ d82)).trans d82).symm.trans d2
    injection h8 with h8
    injection h8 with h81 h82 h83
    subst h81 h83
    exact ⟨((below_in hW hW' hgi).cell (World.block_lt_of_cell? _ _ d82)).trans d82, conv_str (d83.below (below_in hW hW' hgi)) _ qc8 rfl 9 Tryz.underlying9⟩
  subst ep
  obtain ⟨x, ex⟩ : ∃ x, x = t.1.1 := ⟨_, rfl⟩
  rw [← ex] at d0 kz ko
  have kzb : (x == 0) = false := by simpa using kz
  have kob : (x == 1) = false := by simpa using ko
  have HGS : Hid (gb < w.heap.size) := hlt
  clear ht hf hl hti hW hgi hka hkb ha hb h0 h1 hg d1 d2 d3 EQ eP hlt ex hq0 hq1 hq2 hq3 hq4 hq5 hq6 HHD
  go_enter Tryz.func18, Tryz.ntmps18
  go_wp2_with fail
  refine HAR.mono ?_
  rintro e w1 ⟨q, m, mc, rs, rfl, hm, hrow, harg, hb1⟩
  have HG1 : Hid (w.grownBy w1 (some gb)) := grownM_below gb hb1
  have HI1 : Hid (Below Wi.heap.size Wi w1) := HWI.out w1 HG1.out
  have HM1 : Hid (GMm w1 gb st) := HGM.out w1 hb1
  clear hm hrow harg hb1 HAR HGM
  go_wp2_with fail
  refine (HQ0.out w1 HI1.out).mono ?_
  rintro e wq ⟨rfl, ew⟩
  rw [ew]
  clear ew HQ0
  go_wp2_with fail
  refine (HQ1.out w1 HI1.out).mono ?_
  rintro e wq ⟨rfl, ew⟩
  rw [ew]
  clear ew HQ1
  go_wp2_with fail
  refine (HQ2.out w1 HI1.out).mono ?_
  rintro e wq ⟨rfl, ew⟩
  rw [ew]
  clear ew HQ2
  go_wp2_with fail
  refine (HSA.out w1 HG1.out HM1.out).mono ?_
  rintro e w2 ⟨qs, ms, cs', rfl, tks, gm2, gr2⟩
  have HS2 : Hid (TK w2 gb qs ms cs' (eqV a b)) := tks
  have HG2 : Hid (w1.grownBy w2 (some gb)) := gr2
  have HM2 : Hid (GMm w2 gb st) := gm2
  have HI2 : Hid (Below Wi.heap.size Wi w2) := HWI.out w2 (grown_trans HG1.out HG2.out)
  clear tks gm2 gr2 HSA HM1
  go_wp2_with fail
  refine (HQ3.out w2 HI2.out).mono ?_
  rintro e wq ⟨rfl, ew⟩
  rw [ew]
  clear ew HQ3
  go_wp2_with fail
  refine (HQ4.out w2 HI2.out).mono ?_
  rintro e wq ⟨rfl, ew⟩
  rw [ew]
  clear ew HQ4
  go_wp2_with fail
  refine (HQ5.out w2 HI2.out).mono ?_
  rintro e wq ⟨rfl, ew⟩
  rw [ew]
  clear ew HQ5
  go_wp2_with fail
  refine (HQ6.out w2 HI2.out).mono ?_
  rintro e wq ⟨rfl, ew⟩
  rw [ew]
  clear ew HQ6
  have H5 := HTE.out w2 (grown_trans HG1.out HG2.out) HM2.out
  go_wp2_with fail
  refine (H5).mono ?_
  rintro e wz hh
  have HG : Hid _ := HF.out _ _ (hh.from (grown_trans HG1.out HG2.out))
  obtain ⟨qz, mz, cz, rfl, _⟩ := hh
  clear HF
  go_wp2_with fail
  exact HG.out
set_option maxRecDepth 100000 in
set_option maxHeartbeats 1000000 in
theorem phrase_dot (gb : Nat) (Wi : World) (f : Nat) (t : Tr) (p : Option Addr) (n c : Nat) (pa pb : Option Addr) (ca cb : Nat) (a b : Int) (st : GSt) (w : World) (ht : t.fo.ok) (hf : (itC t).length ≤ f + 1) (hl : (itC t).length ≤ 2000) (hti : TI Wi p n c t) (hW : Below Wi.heap.size Wi w) (hgi : Wi.heap.size ≤ gb) (hka : TK w gb pa 1 ca (vT a)) (hkb : TK w gb pb 1 cb (vT b)) (ha : 0 ≤ a ∧ a ≤ 1100000) (hb : 0 ≤ b ∧ b ≤ 1100000) (h0 : 0 ≤ st.1) (h1 : st.1 + (itC t).length ≤ 1100000) (hg : GMm w gb st) (kz : ¬ t.1.1 = 0) (ko : ¬ t.1.1 = 1) (kcComma : ¬ t.1 = cComma) (kcThen : ¬ t.1 = cThen) (kcOr : ¬ t.1 = cOr) (kcNot : ¬ t.1 = cNot) (kcCut : ¬ t.1 = cCut) (kcCurly : ¬ t.1 = cCurly) (knilC : ¬ t.1 = nilC) (kdot : t.1 = dot) :
    Calls Tryz.prog 18 #[.pointer (some ⟨gb, 0, none⟩), .slice p n c, .slice pa 1 ca, .slice pb 1 cb] w (GOutM w gb (gPh nilT (f + 1) t a b st)) := by
  have hnl : n ≤ 2000 := by rw [hti.1]; simp only [itC, List.length_cons] at hl; omega
  have hn0 : 0 < n := by have := hti.1; omega
  have hlt : gb < w.heap.size := World.block_lt_of_cell? _ _ hg.c0
  have EQ : gPh nilT (f + 1) t a b st = gTer nilT t a b st := by simp only [gPh, if_neg kz, if_neg ko, if_neg (show ¬ (t.1 = cComma ∨ t.1 = cThen) from fun h => h.elim kcComma kcThen), if_neg kcOr, if_neg kcNot, if_neg kcCut, if_neg kcCurly, if_pos (show t.1 = nilC ∨ t.1 = dot from Or.inr kdot)]
  rw [EQ]
  have HAR := l2argsG_any hti hW hnl ht
  have hq0 : decide (t.1 = cComma) = false := by simpa using kcComma
  have HQ0 : Hid (∀ W, Below Wi.heap.size Wi W → Calls Tryz.prog 13 #[.slice p n c, .string ⟨#[44]⟩, .int .i64 2] W fun e w' => e = .returned (.bool false) ∧ w' = W) := fun W hB => by
    have h8 : Calls Tryz.prog 13 #[.slice p n c, .string ⟨#[44]⟩, .int .i64 2] W fun e w' => e = .returned (.bool (decide (t.1 = cComma))) ∧ w' = W := isP_any (hti.below hB) ht.2.1 [44] 2 (by decide)
    rw [hq0] at h8; exact h8
  have hq1 : decide (t.1 = cThen) = false := by simpa using kcThen
  have HQ1 : Hid (∀ W, Below Wi.heap.size Wi W → Calls Tryz.prog 13 #[.slice p n c, .string ⟨#[45, 62]⟩, .int .i64 2] W fun e w' => e = .returned (.bool false) ∧ w' = W) := fun W hB => by
    have h8 : Calls Tryz.prog 13 #[.slice p n c, .string ⟨#[45, 62]⟩, .int .i64 2] W fun e w' => e = .returned (.bool (decide (t.1 = cThen))) ∧ w' = W := isP_any (hti.below hB) ht.2.1 [45, 62] 2 (by decide)
    rw [hq1] at h8; exact h8
  have hq2 : decide (t.1 = cOr) = false := by simpa using kcOr
  have HQ2 : Hid (∀ W, Below Wi.heap.size Wi W → Calls Tryz.prog 13 #[.slice p n c, .string ⟨#[59]⟩, .int .i64 2] W fun e w' => e = .returned (.bool false) ∧ w' = W) := fun W hB => by
    have h8 : Calls Tryz.prog 13 #[.slice p n c, .string ⟨#[59]⟩, .int .i64 2] W fun e w' => e = .returned (.bool (decide (t.1 = cOr))) ∧ w' = W := isP_any (hti.below hB) ht.2.1 [59] 2 (by decide)
    rw [hq2] at h8; exact h8
  have hq3 : decide (t.1 = cNot) = false := by simpa using kcNot
  have HQ3 : Hid (∀ W, Below Wi.heap.size Wi W → Calls Tryz.prog 13 #[.slice p n c, .string ⟨#[92, 43]⟩, .int .i64 1] W fun e w' => e = .returned (.bool false) ∧ w' = W) := fun W hB => by
    have h8 : Calls Tryz.prog 13 #[.slice p n c, .string ⟨#[92, 43]⟩, .int .i64 1] W fun e w' => e = .returned (.bool (decide (t.1 = cNot))) ∧ w' = W := isP_any (hti.below hB) ht.2.1 [92, 43] 1 (by decide)
    rw [hq3] at h8; exact h8
  have hq4 : decide (t.1 = cCut) = false := by simpa using kcCut
  have HQ4 : Hid (∀ W, Below Wi.heap.size Wi W → Calls Tryz.prog 13 #[.slice p n c, .string ⟨#[33]⟩, .int .i64 0] W fun e w' => e = .returned (.bool false) ∧ w' = W) := fun W hB => by
    have h8 : Calls Tryz.prog 13 #[.slice p n c, .string ⟨#[33]⟩, .int .i64 0] W fun e w' => e = .returned (.bool (decide (t.1 = cCut))) ∧ w' = W := isZ_any (hti.below hB) ht.2.1 ht.1 [33]
    rw [hq4] at h8; exact h8
  have hq5 : decide (t.1 = cCurly) = false := by simpa using kcCurly
  have HQ5 : Hid (∀ W, Below Wi.heap.size Wi W → Calls Tryz.prog 13 #[.slice p n c, .string ⟨#[123, 125]⟩, .int .i64 1] W fun e w' => e = .returned (.bool false) ∧ w' = W) := fun W hB => by
    have h8 : Calls Tryz.prog 13 #[.slice p n c, .string ⟨#[123, 125]⟩, .int .i64 1] W fun e w' => e = .returned (.bool (decide (t.1 = cCurly))) ∧ w' = W := isP_any (hti.below hB) ht.2.1 [123, 125] 1 (by decide)
    rw [hq5] at h8; exact h8
  have hq6 : decide (t.1 = nilC) = false := by simpa using knilC
  have HQ6 : Hid (∀ W, Below Wi.heap.size Wi W → Calls Tryz.prog 13 #[.slice p n c, .string ⟨#[91, 93]⟩, .int .i64 0] W fun e w' => e = .returned (.bool false) ∧ w' = W) := fun W hB => by
    have h8 : Calls Tryz.prog 13 #[.slice p n c, .string ⟨#[91, 93]⟩, .int .i64 0] W fun e w' => e = .returned (.bool (decide (t.1 = nilC))) ∧ w' = W := isZ_any (hti.below hB) ht.2.1 ht.1 [91, 93]
    rw [hq6] at h8; exact h8
  have hq7 : decide (t.1 = dot) = true := by simpa using kdot
  have HQ7 : Hid (∀ W, Below Wi.heap.size Wi W → Calls Tryz.prog 13 #[.slice p n c, .string ⟨#[46]⟩, .int .i64 2] W fun e w' => e = .returned (.bool true) ∧ w' = W) := fun W hB => by
    have h8 : Calls Tryz.prog 13 #[.slice p n c, .string ⟨#[46]⟩, .int .i64 2] W fun e w' => e = .returned (.bool (decide (t.1 = dot))) ∧ w' = W := isP_any (hti.below hB) ht.2.1 [46] 2 (by decide)
    rw [hq7] at h8; exact h8
  have HWI : Hid (∀ W, w.grownBy W (some gb) → Below Wi.heap.size Wi W) := fun W hW' => below_in hW hW' hgi
  have eE : strOfNums [61] = ⟨#[61]⟩ := rfl
  have eK : strOfNums [44] = ⟨#[44]⟩ := rfl
  have HGM : Hid (∀ W, Below w.heap.size w W → GMm W gb st) := fun W hW' => hg.below hW'
  have HSA : Hid (∀ W, w.grownBy W (some gb) → GMm W gb st → Calls Tryz.prog 19 #[.string ⟨#[61]⟩, .slice pa 1 ca, .slice pb 1 cb] W (GOutM W gb (eqV a b, st))) := fun W hG hS => by
    have h8 := pair_tk gb [61] (byte_small (by decide)) (vT a) (vT b) (fit_vT ha) (fit_vT hb) pa pb 1 1 ca cb st W (hka.move hG) (hkb.move hG) hS
    rw [eE] at h8; exact h8
  have HTE : Hid (∀ W, w.grownBy W (some gb) → GMm W gb st → Calls Tryz.prog 20 #[.pointer (some ⟨gb, 0, none⟩), .slice p n c, .slice pa 1 ca, .slice pb 1 cb] W (GOutM W gb (gTer nilT t a b st))) := fun W hG hS => l8ter_any gb t p n c pa pb ca cb a b ha hb st W ht hl (hti.below (below_in hW hG hgi)) (hka.move hG) (hkb.move hG) hS
  clear eE eK
  obtain ⟨P, eP⟩ : ∃ P, P = GOutM w gb (gTer nilT t a b st) := ⟨_, rfl⟩
  have HF : Hid (∀ e w', GOutM w gb (gTer nilT t a b st) e w' → P e w') := fun e w' h => by rw [eP]; exact h
  rw [← eP]
  obtain ⟨b0, o0, q1, qc, ep, d0, d1, d2, d3⟩ := (hti.below hW).head
  have HHD : Hid (∀ W, w.grownBy W (some gb) → W.cell? ⟨b0, o0 + 2, none⟩ = some (.slice q1 t.1.2.2.length qc) ∧ (convert 32 9 (.slice q1 t.1.2.2.length qc)).run Tryz.prog W = .ok (.string (strOfNums t.1.2.2)) W) := fun W hW' => by
    obtain ⟨b9, o9, q9, qc9, ep9, _, _, d92, d93⟩ := (hti.below (below_in hW hW' hgi)).head
    rw [ep] at ep9
    cases ep9
    obtain ⟨b8, o8, q8, qc8, ep8, _, _, d82, d83⟩ := hti.head
    rw [ep] at ep8
    cases ep8
    have h8 := ((hW.cell (World.block_lt_of_cell? _ _ d82)).trans d82).symm.trans d2
    injection h8 with h8
    injection h8 with h81 h82 h83
    subst h81 h83
    exact ⟨((below_in hW hW' hgi).cell (World.block_lt_of_cell? _ _ d82)).trans d82, conv_str (d83.below (below_in hW hW' hgi)) _ qc8 rfl 9 Tryz.underlying9⟩
  subst ep
  obtain ⟨x, ex⟩ : ∃ x, x = t.1.1 := ⟨_, rfl⟩
  rw [← ex] at d0 kz ko
  have kzb : (x == 0) = false := by simpa using kz
  have kob : (x == 1) = false := by simpa using ko
  have HGS : Hid (gb < w.heap.size) := hlt
  clear ht hf hl hti hW hgi hka hkb ha hb h0 h1 hg d1 d2 d3 EQ eP hlt ex hq0 hq1 hq2 hq3 hq4 hq5 hq6 hq7 HHD
  go_enter Tryz.func18, Tryz.ntmps18
  go_wp2_with fail
  refine HAR.mono ?_
  rintro e w1 ⟨q, m, mc, rs, rfl, hm, hrow, harg, hb1⟩
  have HG1 : Hid (w.grownBy w1 (some gb)) := grownM_below gb hb1
  have HI1 : Hid (Below Wi.heap.size Wi w1) := HWI.out w1 HG1.out
  have HM1 : Hid (GMm w1 gb st) := HGM.out w1 hb1
  clear hm hrow harg hb1 HAR HGM
  go_wp2_with fail
  refine (HQ0.out w1 HI1.out).mono ?_
  rintro e wq ⟨rfl, ew⟩
  rw [ew]
  clear ew HQ0
  go_wp2_with fail
  refine (HQ1.out w1 HI1.out).mono ?_
  rintro e wq ⟨rfl, ew⟩
  rw [ew]
  clear ew HQ1
  go_wp2_with fail
  refine (HQ2.out w1 HI1.out).mono ?_
  rintro e wq ⟨rfl, ew⟩
  rw [ew]
  clear ew HQ2
  go_wp2_with fail
  refine (HSA.out w1 HG1.out HM1.out).mono ?_
  rintro e w2 ⟨qs, ms, cs', rfl, tks, gm2, gr2⟩
  have HS2 : Hid (TK w2 gb qs ms cs' (eqV a b)) := tks
  have HG2 : Hid (w1.grownBy w2 (some gb)) := gr2
  have HM2 : Hid (GMm w2 gb st) := gm2
  have HI2 : Hid (Below Wi.heap.size Wi w2) := HWI.out w2 (grown_trans HG1.out HG2.out)
  clear tks gm2 gr2 HSA HM1
  go_wp2_with fail
  refine (HQ3.out w2 HI2.out).mono ?_
  rintro e wq ⟨rfl, ew⟩
  rw [ew]
  clear ew HQ3
  go_wp2_with fail
  refine (HQ4.out w2 HI2.out).mono ?_
  rintro e wq ⟨rfl, ew⟩
  rw [ew]
  clear ew HQ4
  go_wp2_with fail
  refine (HQ5.out w2 HI2.out).mono ?_
  rintro e wq ⟨rfl, ew⟩
  rw [ew]
  clear ew HQ5
  go_wp2_with fail
  refine (HQ6.out w2 HI2.out).mono ?_
  rintro e wq ⟨rfl, ew⟩
  rw [ew]
  clear ew HQ6
  go_wp2_with fail
  refine (HQ7.out w2 HI2.out).mono ?_
  rintro e wq ⟨rfl, ew⟩
  rw [ew]
  clear ew HQ7
  have H5 := HTE.out w2 (grown_trans HG1.out HG2.out) HM2.out
  go_wp2_with fail
  refine (H5).mono ?_
  rintro e wz hh
  have HG : Hid _ := HF.out _ _ (hh.from (grown_trans HG1.out HG2.out))
  obtain ⟨qz, mz, cz, rfl, _⟩ := hh
  clear HF
  go_wp2_with fail
  exact HG.out
set_option maxRecDepth 100000 in
set_option maxHeartbeats 1000000 in
theorem phrase_more (gb : Nat) (Wi : World) (f : Nat) (t : Tr) (p : Option Addr) (n c : Nat) (pa pb : Option Addr) (ca cb : Nat) (a b : Int) (st : GSt) (w : World) (ht : t.fo.ok) (hf : (itC t).length ≤ f + 1) (hl : (itC t).length ≤ 2000) (hti : TI Wi p n c t) (hW : Below Wi.heap.size Wi w) (hgi : Wi.heap.size ≤ gb) (hka : TK w gb pa 1 ca (vT a)) (hkb : TK w gb pb 1 cb (vT b)) (ha : 0 ≤ a ∧ a ≤ 1100000) (hb : 0 ≤ b ∧ b ≤ 1100000) (h0 : 0 ≤ st.1) (h1 : st.1 + (itC t).length ≤ 1100000) (hg : GMm w gb st) (kz : ¬ t.1.1 = 0) (ko : ¬ t.1.1 = 1) (kcComma : ¬ t.1 = cComma) (kcThen : ¬ t.1 = cThen) (kcOr : ¬ t.1 = cOr) (kcNot : ¬ t.1 = cNot) (kcCut : ¬ t.1 = cCut) (kcCurly : ¬ t.1 = cCurly) (knilC : ¬ t.1 = nilC) (kdot : ¬ t.1 = dot) :
    Calls Tryz.prog 18 #[.pointer (some ⟨gb, 0, none⟩), .slice p n c, .slice pa 1 ca, .slice pb 1 cb] w (GOutM w gb (gPh nilT (f + 1) t a b st)) := by
  have hnl : n ≤ 2000 := by rw [hti.1]; simp only [itC, List.length_cons] at hl; omega
  have hn0 : 0 < n := by have := hti.1; omega
  have hlt : gb < w.heap.size := World.block_lt_of_cell? _ _ hg.c0
  have EQ : gPh nilT (f + 1) t a b st = gMore nilT t a b st := by simp only [gPh, if_neg kz, if_neg ko, if_neg (show ¬ (t.1 = cComma ∨ t.1 = cThen) from fun h => h.elim kcComma kcThen), if_neg kcOr, if_neg kcNot, if_neg kcCut, if_neg kcCurly, if_neg (show ¬ (t.1 = nilC ∨ t.1 = dot) from fun h => h.elim knilC kdot)]
  rw [EQ]
  have HAR := l2argsG_any hti hW hnl ht
  have hq0 : decide (t.1 = cComma) = false := by simpa using kcComma
  have HQ0 : Hid (∀ W, Below Wi.heap.size Wi W → Calls Tryz.prog 13 #[.slice p n c, .string ⟨#[44]⟩, .int .i64 2] W fun e w' => e = .returned (.bool false) ∧ w' = W) := fun W hB => by
    have h8 : Calls Tryz.prog 13 #[.slice p n c, .string ⟨#[44]⟩, .int .i64 2] W fun e w' => e = .returned (.bool (decide (t.1 = cComma))) ∧ w' = W := isP_any (hti.below hB) ht.2.1 [44] 2 (by decide)
    rw [hq0] at h8; exact h8
  have hq1 : decide (t.1 = cThen) = false := by simpa using kcThen
  have HQ1 : Hid (∀ W, Below Wi.heap.size Wi W → Calls Tryz.prog 13 #[.slice p n c, .string ⟨#[45, 62]⟩, .int .i64 2] W fun e w' => e = .returned (.bool false) ∧ w' = W) := fun W hB => by
    have h8 : Calls Tryz.prog 13 #[.slice p n c, .string ⟨#[45, 62]⟩, .int .i64 2] W fun e w' => e = .returned (.bool (decide (t.1 = cThen))) ∧ w' = W := isP_any (hti.below hB) ht.2.1 [45, 62] 2 (by decide)
    rw [hq1] at h8; exact h8
  have hq2 : decide (t.1 = cOr) = false := by simpa using kcOr
  have HQ2 : Hid (∀ W, Below Wi.heap.size Wi W → Calls Tryz.prog 13 #[.slice p n c, .string ⟨#[59]⟩, .int .i64 2] W fun e w' => e = .returned (.bool false) ∧ w' = W) := fun W hB => by
    have h8 : Calls Tryz.prog 13 #[.slice p n c, .string ⟨#[59]⟩, .int .i64 2] W fun e w' => e = .returned (.bool (decide (t.1 = cOr))) ∧ w' = W := isP_any (hti.below hB) ht.2.1 [59] 2 (by decide)
    rw [hq2] at h8; exact h8
  have hq3 : decide (t.1 = cNot) = false := by simpa using kcNot
  have HQ3 : Hid (∀ W, Below Wi.heap.size Wi W → Calls Tryz.prog 13 #[.slice p n c, .string ⟨#[92, 43]⟩, .int .i64 1] W fun e w' => e = .returned (.bool false) ∧ w' = W) := fun W hB => by
    have h8 : Calls Tryz.prog 13 #[.slice p n c, .string ⟨#[92, 43]⟩, .int .i64 1] W fun e w' => e = .returned (.bool (decide (t.1 = cNot))) ∧ w' = W := isP_any (hti.below hB) ht.2.1 [92, 43] 1 (by decide)
    rw [hq3] at h8; exact h8
  have hq4 : decide (t.1 = cCut) = false := by simpa using kcCut
  have HQ4 : Hid (∀ W, Below Wi.heap.size Wi W → Calls Tryz.prog 13 #[.slice p n c, .string ⟨#[33]⟩, .int .i64 0] W fun e w' => e = .returned (.bool false) ∧ w' = W) := fun W hB => by
    have h8 : Calls Tryz.prog 13 #[.slice p n c, .string ⟨#[33]⟩, .int .i64 0] W fun e w' => e = .returned (.bool (decide (t.1 = cCut))) ∧ w' = W := isZ_any (hti.below hB) ht.2.1 ht.1 [33]
    rw [hq4] at h8; exact h8
  have hq5 : decide (t.1 = cCurly) = false := by simpa using kcCurly
  have HQ5 : Hid (∀ W, Below Wi.heap.size Wi W → Calls Tryz.prog 13 #[.slice p n c, .string ⟨#[123, 125]⟩, .int .i64 1] W fun e w' => e = .returned (.bool false) ∧ w' = W) := fun W hB => by
    have h8 : Calls Tryz.prog 13 #[.slice p n c, .string ⟨#[123, 125]⟩, .int .i64 1] W fun e w' => e = .returned (.bool (decide (t.1 = cCurly))) ∧ w' = W := isP_any (hti.below hB) ht.2.1 [123, 125] 1 (by decide)
    rw [hq5] at h8; exact h8
  have hq6 : decide (t.1 = nilC) = false := by simpa using knilC
  have HQ6 : Hid (∀ W, Below Wi.heap.size Wi W → Calls Tryz.prog 13 #[.slice p n c, .string ⟨#[91, 93]⟩, .int .i64 0] W fun e w' => e = .returned (.bool false) ∧ w' = W) := fun W hB => by
    have h8 : Calls Tryz.prog 13 #[.slice p n c, .string ⟨#[91, 93]⟩, .int .i64 0] W fun e w' => e = .returned (.bool (decide (t.1 = nilC))) ∧ w' = W := isZ_any (hti.below hB) ht.2.1 ht.1 [91, 93]
    rw [hq6] at h8; exact h8
  have hq7 : decide (t.1 = dot) = false := by simpa using kdot
  have HQ7 : Hid (∀ W, Below Wi.heap.size Wi W → Calls Tryz.prog 13 #[.slice p n c, .string ⟨#[46]⟩, .int .i64 2] W fun e w' => e = .returned (.bool false) ∧ w' = W) := fun W hB => by
    have h8 : Calls Tryz.prog 13 #[.slice p n c, .string ⟨#[46]⟩, .int .i64 2] W fun e w' => e = .returned (.bool (decide (t.1 = dot))) ∧ w' = W := isP_any (hti.below hB) ht.2.1 [46] 2 (by decide)
    rw [hq7] at h8; exact h8
  have HWI : Hid (∀ W, w.grownBy W (some gb) → Below Wi.heap.size Wi W) := fun W hW' => below_in hW hW' hgi
  have eE : strOfNums [61] = ⟨#[61]⟩ := rfl
  have eK : strOfNums [44] = ⟨#[44]⟩ := rfl
  have HGM : Hid (∀ W, Below w.heap.size w W → GMm W gb st) := fun W hW' => hg.below hW'
  have HSA : Hid (∀ W, w.grownBy W (some gb) → GMm W gb st → Calls Tryz.prog 19 #[.string ⟨#[61]⟩, .slice pa 1 ca, .slice pb 1 cb] W (GOutM W gb (eqV a b, st))) := fun W hG hS => by
    have h8 := pair_tk gb [61] (byte_small (by decide)) (vT a) (vT b) (fit_vT ha) (fit_vT hb) pa pb 1 1 ca cb st W (hka.move hG) (hkb.move hG) hS
    rw [eE] at h8; exact h8
  have HTE : Hid (∀ W, w.grownBy W (some gb) → GMm W gb st → Calls Tryz.prog 17 #[.pointer (some ⟨gb, 0, none⟩), .slice p n c, .slice pa 1 ca, .slice pb 1 cb] W (GOutM W gb (gMore nilT t a b st))) := fun W hG hS => l8more_any gb Wi t p n c pa pb ca cb a b st W ht hl hti (below_in hW hG hgi) (hka.move hG) (hkb.move hG) hS
  clear eE eK
  obtain ⟨P, eP⟩ : ∃ P, P = GOutM w gb (gMore nilT t a b st) := ⟨_, rfl⟩
  have HF : Hid (∀ e w', GOutM w gb (gMore nilT t a b st) e w' → P e w') := fun e w' h => by rw [eP]; exact h
  rw [← eP]
  obtain ⟨b0, o0, q1, qc, ep, d0, d1, d2, d3⟩ := (hti.below hW).head
  have HHD : Hid (∀ W, w.grownBy W (some gb) → W.cell? ⟨b0, o0 + 2, none⟩ = some (.slice q1 t.1.2.2.length qc) ∧ (convert 32 9 (.slice q1 t.1.2.2.length qc)).run Tryz.prog W = .ok (.string (strOfNums t.1.2.2)) W) := fun W hW' => by
    obtain ⟨b9, o9, q9, qc9, ep9, _, _, d92, d93⟩ := (hti.below (below_in hW hW' hgi)).head
    rw [ep] at ep9
    cases ep9
    obtain ⟨b8, o8, q8, qc8, ep8, _, _, d82, d83⟩ := hti.head
    rw [ep] at ep8
    cases ep8
    have h8 := ((hW.cell (World.block_lt_of_cell? _ _ d82)).trans d82).symm.trans d2
    injection h8 with h8
    injection h8 with h81 h82 h83
    subst h81 h83
    exact ⟨((below_in hW hW' hgi).cell (World.block_lt_of_cell? _ _ d82)).trans d82, conv_str (d83.below (below_in hW hW' hgi)) _ qc8 rfl 9 Tryz.underlying9⟩
  subst ep
  obtain ⟨x, ex⟩ : ∃ x, x = t.1.1 := ⟨_, rfl⟩
  rw [← ex] at d0 kz ko
  have kzb : (x == 0) = false := by simpa using kz
  have kob : (x == 1) = false := by simpa using ko
  have HGS : Hid (gb < w.heap.size) := hlt
  clear ht hf hl hti hW hgi hka hkb ha hb h0 h1 hg d1 d2 d3 EQ eP hlt ex hq0 hq1 hq2 hq3 hq4 hq5 hq6 hq7 HHD
  go_enter Tryz.func18, Tryz.ntmps18
  go_wp2_with fail
  refine HAR.mono ?_
  rintro e w1 ⟨q, m, mc, rs, rfl, hm, hrow, harg, hb1⟩
  have HG1 : Hid (w.grownBy w1 (some gb)) := grownM_below gb hb1
  have HI1 : Hid (Below Wi.heap.size Wi w1) := HWI.out w1 HG1.out
  have HM1 : Hid (GMm w1 gb st) := HGM.out w1 hb1
  clear hm hrow harg hb1 HAR HGM
  go_wp2_with fail
  refine (HQ0.out w1 HI1.out).mono ?_
  rintro e wq ⟨rfl, ew⟩
  rw [ew]
  clear ew HQ0
  go_wp2_with fail
  refine (HQ1.out w1 HI1.out).mono ?_
  rintro e wq ⟨rfl, ew⟩
  rw [ew]
  clear ew HQ1
  go_wp2_with fail
  refine (HQ2.out w1 HI1.out).mono ?_
  rintro e wq ⟨rfl, ew⟩
  rw [ew]
  clear ew HQ2
  go_wp2_with fail
  refine (HSA.out w1 HG1.out HM1.out).mono ?_
  rintro e w2 ⟨qs, ms, cs', rfl, tks, gm2, gr2⟩
  have HS2 : Hid (TK w2 gb qs ms cs' (eqV a b)) := tks
  have HG2 : Hid (w1.grownBy w2 (some gb)) := gr2
  have HM2 : Hid (GMm w2 gb st) := gm2
  have HI2 : Hid (Below Wi.heap.size Wi w2) := HWI.out w2 (grown_trans HG1.out HG2.out)
  clear tks gm2 gr2 HSA HM1
  go_wp2_with fail
  refine (HQ3.out w2 HI2.out).mono ?_
  rintro e wq ⟨rfl, ew⟩
  rw [ew]
  clear ew HQ3
  go_wp2_with fail
  refine (HQ4.out w2 HI2.out).mono ?_
  rintro e wq ⟨rfl, ew⟩
  rw [ew]
  clear ew HQ4
  go_wp2_with fail
  refine (HQ5.out w2 HI2.out).mono ?_
  rintro e wq ⟨rfl, ew⟩
  rw [ew]
  clear ew HQ5
  go_wp2_with fail
  refine (HQ6.out w2 HI2.out).mono ?_
  rintro e wq ⟨rfl, ew⟩
  rw [ew]
  clear ew HQ6
  go_wp2_with fail
  refine (HQ7.out w2 HI2.out).mono ?_
  rintro e wq ⟨rfl, ew⟩
  rw [ew]
  clear ew HQ7
  have H5 := HTE.out w2 (grown_trans HG1.out HG2.out) HM2.out
  go_wp2_with fail
  refine (H5).mono ?_
  rintro e wz hh
  have HG : Hid _ := HF.out _ _ (hh.from (grown_trans HG1.out HG2.out))
  obtain ⟨qz, mz, cz, rfl, _⟩ := hh
  clear HF
  go_wp2_with fail
  exact HG.out
theorem phrase_all (gb : Nat) (Wi : World) (hgi : Wi.heap.size ≤ gb) : ∀ f, PhM gb Wi f
  | 0 => fun t p n c pa pb ca cb a b st w ht hf _ _ _ _ _ _ _ _ _ _ => by simp [itC] at hf
  | f + 1 => fun t p n c pa pb ca cb a b st w ht hf hl hti hW hka hkb ha hb h0 h1 hg => by
    have ih := phrase_all gb Wi hgi f
    by_cases kz : t.1.1 = 0
    · exact phrase_var gb Wi f t p n c pa pb ca cb a b st w ht hf hl hti hW hgi hka hkb ha hb h0 h1 hg kz
    by_cases ko : t.1.1 = 1
    · exact phrase_num gb Wi f t p n c pa pb ca cb a b st w ht hf hl hti hW hgi hka hkb ha hb h0 h1 hg kz ko
    by_cases k0 : t.1 = cComma
    · exact phrase_cComma gb Wi f t p n c pa pb ca cb a b st w ht hf hl hti hW hgi hka hkb ha hb h0 h1 hg kz ko k0 ih
    by_cases k1 : t.1 = cThen
    · exact phrase_cThen gb Wi f t p n c pa pb ca cb a b st w ht hf hl hti hW hgi hka hkb ha hb h0 h1 hg kz ko k0 k1 ih
    by_cases k2 : t.1 = cOr
    · exact phrase_or gb Wi f t p n c pa pb ca cb a b st w ht hf hl hti hW hgi hka hkb ha hb h0 h1 hg kz ko k0 k1 k2 ih
    by_cases k3 : t.1 = cNot
    · exact phrase_not gb Wi f t p n c pa pb ca cb a b st w ht hf hl hti hW hgi hka hkb ha hb h0 h1 hg kz ko k0 k1 k2 k3 ih
    by_cases k4 : t.1 = cCut
    · exact phrase_cut gb Wi f t p n c pa pb ca cb a b st w ht hf hl hti hW hgi hka hkb ha hb h0 h1 hg kz ko k0 k1 k2 k3 k4
    by_cases k5 : t.1 = cCurly
    · exact phrase_curly gb Wi f t p n c pa pb ca cb a b st w ht hf hl hti hW hgi hka hkb ha hb h0 h1 hg kz ko k0 k1 k2 k3 k4 k5
    by_cases k6 : t.1 = nilC
    · exact phrase_nilC gb Wi f t p n c pa pb ca cb a b st w ht hf hl hti hW hgi hka hkb ha hb h0 h1 hg kz ko k0 k1 k2 k3 k4 k5 k6
    by_cases k7 : t.1 = dot
    · exact phrase_dot gb Wi f t p n c pa pb ca cb a b st w ht hf hl hti hW hgi hka hkb ha hb h0 h1 hg kz ko k0 k1 k2 k3 k4 k5 k6 k7
    exact phrase_more gb Wi f t p n c pa pb ca cb a b st w ht hf hl hti hW hgi hka hkb ha hb h0 h1 hg kz ko k0 k1 k2 k3 k4 k5 k6 k7
end Go.Proofs.YtbnmmcegjlmdmaaGreatDoor

