/- Texts of Dt14. Own work of the verifier. -/
import Derived.Test.YtaakpdakeolgeaaGreatUqap
namespace Go.Proofs.YtaakpdakeolgeaaGreat
open Go Go.RowKit
set_option linter.unusedVariables false
def DrawO (w : World) (r : List Cel × List Cel) (e : Ending) (w' : World) : Prop :=
  ∃ p1 n1 c1 p2 n2 c2, e = .returned (.tuple #[.slice p1 n1 c1, .slice p2 n2 c2]) ∧ (n1 = r.1.length ∧ CIn w' p1 r.1 ∧ r.1.length ≤ c1 ∧ c1 ≤ 9223372036854775807) ∧ (n2 = r.2.length ∧ CIn w' p2 r.2 ∧ r.2.length ≤ c2 ∧ c2 ≤ 9223372036854775807) ∧ Below w.heap.size w w'
theorem DrawO.of {w W : World} {B1 B2 n1 c1 n2 c2 : Nat} {p1 p2 : Option Addr} {a b : List Cel} (h1 : OwnC W B1 p1 n1 c1 a) (h2 : OwnC W B2 p2 n2 c2 b) (hb : Below w.heap.size w W) : DrawO w (a, b) (.returned (.tuple #[.slice p1 n1 c1, .slice p2 n2 c2])) W :=
  ⟨p1, n1, c1, p2, n2, c2, rfl, ⟨h1.1, h1.cin, h1.cap⟩, ⟨h2.1, h2.cin, h2.cap⟩, hb⟩
theorem below_onK {w w1 W : World} {R : Nat} (h : Below R w w1) (k : Keep R (R + 1) w1 W) (hs : R ≤ w1.heap.size) : Below R w W := h.trans (k.below (Nat.le_refl _) hs)
theorem fStr : (⟨#[102]⟩ : ByteArray) = strOfNums [102] := rfl
theorem LS.rowG {w : World} {B m c : Nat} {q : Option Addr} {css : List (List Cel)} (h : LS w B q m c css) : ∀ g, Value.ownBlock (.slice q m c) = some g → RowG w g := fun g hg => by
  rcases Nat.eq_zero_or_pos css.length with h0 | h0
  · rw [h.1 h0] at hg; cases hg
  · exact (h.row g hg h0).1
theorem LS.lt {w : World} {B m c : Nat} {q : Option Addr} {css : List (List Cel)} (h : LS w B q m c css) : ∀ g, Value.ownBlock (.slice q m c) = some g → g < w.heap.size := fun g hg => by
  obtain ⟨_, rs, _, _, h3, _⟩ := h
  exact (h3.lt g hg).2
theorem vB_len {cs : List Cel} (h : validB cs = true) : cs.length ≤ 2000 := by
  simp only [validB, Bool.and_eq_true, decide_eq_true_eq] at h; exact h.1
theorem vB_pos {cs : List Cel} (h : validB cs = true) : 0 < cs.length := by
  cases cs with
  | nil => simp [validB, validFrom] at h
  | cons c r => simp
theorem one_own {w : World} {B n c : Nat} {p : Option Addr} {cs : List Cel} (h : OwnC w B p n c cs) : ∀ i, i < [cs].length → OwnC w B (([(p, n, c)] : List Sl3).getD i Sl3.zero).1 (([(p, n, c)] : List Sl3).getD i Sl3.zero).2.1 (([(p, n, c)] : List Sl3).getD i Sl3.zero).2.2 ([cs].getD i []) := fun i hi => by
  have hi0 : i = 0 := by simp at hi; omega
  subst hi0; exact h
theorem two_own {w : World} {B n c n' c' : Nat} {p p' : Option Addr} {cs cs' : List Cel} (h : OwnC w B p n c cs) (h' : OwnC w B p' n' c' cs') : ∀ i, i < [cs, cs'].length → OwnC w B (([(p, n, c), (p', n', c')] : List Sl3).getD i Sl3.zero).1 (([(p, n, c), (p', n', c')] : List Sl3).getD i Sl3.zero).2.1 (([(p, n, c), (p', n', c')] : List Sl3).getD i Sl3.zero).2.2 ([cs, cs'].getD i []) := fun i hi => by
  rcases (by simp at hi; omega : i = 0 ∨ i = 1) with hi0 | hi0
  · subst hi0; exact h
  · subst hi0; exact h'
theorem list_few (css : List (List Cel)) (k : Nat) (q q' : Option Addr) (n c cq B : Nat) (w : World) (hf : Few css k) (hk : k ≤ 100) (hls : LS w B q n c css) (hend : CIn w q' [nilC]) :
    Calls Tryz.prog 20 #[.slice q n c, .slice q' 1 cq] w fun e w' => ∃ r m cr, e = .returned (.slice r m cr) ∧ OwnC w' w.heap.size r m cr (lsL css [nilC]) ∧ Below w.heap.size w w' := by
  have h1 := hf.len; have h2 := hf.flat; have h3 := hf.txt
  have hn : n = css.length := by obtain ⟨_, rs, _, h, _⟩ := hls; exact h
  obtain ⟨b1, b2⟩ := lsL_len css []
  refine l2listE_any css [nilC] q q' n c 1 cq w rfl (by decide) (by decide) hn (by omega) hf.pos (by rw [tll_flat]; omega) ?_ hls.ccin hend
  rw [lsL_mk, List.append_nil, List.length_nil] at b1
  omega
set_option maxRecDepth 100000 in
set_option maxHeartbeats 4000000 in
theorem drawU_0 (p : Option Addr) (c : Nat) (xs : List Int) (w : World) (hb : Bytes xs) (hn : xs.length ≤ 1048576) (hc : xs.length ≤ c) (hx : BIn w p xs) (h0 : (rdI (xs.take 500) 0).toNat % 4 = 0) :
    Calls Tryz.prog 4 #[.slice p xs.length c] w (DrawO w (drawU (xs.take 500))) := by
  have HOP := l4open_any p c xs w hb hn hc hx
  obtain ⟨ys, ey⟩ : ∃ ys, ys = xs.take 500 := ⟨_, rfl⟩
  rw [← ey] at HOP h0 ⊢
  obtain ⟨res, er⟩ : ∃ res, res = drawU ys := ⟨_, rfl⟩
  rw [← er]
  obtain ⟨R, eR⟩ : ∃ R, R = w.heap.size := ⟨_, rfl⟩
  have HRW : Hid (R = w.heap.size) := eR
  rw [← eR] at HOP
  have hby : Bytes ys := fun x hx => hb x (by rw [ey] at hx; exact List.mem_of_mem_take hx)
  obtain ⟨i1, ei⟩ : ∃ i1, i1 = rdN ys 0 := ⟨_, rfl⟩
  obtain ⟨A, eA⟩ : ∃ A, A = anyF ys i1 := ⟨_, rfl⟩
  have hrx := rdI_rng hby 0
  obtain ⟨x, ex⟩ : ∃ x : Nat, rdI ys 0 = x := ⟨(rdI ys 0).toNat, by omega⟩
  have hx2 : x < 256 := by omega
  obtain ⟨z, ez⟩ : ∃ z, z = x % 4 := ⟨_, rfl⟩
  have hz : z < 4 := by omega
  have hmz : (x : Int).tmod 4 = (z : Int) := by rw [ez, Int.tmod_eq_emod_of_nonneg (by omega)]; rfl
  have hBD : Bd A.1 := by rw [eA]; exact any_bd _ _
  have HBD : Hid (Bd A.1) := hBD
  have HTL : Hid (tl A.1 ≤ 12000) := by rw [eA]; exact (anyF_mid ys i1).1.txt
  have HN1 : Hid (∀ W, RdIn W R p c ys 0 → Calls Tryz.prog 15 #[.pointer (some ⟨R, 0, none⟩)] W fun e w' => e = .returned (.int .i64 (x : Int)) ∧ Keep R (R + 1) W w' ∧ w'.heap.size = W.heap.size ∧ RdIn w' R p c ys i1) := fun W hW => by
    have := next_any R c 0 p ys W hW
    rw [ex, ← ei] at this; exact this
  have HANY : Hid (∀ W, RdIn W R p c ys i1 → Calls Tryz.prog 16 #[.pointer (some ⟨R, 0, none⟩)] W (TermOut W R p c ys A)) := fun W hW => by
    have := l4any_any R c i1 p ys W hW
    rw [← eA] at this; exact this
  rw [ex, Int.toNat_natCast, ← ez] at h0
  have hb0 : ((z : Int) == 0) = true := by rw [h0]; rfl
  have HV : Hid (res = (A.1, (anyF ys A.2).1)) := by
    show _ = _
    rw [er]
    unfold drawU
    simp only
    rw [← ei, ← eA, ex, Int.toNat_natCast, if_pos (.inl (by rw [← ez]; exact h0))]
  obtain ⟨nx, enx⟩ : ∃ nx, nx = xs.length := ⟨_, rfl⟩
  rw [← enx] at HOP ⊢
  clear ey er eR ei eA ex ez enx hb hn hc hx hrx hBD h0
  go_enter Tryz.func4, Tryz.ntmps4
  go_wp2_with fail
  refine HOP.mono ?_
  rintro e w1 ⟨rfl, hb1, hs1, hR1⟩
  have HB1 : Hid (Below R w w1) := hb1
  have HR1 : Hid (RdIn w1 R p c ys 0) := hR1
  have hsz1 : R + 1 ≤ w1.heap.size := by omega
  clear hb1 hs1 hR1 HOP
  go_wp2_with fail
  refine (HN1.out w1 HR1.out).mono ?_
  rintro e w2 ⟨rfl, hk2, hs2, hR2⟩
  have HR2 : Hid (RdIn w2 R p c ys i1) := hR2
  have HK2 : Hid (Keep R (R + 1) w1 w2) := hk2
  have hsz2 : R < w2.heap.size := by have := hk2.size; omega
  clear hk2 hs2 hR2
  go_wp2_with fail
  refine (HANY.out w2 HR2.out).mono ?_
  rintro e w3 ⟨q3, n3, c3, rfl, ho3, hk3, hR3⟩
  have HO3 : Hid (OwnC w3 w2.heap.size q3 n3 c3 A.1) := ho3
  have HR3 : Hid (RdIn w3 R p c ys A.2) := hR3
  have HK3 : Hid (Keep R (R + 1) w1 w3) := HK2.out.trans hk3
  have HLO : Hid (∀ W, Keep R (R + 1) w1 W → Below w.heap.size w W) := fun W hW => by rw [← HRW.out]; exact below_onK HB1.out hW (by omega)
  have hn3 : n3 = A.1.length := ho3.1
  have HN3 : Hid (n3 = A.1.length) := hn3
  have HV3 : Hid (∀ b, validB A.1 = b → Calls Tryz.prog 17 #[.slice q3 n3 c3] w3 fun e w' => e = .returned (.bool b) ∧ Below w3.heap.size w3 w') := fun b h => by
    have := specValid_any q3 c3 A.1 w3 (by have := HBD.out.len; omega) ho3.cin
    rw [h, ← hn3] at this; exact this
  have hsz3 : w2.heap.size ≤ w3.heap.size := hk3.size
  clear ho3 hR3 hk3 hn3
  go_wp2_with fail
  refine (l4any_any R c A.2 p ys w3 HR3.out).mono ?_
  rintro e w6 ⟨q6, n6, c6, rfl, ho6, hk6, hR6⟩
  have FIN : Hid (DrawO w (A.1, (anyF ys A.2).1) (.returned (.tuple #[.slice q3 n3 c3, .slice q6 n6 c6])) w6) := DrawO.of (HO3.out.keepR hk6 hsz2) ho6 (HLO.out w6 (HK3.out.trans hk6))
  clear ho6 hk6 hR6
  go_wp2_with fail
  go_ret2
  rw [HV.out]
  exact FIN.out
set_option maxRecDepth 100000 in
set_option maxHeartbeats 4000000 in
theorem drawU_1 (p : Option Addr) (c : Nat) (xs : List Int) (w : World) (hb : Bytes xs) (hn : xs.length ≤ 1048576) (hc : xs.length ≤ c) (hx : BIn w p xs) (h0 : ¬ (rdI (xs.take 500) 0).toNat % 4 = 0) (hval : validB (anyF (xs.take 500) (rdN (xs.take 500) 0)).1 = false) :
    Calls Tryz.prog 4 #[.slice p xs.length c] w (DrawO w (drawU (xs.take 500))) := by
  have HOP := l4open_any p c xs w hb hn hc hx
  obtain ⟨ys, ey⟩ : ∃ ys, ys = xs.take 500 := ⟨_, rfl⟩
  rw [← ey] at HOP h0 hval ⊢
  obtain ⟨res, er⟩ : ∃ res, res = drawU ys := ⟨_, rfl⟩
  rw [← er]
  obtain ⟨R, eR⟩ : ∃ R, R = w.heap.size := ⟨_, rfl⟩
  have HRW : Hid (R = w.heap.size) := eR
  rw [← eR] at HOP
  have hby : Bytes ys := fun x hx => hb x (by rw [ey] at hx; exact List.mem_of_mem_take hx)
  obtain ⟨i1, ei⟩ : ∃ i1, i1 = rdN ys 0 := ⟨_, rfl⟩
  obtain ⟨A, eA⟩ : ∃ A, A = anyF ys i1 := ⟨_, rfl⟩
  have hrx := rdI_rng hby 0
  obtain ⟨x, ex⟩ : ∃ x : Nat, rdI ys 0 = x := ⟨(rdI ys 0).toNat, by omega⟩
  have hx2 : x < 256 := by omega
  rw [← ei, ← eA] at hval
  obtain ⟨z, ez⟩ : ∃ z, z = x % 4 := ⟨_, rfl⟩
  have hz : z < 4 := by omega
  have hmz : (x : Int).tmod 4 = (z : Int) := by rw [ez, Int.tmod_eq_emod_of_nonneg (by omega)]; rfl
  have hBD : Bd A.1 := by rw [eA]; exact any_bd _ _
  have HBD : Hid (Bd A.1) := hBD
  have HTL : Hid (tl A.1 ≤ 12000) := by rw [eA]; exact (anyF_mid ys i1).1.txt
  have HN1 : Hid (∀ W, RdIn W R p c ys 0 → Calls Tryz.prog 15 #[.pointer (some ⟨R, 0, none⟩)] W fun e w' => e = .returned (.int .i64 (x : Int)) ∧ Keep R (R + 1) W w' ∧ w'.heap.size = W.heap.size ∧ RdIn w' R p c ys i1) := fun W hW => by
    have := next_any R c 0 p ys W hW
    rw [ex, ← ei] at this; exact this
  have HANY : Hid (∀ W, RdIn W R p c ys i1 → Calls Tryz.prog 16 #[.pointer (some ⟨R, 0, none⟩)] W (TermOut W R p c ys A)) := fun W hW => by
    have := l4any_any R c i1 p ys W hW
    rw [← eA] at this; exact this
  rw [ex, Int.toNat_natCast, ← ez] at h0
  have hb0 : ((z : Int) == 0) = false := by rw [beq_eq_false_iff_ne]; omega
  have HV : Hid (res = (A.1, (anyF ys A.2).1)) := by
    show _ = _
    rw [er]
    unfold drawU
    simp only
    rw [← ei, ← eA, ex, Int.toNat_natCast, if_pos (.inr hval)]
  obtain ⟨nx, enx⟩ : ∃ nx, nx = xs.length := ⟨_, rfl⟩
  rw [← enx] at HOP ⊢
  clear ey er eR ei eA ex ez enx hb hn hc hx hrx hBD h0
  go_enter Tryz.func4, Tryz.ntmps4
  go_wp2_with fail
  refine HOP.mono ?_
  rintro e w1 ⟨rfl, hb1, hs1, hR1⟩
  have HB1 : Hid (Below R w w1) := hb1
  have HR1 : Hid (RdIn w1 R p c ys 0) := hR1
  have hsz1 : R + 1 ≤ w1.heap.size := by omega
  clear hb1 hs1 hR1 HOP
  go_wp2_with fail
  refine (HN1.out w1 HR1.out).mono ?_
  rintro e w2 ⟨rfl, hk2, hs2, hR2⟩
  have HR2 : Hid (RdIn w2 R p c ys i1) := hR2
  have HK2 : Hid (Keep R (R + 1) w1 w2) := hk2
  have hsz2 : R < w2.heap.size := by have := hk2.size; omega
  clear hk2 hs2 hR2
  go_wp2_with fail
  refine (HANY.out w2 HR2.out).mono ?_
  rintro e w3 ⟨q3, n3, c3, rfl, ho3, hk3, hR3⟩
  have HO3 : Hid (OwnC w3 w2.heap.size q3 n3 c3 A.1) := ho3
  have HR3 : Hid (RdIn w3 R p c ys A.2) := hR3
  have HK3 : Hid (Keep R (R + 1) w1 w3) := HK2.out.trans hk3
  have HLO : Hid (∀ W, Keep R (R + 1) w1 W → Below w.heap.size w W) := fun W hW => by rw [← HRW.out]; exact below_onK HB1.out hW (by omega)
  have hn3 : n3 = A.1.length := ho3.1
  have HN3 : Hid (n3 = A.1.length) := hn3
  have HV3 : Hid (∀ b, validB A.1 = b → Calls Tryz.prog 17 #[.slice q3 n3 c3] w3 fun e w' => e = .returned (.bool b) ∧ Below w3.heap.size w3 w') := fun b h => by
    have := specValid_any q3 c3 A.1 w3 (by have := HBD.out.len; omega) ho3.cin
    rw [h, ← hn3] at this; exact this
  have hsz3 : w2.heap.size ≤ w3.heap.size := hk3.size
  clear ho3 hR3 hk3 hn3
  have HVV := HV3.out false hval
  have hvd : True := trivial
  go_wp2_with fail
  refine HVV.mono ?_
  rintro e w4 ⟨rfl, hb4⟩
  have HO4 : Hid (OwnC w4 w2.heap.size q3 n3 c3 A.1) := HO3.out.below hb4
  have HR4 : Hid (RdIn w4 R p c ys A.2) := HR3.out.grow hb4
  have HK4 : Hid (Keep R (R + 1) w1 w4) := HK3.out.trans (Keep.of_below hb4)
  have hsz4 : w2.heap.size ≤ w4.heap.size := Nat.le_trans hsz3 hb4.size
  clear hb4 HVV
  clear hval hvd
  go_wp2_with fail
  refine (l4any_any R c A.2 p ys w4 HR4.out).mono ?_
  rintro e w6 ⟨q6, n6, c6, rfl, ho6, hk6, hR6⟩
  have FIN : Hid (DrawO w (A.1, (anyF ys A.2).1) (.returned (.tuple #[.slice q3 n3 c3, .slice q6 n6 c6])) w6) := DrawO.of (HO4.out.keepR hk6 hsz2) ho6 (HLO.out w6 (HK4.out.trans hk6))
  clear ho6 hk6 hR6
  go_wp2_with fail
  go_ret2
  rw [HV.out]
  exact FIN.out
set_option maxRecDepth 100000 in
set_option maxHeartbeats 4000000 in
theorem drawU_4 (p : Option Addr) (c : Nat) (xs : List Int) (w : World) (hb : Bytes xs) (hn : xs.length ≤ 1048576) (hc : xs.length ≤ c) (hx : BIn w p xs) (h0 : ¬ (rdI (xs.take 500) 0).toNat % 4 = 0) (hval : validB (anyF (xs.take 500) (rdN (xs.take 500) 0)).1 = true) (h1 : ¬ (rdI (xs.take 500) 0).toNat = 1) (h5 : ¬ (rdI (xs.take 500) 0).toNat = 5) :
    Calls Tryz.prog 4 #[.slice p xs.length c] w (DrawO w (drawU (xs.take 500))) := by
  have HOP := l4open_any p c xs w hb hn hc hx
  obtain ⟨ys, ey⟩ : ∃ ys, ys = xs.take 500 := ⟨_, rfl⟩
  rw [← ey] at HOP h0 hval h1 h5 ⊢
  obtain ⟨res, er⟩ : ∃ res, res = drawU ys := ⟨_, rfl⟩
  rw [← er]
  obtain ⟨R, eR⟩ : ∃ R, R = w.heap.size := ⟨_, rfl⟩
  have HRW : Hid (R = w.heap.size) := eR
  rw [← eR] at HOP
  have hby : Bytes ys := fun x hx => hb x (by rw [ey] at hx; exact List.mem_of_mem_take hx)
  obtain ⟨i1, ei⟩ : ∃ i1, i1 = rdN ys 0 := ⟨_, rfl⟩
  obtain ⟨A, eA⟩ : ∃ A, A = anyF ys i1 := ⟨_, rfl⟩
  have hrx := rdI_rng hby 0
  obtain ⟨x, ex⟩ : ∃ x : Nat, rdI ys 0 = x := ⟨(rdI ys 0).toNat, by omega⟩
  have hx2 : x < 256 := by omega
  rw [← ei, ← eA] at hval
  obtain ⟨z, ez⟩ : ∃ z, z = x % 4 := ⟨_, rfl⟩
  have hz : z < 4 := by omega
  have hmz : (x : Int).tmod 4 = (z : Int) := by rw [ez, Int.tmod_eq_emod_of_nonneg (by omega)]; rfl
  have hBD : Bd A.1 := by rw [eA]; exact any_bd _ _
  have HBD : Hid (Bd A.1) := hBD
  have HTL : Hid (tl A.1 ≤ 12000) := by rw [eA]; exact (anyF_mid ys i1).1.txt
  have HN1 : Hid (∀ W, RdIn W R p c ys 0 → Calls Tryz.prog 15 #[.pointer (some ⟨R, 0, none⟩)] W fun e w' => e = .returned (.int .i64 (x : Int)) ∧ Keep R (R + 1) W w' ∧ w'.heap.size = W.heap.size ∧ RdIn w' R p c ys i1) := fun W hW => by
    have := next_any R c 0 p ys W hW
    rw [ex, ← ei] at this; exact this
  have HANY : Hid (∀ W, RdIn W R p c ys i1 → Calls Tryz.prog 16 #[.pointer (some ⟨R, 0, none⟩)] W (TermOut W R p c ys A)) := fun W hW => by
    have := l4any_any R c i1 p ys W hW
    rw [← eA] at this; exact this
  rw [ex, Int.toNat_natCast, ← ez] at h0
  rw [ex, Int.toNat_natCast] at h1 h5
  have hb0 : ((z : Int) == 0) = false := by rw [beq_eq_false_iff_ne]; omega
  have hb1 : ((x : Int) == 1) = false := by rw [beq_eq_false_iff_ne]; omega
  have hb5 : ((x : Int) == 5) = false := by rw [beq_eq_false_iff_ne]; omega
  have HV : Hid (res = (A.1, (alikeF ys (treeC A.1) A.2).1)) := by
    show _ = _
    rw [er]
    unfold drawU
    simp only
    rw [← ei, ← eA, ex, Int.toNat_natCast, if_neg (by intro hh; rcases hh with hh | hh; rw [← ez] at hh; exact h0 hh; rw [hval] at hh; cases hh), if_neg h1, if_neg h5]
  obtain ⟨nx, enx⟩ : ∃ nx, nx = xs.length := ⟨_, rfl⟩
  rw [← enx] at HOP ⊢
  clear ey er eR ei eA ex ez enx hb hn hc hx hrx hBD h0 h1 h5
  go_enter Tryz.func4, Tryz.ntmps4
  go_wp2_with fail
  refine HOP.mono ?_
  rintro e w1 ⟨rfl, hb1, hs1, hR1⟩
  have HB1 : Hid (Below R w w1) := hb1
  have HR1 : Hid (RdIn w1 R p c ys 0) := hR1
  have hsz1 : R + 1 ≤ w1.heap.size := by omega
  clear hb1 hs1 hR1 HOP
  go_wp2_with fail
  refine (HN1.out w1 HR1.out).mono ?_
  rintro e w2 ⟨rfl, hk2, hs2, hR2⟩
  have HR2 : Hid (RdIn w2 R p c ys i1) := hR2
  have HK2 : Hid (Keep R (R + 1) w1 w2) := hk2
  have hsz2 : R < w2.heap.size := by have := hk2.size; omega
  clear hk2 hs2 hR2
  go_wp2_with fail
  refine (HANY.out w2 HR2.out).mono ?_
  rintro e w3 ⟨q3, n3, c3, rfl, ho3, hk3, hR3⟩
  have HO3 : Hid (OwnC w3 w2.heap.size q3 n3 c3 A.1) := ho3
  have HR3 : Hid (RdIn w3 R p c ys A.2) := hR3
  have HK3 : Hid (Keep R (R + 1) w1 w3) := HK2.out.trans hk3
  have HLO : Hid (∀ W, Keep R (R + 1) w1 W → Below w.heap.size w W) := fun W hW => by rw [← HRW.out]; exact below_onK HB1.out hW (by omega)
  have hn3 : n3 = A.1.length := ho3.1
  have HN3 : Hid (n3 = A.1.length) := hn3
  have HV3 : Hid (∀ b, validB A.1 = b → Calls Tryz.prog 17 #[.slice q3 n3 c3] w3 fun e w' => e = .returned (.bool b) ∧ Below w3.heap.size w3 w') := fun b h => by
    have := specValid_any q3 c3 A.1 w3 (by have := HBD.out.len; omega) ho3.cin
    rw [h, ← hn3] at this; exact this
  have hsz3 : w2.heap.size ≤ w3.heap.size := hk3.size
  clear ho3 hR3 hk3 hn3
  have HVV := HV3.out true hval
  have hvd : True := trivial
  go_wp2_with fail
  refine HVV.mono ?_
  rintro e w4 ⟨rfl, hb4⟩
  have HO4 : Hid (OwnC w4 w2.heap.size q3 n3 c3 A.1) := HO3.out.below hb4
  have HR4 : Hid (RdIn w4 R p c ys A.2) := HR3.out.grow hb4
  have HK4 : Hid (Keep R (R + 1) w1 w4) := HK3.out.trans (Keep.of_below hb4)
  have hsz4 : w2.heap.size ≤ w4.heap.size := Nat.le_trans hsz3 hb4.size
  clear hb4 HVV
  obtain ⟨f1, f2⟩ := treeC_of (valid_forest HBD.out.byte hval)
  have hl := vB_len hval
  obtain ⟨g3, rfl, hg1, hg2⟩ := HO4.out.at0 (vB_pos hval)
  have htl0 : tl A.1 ≤ 12000 := HTL.out
  have HAL := l13alike_any R c A.2 p ys w2.heap.size g3 n3 c3 A.1 (treeC A.1) w4 HR4.out hsz2 HO4.out f1.symm f2 hl htl0
  clear f1 f2 hl hval hvd hg1 hg2 htl0
  go_wp2_with fail
  refine HAL.mono ?_
  rintro e w6 ⟨q6, n6, c6, rfl, ho6, hk6, hR6⟩
  have FIN : Hid (DrawO w (A.1, (alikeF ys (treeC A.1) A.2).1) (.returned (.tuple #[.slice (some ⟨g3, 0, none⟩) n3 c3, .slice q6 n6 c6])) w6) := DrawO.of (HO4.out.keepR hk6 hsz2) ho6 (HLO.out w6 (HK4.out.trans hk6))
  clear ho6 hk6 hR6 HAL
  go_wp2_with fail
  go_ret2
  rw [HV.out]
  exact FIN.out
set_option maxRecDepth 100000 in
set_option maxHeartbeats 4000000 in
theorem drawU_2 (p : Option Addr) (c : Nat) (xs : List Int) (w : World) (hb : Bytes xs) (hn : xs.length ≤ 1048576) (hc : xs.length ≤ c) (hx : BIn w p xs) (h0 : ¬ (rdI (xs.take 500) 0).toNat % 4 = 0) (hval : validB (anyF (xs.take 500) (rdN (xs.take 500) 0)).1 = true) (h1 : (rdI (xs.take 500) 0).toNat = 1) :
    Calls Tryz.prog 4 #[.slice p xs.length c] w (DrawO w (drawU (xs.take 500))) := by
  have HOP := l4open_any p c xs w hb hn hc hx
  obtain ⟨ys, ey⟩ : ∃ ys, ys = xs.take 500 := ⟨_, rfl⟩
  rw [← ey] at HOP h0 hval h1 ⊢
  obtain ⟨res, er⟩ : ∃ res, res = drawU ys := ⟨_, rfl⟩
  rw [← er]
  obtain ⟨R, eR⟩ : ∃ R, R = w.heap.size := ⟨_, rfl⟩
  have HRW : Hid (R = w.heap.size) := eR
  rw [← eR] at HOP
  have hby : Bytes ys := fun x hx => hb x (by rw [ey] at hx; exact List.mem_of_mem_take hx)
  obtain ⟨i1, ei⟩ : ∃ i1, i1 = rdN ys 0 := ⟨_, rfl⟩
  obtain ⟨A, eA⟩ : ∃ A, A = anyF ys i1 := ⟨_, rfl⟩
  have hrx := rdI_rng hby 0
  obtain ⟨x, ex⟩ : ∃ x : Nat, rdI ys 0 = x := ⟨(rdI ys 0).toNat, by omega⟩
  have hx2 : x < 256 := by omega
  rw [← ei, ← eA] at hval
  obtain ⟨z, ez⟩ : ∃ z, z = x % 4 := ⟨_, rfl⟩
  have hz : z < 4 := by omega
  have hmz : (x : Int).tmod 4 = (z : Int) := by rw [ez, Int.tmod_eq_emod_of_nonneg (by omega)]; rfl
  have hBD : Bd A.1 := by rw [eA]; exact any_bd _ _
  have HBD : Hid (Bd A.1) := hBD
  have HTL : Hid (tl A.1 ≤ 12000) := by rw [eA]; exact (anyF_mid ys i1).1.txt
  have HN1 : Hid (∀ W, RdIn W R p c ys 0 → Calls Tryz.prog 15 #[.pointer (some ⟨R, 0, none⟩)] W fun e w' => e = .returned (.int .i64 (x : Int)) ∧ Keep R (R + 1) W w' ∧ w'.heap.size = W.heap.size ∧ RdIn w' R p c ys i1) := fun W hW => by
    have := next_any R c 0 p ys W hW
    rw [ex, ← ei] at this; exact this
  have HANY : Hid (∀ W, RdIn W R p c ys i1 → Calls Tryz.prog 16 #[.pointer (some ⟨R, 0, none⟩)] W (TermOut W R p c ys A)) := fun W hW => by
    have := l4any_any R c i1 p ys W hW
    rw [← eA] at this; exact this
  rw [ex, Int.toNat_natCast, ← ez] at h0
  rw [ex, Int.toNat_natCast] at h1
  have hb0 : ((z : Int) == 0) = false := by rw [beq_eq_false_iff_ne]; omega
  have hb1 : ((x : Int) == 1) = true := by rw [h1]; rfl
  have hry := rdI_rng hby A.2
  obtain ⟨y, eyy⟩ : ∃ y : Nat, rdI ys A.2 = y := ⟨(rdI ys A.2).toNat, by omega⟩
  have hy2 : y < 256 := by omega
  obtain ⟨zy, ezy⟩ : ∃ z, z = y % 12 := ⟨_, rfl⟩
  have hzy : zy < 12 := by omega
  have hmzy : (y : Int).tmod 12 = (zy : Int) := by rw [ezy, Int.tmod_eq_emod_of_nonneg (by omega)]; rfl
  obtain ⟨nn, enn⟩ : ∃ nn, nn = 5 + zy := ⟨_, rfl⟩
  have hadd : (5 : Int) + (zy : Int) = (nn : Int) := by omega
  have hnn : nn ≤ 20 := by omega
  have HN5 : Hid (∀ W, RdIn W R p c ys A.2 → Calls Tryz.prog 15 #[.pointer (some ⟨R, 0, none⟩)] W fun e w' => e = .returned (.int .i64 (y : Int)) ∧ Keep R (R + 1) W w' ∧ w'.heap.size = W.heap.size ∧ RdIn w' R p c ys (rdN ys A.2)) := fun W hW => by
    have := next_any R c A.2 p ys W hW
    rw [eyy] at this; exact this
  have HV : Hid (res = (lsL (leftA nn) [nilC], lsL (rightA nn) [nilC])) := by
    show _ = _
    rw [er]
    unfold drawU
    simp only
    rw [← ei, ← eA, ex, Int.toNat_natCast, if_neg (by intro hh; rcases hh with hh | hh; rw [← ez] at hh; exact h0 hh; rw [hval] at hh; cases hh), if_pos h1, eyy, Int.toNat_natCast, ← ezy, ← enn]
  obtain ⟨nx, enx⟩ : ∃ nx, nx = xs.length := ⟨_, rfl⟩
  rw [← enx] at HOP ⊢
  clear ey er eR ei eA ex ez enx hb hn hc hx hrx hBD h0 h1 hry eyy ezy enn
  go_enter Tryz.func4, Tryz.ntmps4
  go_wp2_with fail
  refine HOP.mono ?_
  rintro e w1 ⟨rfl, hb1, hs1, hR1⟩
  have HB1 : Hid (Below R w w1) := hb1
  have HR1 : Hid (RdIn w1 R p c ys 0) := hR1
  have hsz1 : R + 1 ≤ w1.heap.size := by omega
  clear hb1 hs1 hR1 HOP
  go_wp2_with fail
  refine (HN1.out w1 HR1.out).mono ?_
  rintro e w2 ⟨rfl, hk2, hs2, hR2⟩
  have HR2 : Hid (RdIn w2 R p c ys i1) := hR2
  have HK2 : Hid (Keep R (R + 1) w1 w2) := hk2
  have hsz2 : R < w2.heap.size := by have := hk2.size; omega
  clear hk2 hs2 hR2
  go_wp2_with fail
  refine (HANY.out w2 HR2.out).mono ?_
  rintro e w3 ⟨q3, n3, c3, rfl, ho3, hk3, hR3⟩
  have HO3 : Hid (OwnC w3 w2.heap.size q3 n3 c3 A.1) := ho3
  have HR3 : Hid (RdIn w3 R p c ys A.2) := hR3
  have HK3 : Hid (Keep R (R + 1) w1 w3) := HK2.out.trans hk3
  have HLO : Hid (∀ W, Keep R (R + 1) w1 W → Below w.heap.size w W) := fun W hW => by rw [← HRW.out]; exact below_onK HB1.out hW (by omega)
  have hn3 : n3 = A.1.length := ho3.1
  have HN3 : Hid (n3 = A.1.length) := hn3
  have HV3 : Hid (∀ b, validB A.1 = b → Calls Tryz.prog 17 #[.slice q3 n3 c3] w3 fun e w' => e = .returned (.bool b) ∧ Below w3.heap.size w3 w') := fun b h => by
    have := specValid_any q3 c3 A.1 w3 (by have := HBD.out.len; omega) ho3.cin
    rw [h, ← hn3] at this; exact this
  have hsz3 : w2.heap.size ≤ w3.heap.size := hk3.size
  clear ho3 hR3 hk3 hn3
  have HVV := HV3.out true hval
  have hvd : True := trivial
  go_wp2_with fail
  refine HVV.mono ?_
  rintro e w4 ⟨rfl, hb4⟩
  have HO4 : Hid (OwnC w4 w2.heap.size q3 n3 c3 A.1) := HO3.out.below hb4
  have HR4 : Hid (RdIn w4 R p c ys A.2) := HR3.out.grow hb4
  have HK4 : Hid (Keep R (R + 1) w1 w4) := HK3.out.trans (Keep.of_below hb4)
  have hsz4 : w2.heap.size ≤ w4.heap.size := Nat.le_trans hsz3 hb4.size
  clear hb4 HVV
  clear hval hvd
  go_wp2_with fail
  refine (HN5.out w4 HR4.out).mono ?_
  rintro e w5 ⟨rfl, hk5, hs5, hR5⟩
  have HK5 : Hid (Keep R (R + 1) w1 w5) := HK4.out.trans hk5
  have hsz5 : R < w5.heap.size := by have := hk5.size; omega
  clear hk5 hs5 hR5
  go_wp2_with fail
  go_loopw [7, 8, 10] (fun lv rv iv wr => ∃ (j m1 c1 m2 c2 : Nat) (q1 q2 : Option Addr), j ≤ nn ∧ m1 ≤ 200 ∧ m2 ≤ 200 ∧ lv = .slice q1 m1 c1 ∧ rv = .slice q2 m2 c2 ∧ iv = .int .i64 j ∧ Hid (m1 = j ∧ m2 = j) ∧ Hid (LS wr w5.heap.size q1 m1 c1 (leftA j)) ∧ Hid (LS wr w5.heap.size q2 m2 c2 (rightA j)) ∧ Hid (∀ g, Value.ownBlock (.slice q1 m1 c1) = some g → Value.ownBlock (.slice q2 m2 c2) ≠ some g) ∧ Hid (Below w5.heap.size w5 wr)) (fun _ _ iv _ => nn - (intOf iv).toNat)
  case atStart => exact ⟨0, 0, 0, 0, 0, none, none, Nat.zero_le _, Nat.zero_le _, Nat.zero_le _, rfl, rfl, rfl, ⟨rfl, rfl⟩, LS.nil _ _, LS.nil _ _, fun g h => by (cases h), Below.refl _ _⟩
  case round =>
    obtain ⟨j, m1, c1, m2, c2, q1, q2, hj, hm1, hm2, rfl, rfl, rfl, HMM, HL, HRT, HNE, HB⟩ := hrel
    have hBs : w5.heap.size ≤ wr.heap.size := HB.out.size
    by_cases hlt : j < nn
    · go_wp2_with fail
      refine (l2varO_any _ wr).mono ?_
      rintro e wa ⟨rfl, hoa, hba⟩
      have HOa : Hid (OwnC wa wr.heap.size (some ⟨wr.heap.size, 0, none⟩) 1 1 [(0, (j : Int), [])]) := hoa
      have HBa : Hid (Below wr.heap.size wr wa) := hba
      clear hoa hba
      have HLA : Hid (LS wa w5.heap.size q1 m1 c1 (leftA j)) := HL.out.below HBa.out
      have HRA : Hid (LS wa w5.heap.size q2 m2 c2 (rightA j)) := HRT.out.below HBa.out
      have hBa : w5.heap.size ≤ wa.heap.size := Nat.le_trans hBs HBa.out.size
      go_wp2_with (at_builtin; refine app_ls wa rfl _ _ rfl w5.heap.size q1 m1 c1 (leftA j) [(some ⟨wr.heap.size, 0, none⟩, 1, 1)] [[(0, (j : Int), [])]] 1 rfl rfl rfl HLA.out (fun i hi => by have hi0 : i = 0 := (by simp at hi; omega); subst hi0; exact HOa.out.mono hBs) (by decide) (by decide) rfl hBa (by omega) ?_; intro g1 d1 wb hls1 hgr1 hat1)
      have HL1 : Hid (LS wb w5.heap.size (some ⟨g1, 0, none⟩) (m1 + 1) d1 (leftA (j + 1))) := by rw [leftA_succ]; exact hls1
      have HR1' : Hid (LS wb w5.heap.size q2 m2 c2 (rightA j)) := HRA.out.kept hgr1 HLA.out.rowG (by
        cases hv : Value.ownBlock (.slice q2 m2 c2) with
        | none => exact .inl rfl
        | some k => exact .inr (fun e => HNE.out k e.symm hv))
      have HNE1 : Hid (∀ g, some g1 = some g → Value.ownBlock (.slice q2 m2 c2) ≠ some g) := fun g hg e => by
        cases hg
        rcases hat1 with h' | h'
        · exact HNE.out g1 h' e
        · have := HRA.out.lt g1 e; omega
      have HBb : Hid (Below w5.heap.size w5 wb) := by
        refine (Below.on HB.out HBa.out).trans ((Below.refl _ _).grown hgr1 hBa (fun k hk => ?_))
        exact ((HLA.out.2.choose_spec.2.2.1).lt k hk).1
      have hsb : w5.heap.size ≤ wb.heap.size := HBb.out.size
      clear hls1 hgr1 hat1
      refine (l2varO_any _ wb).mono ?_
      rintro e wc ⟨rfl, hoc, hbc⟩
      have HOc : Hid (OwnC wc wb.heap.size (some ⟨wb.heap.size, 0, none⟩) 1 1 [(0, (j : Int) + 1, [])]) := hoc
      have HBc : Hid (Below wb.heap.size wb wc) := hbc
      clear hoc hbc
      go_wp2_with fail
      refine (l2varO_any _ wc).mono ?_
      rintro e wd ⟨rfl, hod, hbd⟩
      have HOd : Hid (OwnC wd wc.heap.size (some ⟨wc.heap.size, 0, none⟩) 1 1 [(0, (j : Int) + 1, [])]) := hod
      have HBd : Hid (Below wc.heap.size wc wd) := hbd
      clear hod hbd
      have HPR := l2pair_any [102] byte_f (some ⟨wb.heap.size, 0, none⟩) (some ⟨wc.heap.size, 0, none⟩) 1 1 1 1 [(0, (j : Int) + 1, [])] [(0, (j : Int) + 1, [])] wd rfl rfl (HOc.out.below HBd.out).cin HOd.out.cin (by simp) (by simp) (by simp [tl]) (by simp [tl])
      go_wp2_with fail
      rw [fStr]
      refine HPR.mono ?_
      rintro e we ⟨qe, ne, ce, rfl, hoe, hbe⟩
      have HOe : Hid (OwnC we wd.heap.size qe ne ce [(3, 2, [102]), (0, (j : Int) + 1, []), (0, (j : Int) + 1, [])]) := hoe
      have HBbe : Hid (Below wb.heap.size wb we) := Below.on (Below.on HBc.out HBd.out) hbe
      have hBse : w5.heap.size ≤ wd.heap.size := Nat.le_trans hsb (Below.on HBc.out HBd.out).size
      have hBe : w5.heap.size ≤ we.heap.size := Nat.le_trans hsb HBbe.out.size
      have HLE : Hid (LS we w5.heap.size (some ⟨g1, 0, none⟩) (m1 + 1) d1 (leftA (j + 1))) := HL1.out.below HBbe.out
      have HRE : Hid (LS we w5.heap.size q2 m2 c2 (rightA j)) := HR1'.out.below HBbe.out
      clear hoe hbe HPR
      go_wp2_with (at_builtin; refine app_ls we rfl _ _ rfl w5.heap.size q2 m2 c2 (rightA j) [(qe, ne, ce)] [[(3, 2, [102]), (0, (j : Int) + 1, []), (0, (j : Int) + 1, [])]] 1 rfl rfl rfl HRE.out (fun i hi => by have hi0 : i = 0 := (by simp at hi; omega); subst hi0; exact HOe.out.mono hBse) (by decide) (by decide) rfl hBe (by omega) ?_; intro g2 d2 wf hls2 hgr2 hat2)
      have HR2' : Hid (LS wf w5.heap.size (some ⟨g2, 0, none⟩) (m2 + 1) d2 (rightA (j + 1))) := by rw [rightA_succ]; exact hls2
      have HL2' : Hid (LS wf w5.heap.size (some ⟨g1, 0, none⟩) (m1 + 1) d1 (leftA (j + 1))) := HLE.out.kept hgr2 HRE.out.rowG (.inr (fun e => HNE1.out g1 rfl e.symm))
      have HNE2 : Hid (∀ g, some g1 = some g → some g2 ≠ some g) := fun g hg e => by
        have e1 : g1 = g := Option.some.inj hg
        have e2 : g2 = g := Option.some.inj e
        rcases hat2 with h' | h'
        · exact HNE1.out g1 rfl (by rw [h', e2, e1])
        · have := HLE.out.lt g1 rfl; omega
      have HBf : Hid (Below w5.heap.size w5 wf) := by
        refine (Below.on HBb.out HBbe.out).trans ((Below.refl _ _).grown hgr2 hBe (fun k hk => ?_))
        exact ((HRE.out.2.choose_spec.2.2.1).lt k hk).1
      have hm1' : m1 + 1 ≤ 200 := by have := HMM.out.1; omega
      have hm2' : m2 + 1 ≤ 200 := by have := HMM.out.2; omega
      clear hls2 hgr2 hat2
      go_roundw
      case rel => exact ⟨j + 1, m1 + 1, d1, m2 + 1, d2, _, _, by omega, hm1', hm2', rfl, rfl, by go_num, ⟨by have := HMM.out.1; omega, by have := HMM.out.2; omega⟩, HL2', HR2', HNE2, HBf⟩
      case measure => simp [intOf]; omega
    · obtain rfl : j = nn := by omega
      go_wp2_with fail
      rw [nilStr]
      refine (l2atomS_any [91, 93] (fun x hx => by simp at hx; omega) wr).mono ?_
      rintro e wg ⟨pg, rfl, hcg, hbg⟩
      have HBg : Hid (Below wr.heap.size wr wg) := hbg
      have HL1 := list_few (leftA j) j q1 pg m1 c1 1 w5.heap.size wg (leftA_few j) (by omega) (HL.out.below hbg) hcg
      have HRg : Hid (LS wg w5.heap.size q2 m2 c2 (rightA j)) := HRT.out.below hbg
      clear hcg hbg
      go_wp2_with fail
      refine HL1.mono ?_
      rintro e wh ⟨qh, nh, ch, rfl, hoh, hbh⟩
      have HOh : Hid (OwnC wh wg.heap.size qh nh ch (lsL (leftA j) [nilC])) := hoh
      have HRh : Hid (LS wh w5.heap.size q2 m2 c2 (rightA j)) := HRg.out.below hbh
      have HBh : Hid (Below wr.heap.size wr wh) := Below.on HBg.out hbh
      clear hoh hbh HL1
      go_wp2_with fail
      rw [nilStr]
      refine (l2atomS_any [91, 93] (fun x hx => by simp at hx; omega) wh).mono ?_
      rintro e wi ⟨pi, rfl, hci, hbi⟩
      have HR1 := list_few (rightA j) j q2 pi m2 c2 1 w5.heap.size wi (rightA_few j) (by omega) (HRh.out.below hbi) hci
      have HOi : Hid (OwnC wi wg.heap.size qh nh ch (lsL (leftA j) [nilC])) := HOh.out.below hbi
      have HBi : Hid (Below wr.heap.size wr wi) := Below.on HBh.out hbi
      clear hci hbi
      go_wp2_with fail
      refine HR1.mono ?_
      rintro e wk ⟨qk, nk, ck, rfl, hok, hbk⟩
      have FIN : Hid (DrawO w (lsL (leftA j) [nilC], lsL (rightA j) [nilC]) (.returned (.tuple #[.slice qh nh ch, .slice qk nk ck])) wk) := DrawO.of (HOi.out.below hbk) hok (HLO.out wk (HK5.out.trans (Keep.of_below (Below.on HB.out (Below.on HBi.out hbk)))))
      clear hok hbk HR1
      go_wp2_with fail
      go_ret2
      rw [HV.out]
      exact FIN.out
set_option maxRecDepth 100000 in
set_option maxHeartbeats 4000000 in
theorem drawU_3 (p : Option Addr) (c : Nat) (xs : List Int) (w : World) (hb : Bytes xs) (hn : xs.length ≤ 1048576) (hc : xs.length ≤ c) (hx : BIn w p xs) (h0 : ¬ (rdI (xs.take 500) 0).toNat % 4 = 0) (hval : validB (anyF (xs.take 500) (rdN (xs.take 500) 0)).1 = true) (h1 : ¬ (rdI (xs.take 500) 0).toNat = 1) (h5 : (rdI (xs.take 500) 0).toNat = 5) :
    Calls Tryz.prog 4 #[.slice p xs.length c] w (DrawO w (drawU (xs.take 500))) := by
  have HOP := l4open_any p c xs w hb hn hc hx
  obtain ⟨ys, ey⟩ : ∃ ys, ys = xs.take 500 := ⟨_, rfl⟩
  rw [← ey] at HOP h0 hval h1 h5 ⊢
  obtain ⟨res, er⟩ : ∃ res, res = drawU ys := ⟨_, rfl⟩
  rw [← er]
  obtain ⟨R, eR⟩ : ∃ R, R = w.heap.size := ⟨_, rfl⟩
  have HRW : Hid (R = w.heap.size) := eR
  rw [← eR] at HOP
  have hby : Bytes ys := fun x hx => hb x (by rw [ey] at hx; exact List.mem_of_mem_take hx)
  obtain ⟨i1, ei⟩ : ∃ i1, i1 = rdN ys 0 := ⟨_, rfl⟩
  obtain ⟨A, eA⟩ : ∃ A, A = anyF ys i1 := ⟨_, rfl⟩
  have hrx := rdI_rng hby 0
  obtain ⟨x, ex⟩ : ∃ x : Nat, rdI ys 0 = x := ⟨(rdI ys 0).toNat, by omega⟩
  have hx2 : x < 256 := by omega
  rw [← ei, ← eA] at hval
  obtain ⟨z, ez⟩ : ∃ z, z = x % 4 := ⟨_, rfl⟩
  have hz : z < 4 := by omega
  have hmz : (x : Int).tmod 4 = (z : Int) := by rw [ez, Int.tmod_eq_emod_of_nonneg (by omega)]; rfl
  have hBD : Bd A.1 := by rw [eA]; exact any_bd _ _
  have HBD : Hid (Bd A.1) := hBD
  have HTL : Hid (tl A.1 ≤ 12000) := by rw [eA]; exact (anyF_mid ys i1).1.txt
  have HN1 : Hid (∀ W, RdIn W R p c ys 0 → Calls Tryz.prog 15 #[.pointer (some ⟨R, 0, none⟩)] W fun e w' => e = .returned (.int .i64 (x : Int)) ∧ Keep R (R + 1) W w' ∧ w'.heap.size = W.heap.size ∧ RdIn w' R p c ys i1) := fun W hW => by
    have := next_any R c 0 p ys W hW
    rw [ex, ← ei] at this; exact this
  have HANY : Hid (∀ W, RdIn W R p c ys i1 → Calls Tryz.prog 16 #[.pointer (some ⟨R, 0, none⟩)] W (TermOut W R p c ys A)) := fun W hW => by
    have := l4any_any R c i1 p ys W hW
    rw [← eA] at this; exact this
  rw [ex, Int.toNat_natCast, ← ez] at h0
  rw [ex, Int.toNat_natCast] at h1 h5
  have hb0 : ((z : Int) == 0) = false := by rw [beq_eq_false_iff_ne]; omega
  have hb1 : ((x : Int) == 1) = false := by rw [beq_eq_false_iff_ne]; omega
  have hb5 : ((x : Int) == 5) = true := by rw [h5]; rfl
  have hry := rdI_rng hby A.2
  obtain ⟨y, eyy⟩ : ∃ y : Nat, rdI ys A.2 = y := ⟨(rdI ys A.2).toNat, by omega⟩
  have hy2 : y < 256 := by omega
  obtain ⟨zy, ezy⟩ : ∃ z, z = y % 10 := ⟨_, rfl⟩
  have hzy : zy < 10 := by omega
  have hmzy : (y : Int).tmod 10 = (zy : Int) := by rw [ezy, Int.tmod_eq_emod_of_nonneg (by omega)]; rfl
  obtain ⟨nn, enn⟩ : ∃ nn, nn = 8 + zy := ⟨_, rfl⟩
  have hadd : (8 : Int) + (zy : Int) = (nn : Int) := by omega
  have hnn : nn ≤ 20 := by omega
  have HN5 : Hid (∀ W, RdIn W R p c ys A.2 → Calls Tryz.prog 15 #[.pointer (some ⟨R, 0, none⟩)] W fun e w' => e = .returned (.int .i64 (y : Int)) ∧ Keep R (R + 1) W w' ∧ w'.heap.size = W.heap.size ∧ RdIn w' R p c ys (rdN ys A.2)) := fun W hW => by
    have := next_any R c A.2 p ys W hW
    rw [eyy] at this; exact this
  have HV : Hid (res = (lsL (leftB nn ++ [[(0, 0, [])]]) [nilC], lsL (rightB nn ++ [[(0, 1, [])]]) [nilC])) := by
    show _ = _
    rw [er]
    unfold drawU
    simp only
    rw [← ei, ← eA, ex, Int.toNat_natCast, if_neg (by intro hh; rcases hh with hh | hh; rw [← ez] at hh; exact h0 hh; rw [hval] at hh; cases hh), if_neg h1, if_pos h5, eyy, Int.toNat_natCast, ← ezy, ← enn]
  obtain ⟨nx, enx⟩ : ∃ nx, nx = xs.length := ⟨_, rfl⟩
  rw [← enx] at HOP ⊢
  clear ey er eR ei eA ex ez enx hb hn hc hx hrx hBD h0 h1 h5 hry eyy ezy enn
  go_enter Tryz.func4, Tryz.ntmps4
  go_wp2_with fail
  refine HOP.mono ?_
  rintro e w1 ⟨rfl, hb1, hs1, hR1⟩
  have HB1 : Hid (Below R w w1) := hb1
  have HR1 : Hid (RdIn w1 R p c ys 0) := hR1
  have hsz1 : R + 1 ≤ w1.heap.size := by omega
  clear hb1 hs1 hR1 HOP
  go_wp2_with fail
  refine (HN1.out w1 HR1.out).mono ?_
  rintro e w2 ⟨rfl, hk2, hs2, hR2⟩
  have HR2 : Hid (RdIn w2 R p c ys i1) := hR2
  have HK2 : Hid (Keep R (R + 1) w1 w2) := hk2
  have hsz2 : R < w2.heap.size := by have := hk2.size; omega
  clear hk2 hs2 hR2
  go_wp2_with fail
  refine (HANY.out w2 HR2.out).mono ?_
  rintro e w3 ⟨q3, n3, c3, rfl, ho3, hk3, hR3⟩
  have HO3 : Hid (OwnC w3 w2.heap.size q3 n3 c3 A.1) := ho3
  have HR3 : Hid (RdIn w3 R p c ys A.2) := hR3
  have HK3 : Hid (Keep R (R + 1) w1 w3) := HK2.out.trans hk3
  have HLO : Hid (∀ W, Keep R (R + 1) w1 W → Below w.heap.size w W) := fun W hW => by rw [← HRW.out]; exact below_onK HB1.out hW (by omega)
  have hn3 : n3 = A.1.length := ho3.1
  have HN3 : Hid (n3 = A.1.length) := hn3
  have HV3 : Hid (∀ b, validB A.1 = b → Calls Tryz.prog 17 #[.slice q3 n3 c3] w3 fun e w' => e = .returned (.bool b) ∧ Below w3.heap.size w3 w') := fun b h => by
    have := specValid_any q3 c3 A.1 w3 (by have := HBD.out.len; omega) ho3.cin
    rw [h, ← hn3] at this; exact this
  have hsz3 : w2.heap.size ≤ w3.heap.size := hk3.size
  clear ho3 hR3 hk3 hn3
  have HVV := HV3.out true hval
  have hvd : True := trivial
  go_wp2_with fail
  refine HVV.mono ?_
  rintro e w4 ⟨rfl, hb4⟩
  have HO4 : Hid (OwnC w4 w2.heap.size q3 n3 c3 A.1) := HO3.out.below hb4
  have HR4 : Hid (RdIn w4 R p c ys A.2) := HR3.out.grow hb4
  have HK4 : Hid (Keep R (R + 1) w1 w4) := HK3.out.trans (Keep.of_below hb4)
  have hsz4 : w2.heap.size ≤ w4.heap.size := Nat.le_trans hsz3 hb4.size
  clear hb4 HVV
  clear hval hvd
  go_wp2_with fail
  refine (HN5.out w4 HR4.out).mono ?_
  rintro e w5 ⟨rfl, hk5, hs5, hR5⟩
  have HK5 : Hid (Keep R (R + 1) w1 w5) := HK4.out.trans hk5
  have hsz5 : R < w5.heap.size := by have := hk5.size; omega
  clear hk5 hs5 hR5
  go_wp2_with fail
  go_loopw [11, 12, 14] (fun lv rv iv wr => ∃ (j m1 c1 m2 c2 : Nat) (q1 q2 : Option Addr), j ≤ nn ∧ m1 ≤ 200 ∧ m2 ≤ 200 ∧ lv = .slice q1 m1 c1 ∧ rv = .slice q2 m2 c2 ∧ iv = .int .i64 j ∧ Hid (m1 = 2 * j ∧ m2 = 2 * j) ∧ Hid (LS wr w5.heap.size q1 m1 c1 (leftB j)) ∧ Hid (LS wr w5.heap.size q2 m2 c2 (rightB j)) ∧ Hid (∀ g, Value.ownBlock (.slice q1 m1 c1) = some g → Value.ownBlock (.slice q2 m2 c2) ≠ some g) ∧ Hid (Below w5.heap.size w5 wr)) (fun _ _ iv _ => nn - (intOf iv).toNat)
  case atStart => exact ⟨0, 0, 0, 0, 0, none, none, Nat.zero_le _, Nat.zero_le _, Nat.zero_le _, rfl, rfl, rfl, ⟨rfl, rfl⟩, LS.nil _ _, LS.nil _ _, fun g h => by (cases h), Below.refl _ _⟩
  case round =>
    obtain ⟨j, m1, c1, m2, c2, q1, q2, hj, hm1, hm2, rfl, rfl, rfl, HMM, HL, HRT, HNE, HB⟩ := hrel
    have hBs : w5.heap.size ≤ wr.heap.size := HB.out.size
    by_cases hlt : j < nn
    · go_wp2_with fail
      refine (l2varO_any _ wr).mono ?_
      rintro e wa ⟨rfl, hoa, hba⟩
      have HOa : Hid (OwnC wa wr.heap.size (some ⟨wr.heap.size, 0, none⟩) 1 1 [(0, 2 * (j : Int), [])]) := hoa
      have HBa : Hid (Below wr.heap.size wr wa) := hba
      clear hoa hba
      go_wp2_with fail
      refine (l2varO_any _ wa).mono ?_
      rintro e wa2 ⟨rfl, hoa2, hba2⟩
      have HOa2 : Hid (OwnC wa2 wa.heap.size (some ⟨wa.heap.size, 0, none⟩) 1 1 [(0, 2 * (j : Int) + 1, [])]) := hoa2
      have HBa2 : Hid (Below wa.heap.size wa wa2) := hba2
      clear hoa2 hba2
      have HLA : Hid (LS wa2 w5.heap.size q1 m1 c1 (leftB j)) := (HL.out.below HBa.out).below HBa2.out
      have HRA : Hid (LS wa2 w5.heap.size q2 m2 c2 (rightB j)) := (HRT.out.below HBa.out).below HBa2.out
      have hBa0 : w5.heap.size ≤ wa.heap.size := Nat.le_trans hBs HBa.out.size
      have hBa : w5.heap.size ≤ wa2.heap.size := Nat.le_trans hBa0 HBa2.out.size
      have HI1 : Hid (OwnC wa2 w5.heap.size (some ⟨wr.heap.size, 0, none⟩) 1 1 [(0, 2 * (j : Int), [])]) := (HOa.out.below HBa2.out).mono hBs
      have HI2 : Hid (OwnC wa2 w5.heap.size (some ⟨wa.heap.size, 0, none⟩) 1 1 [(0, 2 * (j : Int) + 1, [])]) := HOa2.out.mono hBa0
      go_wp2_with (at_builtin; refine app_ls wa2 rfl _ _ rfl w5.heap.size q1 m1 c1 (leftB j) [(some ⟨wr.heap.size, 0, none⟩, 1, 1), (some ⟨wa.heap.size, 0, none⟩, 1, 1)] [[(0, 2 * (j : Int), [])], [(0, 2 * (j : Int) + 1, [])]] 2 rfl rfl rfl HLA.out (two_own HI1.out HI2.out) (by decide) (by decide) rfl hBa (by omega) ?_; intro g1 d1 wb hls1 hgr1 hat1)
      have HL1 : Hid (LS wb w5.heap.size (some ⟨g1, 0, none⟩) (m1 + 2) d1 (leftB (j + 1))) := by rw [leftB_succ]; exact hls1
      have HR1' : Hid (LS wb w5.heap.size q2 m2 c2 (rightB j)) := HRA.out.kept hgr1 HLA.out.rowG (by
        cases hv : Value.ownBlock (.slice q2 m2 c2) with
        | none => exact .inl rfl
        | some k => exact .inr (fun e => HNE.out k e.symm hv))
      have HNE1 : Hid (∀ g, some g1 = some g → Value.ownBlock (.slice q2 m2 c2) ≠ some g) := fun g hg e => by
        cases hg
        rcases hat1 with h' | h'
        · exact HNE.out g1 h' e
        · have := HRA.out.lt g1 e; omega
      have HBb : Hid (Below w5.heap.size w5 wb) := by
        refine (Below.on HB.out (Below.on HBa.out HBa2.out)).trans ((Below.refl _ _).grown hgr1 hBa (fun k hk => ?_))
        exact ((HLA.out.2.choose_spec.2.2.1).lt k hk).1
      have hsb : w5.heap.size ≤ wb.heap.size := HBb.out.size
      clear hls1 hgr1 hat1
      refine (l2varO_any _ wb).mono ?_
      rintro e wc ⟨rfl, hoc, hbc⟩
      have HOc : Hid (OwnC wc wb.heap.size (some ⟨wb.heap.size, 0, none⟩) 1 1 [(0, 2 * (j : Int) + 2, [])]) := hoc
      have HBc : Hid (Below wb.heap.size wb wc) := hbc
      clear hoc hbc
      go_wp2_with fail
      refine (l2varO_any _ wc).mono ?_
      rintro e wd ⟨rfl, hod, hbd⟩
      have HOd : Hid (OwnC wd wc.heap.size (some ⟨wc.heap.size, 0, none⟩) 1 1 [(0, 2 * (j : Int) + 2, [])]) := hod
      have HBd : Hid (Below wc.heap.size wc wd) := hbd
      clear hod hbd
      have HPR := l2pair_any [102] byte_f (some ⟨wb.heap.size, 0, none⟩) (some ⟨wc.heap.size, 0, none⟩) 1 1 1 1 [(0, 2 * (j : Int) + 2, [])] [(0, 2 * (j : Int) + 2, [])] wd rfl rfl (HOc.out.below HBd.out).cin HOd.out.cin (by simp) (by simp) (by simp [tl]) (by simp [tl])
      go_wp2_with fail
      rw [fStr]
      refine HPR.mono ?_
      rintro e wp ⟨qe, ne, ce, rfl, hoe, hbe⟩
      have HOp : Hid (OwnC wp wd.heap.size qe ne ce [(3, 2, [102]), (0, 2 * (j : Int) + 2, []), (0, 2 * (j : Int) + 2, [])]) := hoe
      have HBbp : Hid (Below wb.heap.size wb wp) := Below.on (Below.on HBc.out HBd.out) hbe
      have hBsd : w5.heap.size ≤ wd.heap.size := Nat.le_trans hsb (Below.on HBc.out HBd.out).size
      clear hoe hbe HPR HOc HOd HBc HBd
      go_wp2_with fail
      refine (l2varO_any _ wp).mono ?_
      rintro e wc2 ⟨rfl, hoc, hbc⟩
      have HOc : Hid (OwnC wc2 wp.heap.size (some ⟨wp.heap.size, 0, none⟩) 1 1 [(0, 2 * (j : Int) + 3, [])]) := hoc
      have HBc : Hid (Below wp.heap.size wp wc2) := hbc
      clear hoc hbc
      go_wp2_with fail
      refine (l2varO_any _ wc2).mono ?_
      rintro e wd2 ⟨rfl, hod, hbd⟩
      have HOd : Hid (OwnC wd2 wc2.heap.size (some ⟨wc2.heap.size, 0, none⟩) 1 1 [(0, 2 * (j : Int) + 3, [])]) := hod
      have HBd : Hid (Below wc2.heap.size wc2 wd2) := hbd
      clear hod hbd
      have HPR := l2pair_any [102] byte_f (some ⟨wp.heap.size, 0, none⟩) (some ⟨wc2.heap.size, 0, none⟩) 1 1 1 1 [(0, 2 * (j : Int) + 3, [])] [(0, 2 * (j : Int) + 3, [])] wd2 rfl rfl (HOc.out.below HBd.out).cin HOd.out.cin (by simp) (by simp) (by simp [tl]) (by simp [tl])
      go_wp2_with fail
      rw [fStr]
      refine HPR.mono ?_
      rintro e we ⟨qe2, ne2, ce2, rfl, hoe, hbe⟩
      have HBpe : Hid (Below wp.heap.size wp we) := Below.on (Below.on HBc.out HBd.out) hbe
      have HBbe : Hid (Below wb.heap.size wb we) := Below.on HBbp.out HBpe.out
      have hBse : w5.heap.size ≤ wd2.heap.size := Nat.le_trans (Nat.le_trans hsb HBbp.out.size) (Below.on HBc.out HBd.out).size
      have hBe : w5.heap.size ≤ we.heap.size := Nat.le_trans hsb HBbe.out.size
      have HI3 : Hid (OwnC we w5.heap.size qe ne ce [(3, 2, [102]), (0, 2 * (j : Int) + 2, []), (0, 2 * (j : Int) + 2, [])]) := (HOp.out.below HBpe.out).mono hBsd
      have HI4 : Hid (OwnC we w5.heap.size qe2 ne2 ce2 [(3, 2, [102]), (0, 2 * (j : Int) + 3, []), (0, 2 * (j : Int) + 3, [])]) := OwnC.mono hoe hBse
      have HLE : Hid (LS we w5.heap.size (some ⟨g1, 0, none⟩) (m1 + 2) d1 (leftB (j + 1))) := HL1.out.below HBbe.out
      have HRE : Hid (LS we w5.heap.size q2 m2 c2 (rightB j)) := HR1'.out.below HBbe.out
      clear hoe hbe HPR
      go_wp2_with (at_builtin; refine app_ls we rfl _ _ rfl w5.heap.size q2 m2 c2 (rightB j) [(qe, ne, ce), (qe2, ne2, ce2)] [[(3, 2, [102]), (0, 2 * (j : Int) + 2, []), (0, 2 * (j : Int) + 2, [])], [(3, 2, [102]), (0, 2 * (j : Int) + 3, []), (0, 2 * (j : Int) + 3, [])]] 2 rfl rfl rfl HRE.out (two_own HI3.out HI4.out) (by decide) (by decide) rfl hBe (by omega) ?_; intro g2 d2 wf hls2 hgr2 hat2)
      have HR2' : Hid (LS wf w5.heap.size (some ⟨g2, 0, none⟩) (m2 + 2) d2 (rightB (j + 1))) := by rw [rightB_succ]; exact hls2
      have HL2' : Hid (LS wf w5.heap.size (some ⟨g1, 0, none⟩) (m1 + 2) d1 (leftB (j + 1))) := HLE.out.kept hgr2 HRE.out.rowG (.inr (fun e => HNE1.out g1 rfl e.symm))
      have HNE2 : Hid (∀ g, some g1 = some g → some g2 ≠ some g) := fun g hg e => by
        have e1 : g1 = g := Option.some.inj hg
        have e2 : g2 = g := Option.some.inj e
        rcases hat2 with h' | h'
        · exact HNE1.out g1 rfl (by rw [h', e2, e1])
        · have := HLE.out.lt g1 rfl; omega
      have HBf : Hid (Below w5.heap.size w5 wf) := by
        refine (Below.on HBb.out HBbe.out).trans ((Below.refl _ _).grown hgr2 hBe (fun k hk => ?_))
        exact ((HRE.out.2.choose_spec.2.2.1).lt k hk).1
      have hm1' : m1 + 2 ≤ 200 := by have := HMM.out.1; omega
      have hm2' : m2 + 2 ≤ 200 := by have := HMM.out.2; omega
      clear hls2 hgr2 hat2
      go_roundw
      case rel => exact ⟨j + 1, m1 + 2, d1, m2 + 2, d2, _, _, by omega, hm1', hm2', rfl, rfl, by go_num, ⟨by have := HMM.out.1; omega, by have := HMM.out.2; omega⟩, HL2', HR2', HNE2, HBf⟩
      case measure => simp [intOf]; omega
    · obtain rfl : j = nn := by omega
      go_wp2_with fail
      refine (l2varO_any _ wr).mono ?_
      rintro e wa ⟨rfl, hoa, hba⟩
      have HOa : Hid (OwnC wa w5.heap.size (some ⟨wr.heap.size, 0, none⟩) 1 1 [(0, 0, [])]) := OwnC.mono hoa hBs
      have HBa : Hid (Below wr.heap.size wr wa) := hba
      clear hoa hba
      have HLA : Hid (LS wa w5.heap.size q1 m1 c1 (leftB j)) := HL.out.below HBa.out
      have HRA : Hid (LS wa w5.heap.size q2 m2 c2 (rightB j)) := HRT.out.below HBa.out
      have hBa : w5.heap.size ≤ wa.heap.size := Nat.le_trans hBs HBa.out.size
      go_wp2_with (at_builtin; refine app_ls wa rfl _ _ rfl w5.heap.size q1 m1 c1 (leftB j) [(some ⟨wr.heap.size, 0, none⟩, 1, 1)] [[(0, 0, [])]] 1 rfl rfl rfl HLA.out (one_own HOa.out) (by decide) (by decide) rfl hBa (by omega) ?_; intro g1 d1 wb hls1 hgr1 hat1)
      have HL1 : Hid (LS wb w5.heap.size (some ⟨g1, 0, none⟩) (m1 + 1) d1 (leftB j ++ [[(0, 0, [])]])) := hls1
      have HR1' : Hid (LS wb w5.heap.size q2 m2 c2 (rightB j)) := HRA.out.kept hgr1 HLA.out.rowG (by
        cases hv : Value.ownBlock (.slice q2 m2 c2) with
        | none => exact .inl rfl
        | some k => exact .inr (fun e => HNE.out k e.symm hv))
      have HNE1 : Hid (∀ g, some g1 = some g → Value.ownBlock (.slice q2 m2 c2) ≠ some g) := fun g hg e => by
        cases hg
        rcases hat1 with h' | h'
        · exact HNE.out g1 h' e
        · have := HRA.out.lt g1 e; omega
      have HBb : Hid (Below w5.heap.size w5 wb) := by
        refine (Below.on HB.out HBa.out).trans ((Below.refl _ _).grown hgr1 hBa (fun k hk => ?_))
        exact ((HLA.out.2.choose_spec.2.2.1).lt k hk).1
      have hsb : w5.heap.size ≤ wb.heap.size := HBb.out.size
      clear hls1 hgr1 hat1
      refine (l2varO_any _ wb).mono ?_
      rintro e we ⟨rfl, hoe, hbe⟩
      have HOe : Hid (OwnC we w5.heap.size (some ⟨wb.heap.size, 0, none⟩) 1 1 [(0, 1, [])]) := OwnC.mono hoe hsb
      have HBe : Hid (Below wb.heap.size wb we) := hbe
      clear hoe hbe
      have hBe : w5.heap.size ≤ we.heap.size := Nat.le_trans hsb HBe.out.size
      have HLE : Hid (LS we w5.heap.size (some ⟨g1, 0, none⟩) (m1 + 1) d1 (leftB j ++ [[(0, 0, [])]])) := HL1.out.below HBe.out
      have HRE : Hid (LS we w5.heap.size q2 m2 c2 (rightB j)) := HR1'.out.below HBe.out
      go_wp2_with (at_builtin; refine app_ls we rfl _ _ rfl w5.heap.size q2 m2 c2 (rightB j) [(some ⟨wb.heap.size, 0, none⟩, 1, 1)] [[(0, 1, [])]] 1 rfl rfl rfl HRE.out (one_own HOe.out) (by decide) (by decide) rfl hBe (by omega) ?_; intro g2 d2 wz hls2 hgr2 hat2)
      have HRZ : Hid (LS wz w5.heap.size (some ⟨g2, 0, none⟩) (m2 + 1) d2 (rightB j ++ [[(0, 1, [])]])) := hls2
      have HLZ : Hid (LS wz w5.heap.size (some ⟨g1, 0, none⟩) (m1 + 1) d1 (leftB j ++ [[(0, 0, [])]])) := HLE.out.kept hgr2 HRE.out.rowG (.inr (fun e => HNE1.out g1 rfl e.symm))
      have HBZ : Hid (Below w5.heap.size w5 wz) := by
        refine (Below.on HBb.out HBe.out).trans ((Below.refl _ _).grown hgr2 hBe (fun k hk => ?_))
        exact ((HRE.out.2.choose_spec.2.2.1).lt k hk).1
      clear hls2 hgr2 hat2 HL HRT HB HRA HLA HLE HRE
      have hf1 : Few (leftB j ++ [[(0, 0, [])]]) (j + 1) := (leftB_few j).app (by simp) (by simp) (by simp [tl]) (fun ds hd => by rw [List.mem_singleton.1 hd]; exact var_ok _)
      have hf2 : Few (rightB j ++ [[(0, 1, [])]]) (j + 1) := (rightB_few j).app (by simp) (by simp) (by simp [tl]) (fun ds hd => by rw [List.mem_singleton.1 hd]; exact var_ok _)
      have HF1 : Hid _ := hf1
      have HF2 : Hid _ := hf2
      clear hf1 hf2
      rw [nilStr]
      refine (l2atomS_any [91, 93] (fun x hx => by simp at hx; omega) wz).mono ?_
      rintro e wg ⟨pg, rfl, hcg, hbg⟩
      have HBg : Hid (Below wz.heap.size wz wg) := hbg
      have HL1 := list_few (leftB j ++ [[(0, 0, [])]]) (j + 1) (some ⟨g1, 0, none⟩) pg (m1 + 1) d1 1 w5.heap.size wg HF1.out (by omega) (HLZ.out.below hbg) hcg
      have HRg : Hid (LS wg w5.heap.size (some ⟨g2, 0, none⟩) (m2 + 1) d2 (rightB j ++ [[(0, 1, [])]])) := HRZ.out.below hbg
      clear hcg hbg
      go_wp2_with fail
      refine HL1.mono ?_
      rintro e wh ⟨qh, nh, ch, rfl, hoh, hbh⟩
      have HOh : Hid (OwnC wh wg.heap.size qh nh ch (lsL (leftB j ++ [[(0, 0, [])]]) [nilC])) := hoh
      have HRh : Hid (LS wh w5.heap.size (some ⟨g2, 0, none⟩) (m2 + 1) d2 (rightB j ++ [[(0, 1, [])]])) := HRg.out.below hbh
      have HBh : Hid (Below wz.heap.size wz wh) := Below.on HBg.out hbh
      clear hoh hbh HL1
      go_wp2_with fail
      rw [nilStr]
      refine (l2atomS_any [91, 93] (fun x hx => by simp at hx; omega) wh).mono ?_
      rintro e wi ⟨pi, rfl, hci, hbi⟩
      have HR1 := list_few (rightB j ++ [[(0, 1, [])]]) (j + 1) (some ⟨g2, 0, none⟩) pi (m2 + 1) d2 1 w5.heap.size wi HF2.out (by omega) (HRh.out.below hbi) hci
      have HOi : Hid (OwnC wi wg.heap.size qh nh ch (lsL (leftB j ++ [[(0, 0, [])]]) [nilC])) := HOh.out.below hbi
      have HBi : Hid (Below wz.heap.size wz wi) := Below.on HBh.out hbi
      clear hci hbi
      go_wp2_with fail
      refine HR1.mono ?_
      rintro e wk ⟨qk, nk, ck, rfl, hok, hbk⟩
      have FIN : Hid (DrawO w (lsL (leftB j ++ [[(0, 0, [])]]) [nilC], lsL (rightB j ++ [[(0, 1, [])]]) [nilC]) (.returned (.tuple #[.slice qh nh ch, .slice qk nk ck])) wk) := DrawO.of (HOi.out.below hbk) hok (HLO.out wk (HK5.out.trans (Keep.of_below (Below.on HBZ.out (Below.on HBi.out hbk)))))
      clear hok hbk HR1
      go_wp2_with fail
      go_ret2
      rw [HV.out]
      exact FIN.out
theorem drawU_any (p : Option Addr) (c : Nat) (xs : List Int) (w : World) (hb : Bytes xs) (hn : xs.length ≤ 1048576) (hc : xs.length ≤ c) (hx : BIn w p xs) :
    Calls Tryz.prog 4 #[.slice p xs.length c] w (DrawO w (drawU (xs.take 500))) := by
  by_cases h0 : (rdI (xs.take 500) 0).toNat % 4 = 0
  · exact drawU_0 p c xs w hb hn hc hx h0
  cases hv : validB (anyF (xs.take 500) (rdN (xs.take 500) 0)).1 with
  | false => exact drawU_1 p c xs w hb hn hc hx h0 hv
  | true =>
    by_cases h1 : (rdI (xs.take 500) 0).toNat = 1
    · exact drawU_2 p c xs w hb hn hc hx h0 hv h1
    by_cases h5 : (rdI (xs.take 500) 0).toNat = 5
    · exact drawU_3 p c xs w hb hn hc hx h0 hv h1 h5
    · exact drawU_4 p c xs w hb hn hc hx h0 hv h1 h5
end Go.Proofs.YtaakpdakeolgeaaGreat

