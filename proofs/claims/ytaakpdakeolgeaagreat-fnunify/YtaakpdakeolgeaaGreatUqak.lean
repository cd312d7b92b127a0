/- Texts of SSU, Dt5, Dt6, Dt7. Own work of the verifier. -/
import Derived.Test.YtaakpdakeolgeaaGreatUqaj
import Derived.Test.YtaakpdakeolgeaaGreatUqag
import Derived.Test.YtaakpdakeolgeaaGreatUqaf
namespace Go.Proofs.YtaakpdakeolgeaaGreat
open Go Go.RowKit
set_option linter.unusedVariables false
theorem app_itemU (U : Nat) (w : World) {ops : Array Oper} {rest : List Oper} {o : Oper} {a : Act} {Q : Exit → Act → World → Prop} (hgd : o.guard = none) (s x : Operand)
    (ho : o.op = .call { callee := .builtin .append, args := #[s, x], argTypes := #[42, 42] }) (B : Nat) (p : Option Addr) (n c : Nat) (css : List (List Cel))
    (hs : a.eval s = .slice p n c) (hown : OwnCC w B U p n c css) (hU : U ≤ w.heap.size) (hB : B ≤ U) (q : Option Addr) (m cq : Nat) (cs : List Cel) (hit : OwnC w U q m cq cs)
    (hx : a.eval x = .slice (some ⟨w.heap.size, 0, none⟩) 1 1) (hlen : n + 1 ≤ 1000000)
    (h : ∀ g n' cap w', OwnCC w' B w'.heap.size (some ⟨g, 0, none⟩) n' cap (css ++ [cs]) → Below B (w.alloc (.cells #[.slice q m cq] 23)) w' → Hid (n' = n + 1) → wpList Tryz.prog ops Q rest (a.put o.dst (.slice (some ⟨g, 0, none⟩) n' cap)) w') : wpList Tryz.prog ops Q (o :: rest) a (w.alloc (.cells #[.slice q m cq] 23)) := by
  obtain ⟨i0, hi, hz0, hz1, hz2⟩ := info_parts infoCells
  obtain ⟨ds, hss⟩ := hown
  have hal : Below w.heap.size w (w.alloc (.cells #[.slice q m cq] 23)) := (Below.refl _ _).alloc (Nat.le_refl _) _
  refine wpList_append_lies _ hgd s x 42 ho B 23 i0 (.slice none 0 0) 1 24 Tryz.underlying42 hi hz0 hz1 hz2 rfl (by decide) (.slice p n c) n (vals ds css) hs (row_below hss.row hal) ⟨w.heap.size, 0, none⟩ 1 1 [.slice q m cq] hx rfl (cell_one_new _ _ _) (fun u hu => by simp at hu; rw [hu]; rfl) (by decide) (by unfold maxLen; omega) (by omega) (Nat.le_trans (Nat.le_trans hB hU) hal.size) _ rfl ?_
  intro g cap w' hown' hgrow hat hlt
  have hown : ∀ k, Value.ownBlock (.slice p n c) = some k → B ≤ k ∧ k < U := fun k hk => ⟨(hss.row.lt k hk).1, hss.top k hk⟩
  have hm := hit.1
  have hg2 : g < U ∨ w.heap.size ≤ g := by
    rcases hat with h' | h'
    · exact .inl (hown g h').2
    · right; rw [h']; simp
  have hws := hU
  have keepS : ∀ k, k < w.heap.size → (∀ j, Value.ownBlock (.slice p n c) = some j → k ≠ j) → w'.heap[k]? = w.heap[k]? := fun k hk hne =>
    (hgrow.block k (by simp; omega) (fun e => hne k e.symm rfl)).trans (Below.heap_alloc _ _ _ hk)
  have hitU := hit.up
  refine h g _ cap w' ⟨ds ++ [(q, cq, U, w.heap.size)], ?_⟩ ((Below.refl _ _).grown hgrow (Nat.le_trans (Nat.le_trans hB hU) hal.size) (fun k hk => (hown k hk).1)) rfl
  have hdl := hss.dlen
  have hln := hss.len
  refine ⟨by simp; omega, by simp; omega, by rw [vals_append _ _ _ _ hdl, ← hm]; exact hown', fun i hi => ?_, fun i hi => ?_, fun i hi k hk => ?_, fun i j hij hj => ?_, fun k hk => ?_⟩
  · have hi' : i ≤ css.length := by simp at hi; omega
    rw [ds_append_at _ _ _ (by omega), css_append_at _ _ _ hi']
    by_cases e : i = css.length
    · rw [if_pos (by omega), if_pos e, ← hm]
      exact hitU.other (by have := hgrow.size; simp at this; omega) (fun k h1 h2 h3 => keepS k h1 (fun j hj => by have := (hown j hj).2; omega))
    · rw [if_neg (by omega), if_neg e]
      refine (hss.item i (by omega)).other (by have := hgrow.size; simp at this; omega) (fun k h1 h2 h3 => keepS k h1 (fun j hj => ?_))
      have := hss.away i (by omega) j hj
      omega
  · have hi' : i ≤ css.length := by simp at hi; omega
    rw [ds_append_at _ _ _ (by omega)]
    have hwl : w.heap.size ≤ w'.heap.size := by have := hgrow.size; simp at this; omega
    by_cases e : i = css.length
    · rw [if_pos (by omega)]; exact ⟨hB, hwl⟩
    · rw [if_neg (by omega)]
      have := hss.low i (by omega)
      exact ⟨this.1, by omega⟩
  · have hi' : i ≤ css.length := by simp at hi; omega
    have hk' : k = g := (Option.some.inj hk).symm
    subst hk'
    rw [ds_append_at _ _ _ (by omega)]
    by_cases e : i = css.length
    · rw [if_pos (by omega)]; exact hg2
    · rw [if_neg (by omega)]
      rcases hat with h' | h'
      · exact hss.away i (by omega) _ h'
      · right
        have := (hss.low i (by omega)).2
        have hsz : (w.alloc (.cells #[.slice q m cq] 23)).heap.size = w.heap.size + 1 := by simp
        rw [h', hsz]; omega
  · have hj' : j ≤ css.length := by simp at hj; omega
    rw [ds_append_at _ _ _ (by omega), ds_append_at _ _ _ (by omega), if_neg (by omega)]
    by_cases e : j = css.length
    · rw [if_pos (by omega)]
      exact (hss.low i (by omega)).2
    · rw [if_neg (by omega)]
      exact hss.apart i j hij (by omega)
  · have hk' : k = g := (Option.some.inj hk).symm
    omega
end Go.Proofs.YtaakpdakeolgeaaGreat

namespace Go.Proofs.YtaakpdakeolgeaaGreat
open Go Go.RowKit
set_option linter.unusedVariables false
theorem Keep.on_below {R U : Nat} {w W W' : World} (h : Keep R U w W) (k : Below w.heap.size W W') : Keep R U w W' :=
  ⟨k.os.trans h.os, k.tape.trans h.tape, k.output.trans h.output, Nat.le_trans h.size k.size, fun j hj hp => (k.block j hj).trans (h.block j hj hp)⟩
def TermK (R c : Nat) (p : Option Addr) (xs : List Int) (D : Int) (f : Nat → List Cel × Nat) : Prop :=
  ∀ i w, RdIn w R p c xs i → Calls Tryz.prog 46 #[.pointer (some ⟨R, 0, none⟩), .int .i64 D] w (TermOut w R p c xs (f i))
theorem tll_flat : ∀ css : List (List Cel), tll css = css.flatten.length + tl css.flatten
  | [] => rfl
  | c :: r => by
    rw [tll, tll_flat r, List.flatten_cons, tl_app, List.length_append]; omega
theorem lsL_mk (css : List (List Cel)) (en : List Cel) : lsL css en = mkL css ++ en := rfl
theorem OwnCC.rows {w : World} {B U : Nat} {p : Option Addr} {n c : Nat} {css : List (List Cel)} (h : OwnCC w B U p n c css) (hn : 0 < css.length) (hs : ∀ j, j < css.length → 0 < (css.getD j []).length ∧ (css.getD j []).length + tl (css.getD j []) ≤ 100000) : ∃ g, p = some ⟨g, 0, none⟩ ∧ RowsIn w g css := by
  obtain ⟨ds, h⟩ := h
  have hl := h.len
  obtain ⟨g, cap, hv, hb, hg⟩ := h.row.form (by omega)
  simp only [Value.slice.injEq, true_and] at hv
  obtain ⟨rfl, rfl⟩ := hv
  refine ⟨g, rfl, fun j hj => ⟨(ds.getD j It.zero).1, (ds.getD j It.zero).2.1, ?_, (h.item j hj).toC.cin, hs j hj⟩⟩
  rw [h.row.cellAt j (by omega)]
  exact vals_at ds css j hj
theorem Sml.few {m : Nat} {cs : List Cel} (h : Sml m cs) (hm : m ≤ 600) : 0 < cs.length ∧ cs.length + tl cs ≤ 100000 := ⟨h.pos, by have := h.len; have := h.txt; omega⟩
theorem nilStr : (⟨#[91, 93]⟩ : ByteArray) = strOfNums [91, 93] := rfl
theorem list_small (f : Nat → List Cel × Nat) (n i m : Nat) (en : List Cel) (q q' : Option Addr) (c le cq : Nat) (w : World) (hn : n ≤ 10) (hm : m ≤ 600) (hf : ∀ i, Sml m (f i).1) (hle : le = en.length) (h0 : 0 < le) (hlb : le + tl en ≤ 1000000) (hin : CCIn w q (iterT f n i).1) (hend : CIn w q' en) :
    Calls Tryz.prog 20 #[.slice q n c, .slice q' le cq] w fun e w' => ∃ r m cr, e = .returned (.slice r m cr) ∧ OwnC w' w.heap.size r m cr (lsL (iterT f n i).1 en) ∧ Below w.heap.size w w' := by
  obtain ⟨a1, a2⟩ := iterT_sml f hf n i
  obtain ⟨b1, b2⟩ := lsL_len (iterT f n i).1 []
  have hl := iterT_len f n i
  have hnm : n * m ≤ 10 * 600 := Nat.mul_le_mul hn hm
  refine l2listE_any (iterT f n i).1 en q q' n c le cq w hle h0 hlb hl.symm (by omega) (fun j hj => (iterT_at f (P := fun cs => 0 < cs.length) (fun i => (hf i).pos) n i j (by omega))) (by rw [tll_flat]; omega) ?_ hin hend
  rw [lsL_mk, List.append_nil, List.length_nil] at b1
  omega
set_option maxRecDepth 100000 in
set_option maxHeartbeats 4000000 in
theorem term_list (R c i m0 : Nat) (p : Option Addr) (xs : List Int) (D : Int) (f g : Nat → List Cel × Nat) (w : World) (h : RdIn w R p c xs i) (hD : -10 ≤ D ∧ D ≤ 10) (hc : 0 < D) (hF : TermK R c p xs (D - 1) f) (hG : TermK R c p xs (D - 2) g) (hm0 : m0 ≤ 600) (hf : ∀ i, Sml m0 (f i).1) (hg : ∀ i, Sml m0 (g i).1) (h0 : ¬ rdN xs i = xs.length) (h50 : ¬ (rdI xs i).toNat < 50) (h90 : (rdI xs i).toNat < 90) :
    Calls Tryz.prog 46 #[.pointer (some ⟨R, 0, none⟩), .int .i64 D] w (TermOut w R p c xs (nodeT xs f g i)) := by
  have HH : Hid (RdIn w R p c xs i) := h
  have HF : Hid (TermK R c p xs (D - 1) f) := hF
  have HG : Hid (TermK R c p xs (D - 2) g) := hG
  have HSF : Hid (∀ i, Sml m0 (f i).1) := hf
  have HSG : Hid (∀ i, Sml m0 (g i).1) := hg
  have HM0 : Hid (m0 ≤ 600) := hm0
  have hr := rdI_rng h.bytes i
  have hle := rdN_le h.le
  have hsm := h.small
  have hRw : R < w.heap.size := h.lt
  have hr1 := rdI_rng h.bytes (rdN xs i)
  have HNT : Hid (nodeT xs f g i = (if (rdI xs i).toNat % 4 = 0 then (lsL (iterT f (1 + (rdI xs i).toNat % 3) (rdN xs i)).1 (g (iterT f (1 + (rdI xs i).toNat % 3) (rdN xs i)).2).1, (g (iterT f (1 + (rdI xs i).toNat % 3) (rdN xs i)).2).2) else (lsL (iterT f (1 + (rdI xs i).toNat % 3) (rdN xs i)).1 [nilC], (iterT f (1 + (rdI xs i).toNat % 3) (rdN xs i)).2))) := by
    show _ = _
    unfold nodeT
    simp only
    rw [if_neg (by intro hh; rcases hh with hh | hh; exact h0 hh; exact h50 hh), if_pos h90]
  obtain ⟨n, en⟩ : ∃ n, n = xs.length := ⟨_, rfl⟩
  rw [← en] at hle hsm h0
  have HEN : Hid (n = xs.length) := en
  obtain ⟨i1, ei⟩ : ∃ i1, i1 = rdN xs i := ⟨_, rfl⟩
  rw [← ei] at hle hr1 h0
  rw [← ei] at HNT
  have HEI : Hid (i1 = rdN xs i) := ei
  have hd : decide (D ≤ 0) = false := decide_eq_false (by omega)
  obtain ⟨res, er⟩ : ∃ res, res = nodeT xs f g i := ⟨_, rfl⟩
  rw [← er]
  have HER : Hid (res = nodeT xs f g i) := er
  clear h en ei hF hG hf hg hm0 er
  go_enter Tryz.func46, Tryz.ntmps46
  go_wp2_with fail
  refine (next_any R c i p xs w HH.out).mono ?_
  rintro e w2 ⟨rfl, hk2, hs2, hR2⟩
  have HK2 : Hid (Keep R (R + 1) w w2) := hk2
  have HR2 : Hid (RdIn w2 R p c xs i1) := by rw [HEI.out]; exact hR2
  obtain ⟨x, ex⟩ : ∃ x : Nat, rdI xs i = x := ⟨(rdI xs i).toNat, by omega⟩
  have hxt : (rdI xs i).toNat = x := by rw [ex]; exact Int.toNat_natCast x
  rw [hxt] at h50 h90
  rw [ex] at hr ⊢
  rw [hxt] at HNT
  have hx50 : decide ((x : Int) < 50) = false := decide_eq_false (by omega)
  clear hk2 hs2 hR2 ex hxt
  go_wp2_with fail
  refine (left_any R c i1 p xs w2 HR2.out).mono ?_
  rintro e wL ⟨rfl, hbL⟩
  have HRL : Hid (RdIn wL R p c xs i1) := HR2.out.grow hbL
  have HKL : Hid (Keep R (R + 1) w wL) := HK2.out.trans (Keep.of_below hbL)
  rw [← HEN.out]
  obtain ⟨lf, el⟩ : ∃ lf, lf = n - i1 := ⟨_, rfl⟩
  rw [← el]
  have hlf : lf ≤ 500 := by omega
  have hz0 : ((lf : Int) == 0) = false := by simp; omega
  clear hbL el
  have hx90 : decide ((x : Int) < 90) = true := decide_eq_true (by omega)
  obtain ⟨z3, e3⟩ : ∃ z, z = x % 3 := ⟨_, rfl⟩
  have hz3 : z3 < 3 := by omega
  have hm3 : (x : Int).tmod 3 = (z3 : Int) := by rw [e3, Int.tmod_eq_emod_of_nonneg (by omega)]; rfl
  obtain ⟨z4, e4⟩ : ∃ z, z = x % 4 := ⟨_, rfl⟩
  have hz4 : z4 < 4 := by omega
  have hm4 : (x : Int).tmod 4 = (z4 : Int) := by rw [e4, Int.tmod_eq_emod_of_nonneg (by omega)]; rfl
  have HZ4 : Hid (z4 = x % 4) := e4
  obtain ⟨nn, enn⟩ : ∃ nn, nn = 1 + z3 := ⟨_, rfl⟩
  have hnn : nn ≤ 3 := by omega
  have hnn0 : 1 ≤ nn := by omega
  have hadd : (1 : Int) + (z3 : Int) = (nn : Int) := by omega
  have HV : Hid (res = if z4 = 0 then (lsL (iterT f nn i1).1 (g (iterT f nn i1).2).1, (g (iterT f nn i1).2).2) else (lsL (iterT f nn i1).1 [nilC], (iterT f nn i1).2)) := by
    show _ = _
    rw [HER.out, HNT.out, ← e3, ← e4, ← enn]
  clear e3 e4 enn h90 h50 HNT HER
  go_wp2_with fail
  go_loopw [6, 8] (fun it iv wr => ∃ (j mq cq : Nat) (q : Option Addr), j ≤ nn ∧ mq = j ∧ iv = .int .i64 j ∧ it = .slice q mq cq ∧ Hid (OwnCC wr w.heap.size wr.heap.size q mq cq (iterT f j i1).1) ∧ Hid (Keep R (R + 1) w wr) ∧ Hid (RdIn wr R p c xs (iterT f j i1).2)) (fun _ iv _ => nn - (intOf iv).toNat)
  case atStart => exact ⟨0, 0, 0, none, Nat.zero_le _, rfl, rfl, rfl, OwnCC.nil _ _ _, HKL, HRL⟩
  case round =>
    obtain ⟨j, mq, cq, q, hj, rfl, rfl, rfl, HO, HK, HR⟩ := hrel
    have hBs : w.heap.size ≤ wr.heap.size := HK.out.size
    by_cases hlt : mq < nn
    · have HC := HF.out (iterT f mq i1).2 wr HR.out
      go_wp2_with fail
      refine HC.mono ?_
      rintro e w3 ⟨q3, n3, c3, rfl, ho3, hk3, hR3⟩
      have HO3 : Hid (OwnC w3 wr.heap.size q3 n3 c3 (f (iterT f mq i1).2).1) := ho3
      have HR3 : Hid (RdIn w3 R p c xs (f (iterT f mq i1).2).2) := hR3
      have HK3 : Hid (Keep R (R + 1) w w3) := HK.out.trans hk3
      have HOW : Hid (OwnCC w3 w.heap.size wr.heap.size q mq cq (iterT f mq i1).1) := HO.out.keep hk3 (.inr (by omega))
      have hU3 : wr.heap.size ≤ w3.heap.size := hk3.size
      clear ho3 hR3 hk3 HC
      go_wp2_with (at_builtin; refine app_itemU wr.heap.size w3 rfl _ _ rfl w.heap.size q mq cq _ rfl HOW.out hU3 hBs q3 n3 c3 _ HO3.out rfl (by omega) ?_; intro g4 n4 cap4 w4 hown4 hb4 hn4)
      have HO4 : Hid (OwnCC w4 w.heap.size w4.heap.size (some ⟨g4, 0, none⟩) n4 cap4 (iterT f (mq + 1) i1).1) := hown4
      have hbA : Below w.heap.size w3 w4 := ((Below.refl _ _).alloc (Nat.le_trans hBs hU3) _).trans hb4
      have HK4 : Hid (Keep R (R + 1) w w4) := HK3.out.on_below hbA
      have HR4 : Hid (RdIn w4 R p c xs (iterT f (mq + 1) i1).2) := HR3.out.below hbA hRw
      have hn4' : n4 = mq + 1 := hn4.out
      clear hown4 hb4 hbA hn4
      subst hn4'
      go_roundw
      case rel => exact ⟨mq + 1, mq + 1, cap4, _, by omega, rfl, by go_num, rfl, HO4, HK4, HR4⟩
      case measure => simp [intOf]; omega
    · obtain rfl : mq = nn := by omega
      go_wp2_with fail
      rw [nilStr]
      refine (l2atomS_any [91, 93] (fun x hx => by simp at hx; omega) wr).mono ?_
      rintro e w5 ⟨p5, rfl, hc5, hb5⟩
      have HC5 : Hid (CIn w5 p5 [nilC]) := hc5
      have HK5 : Hid (Keep R (R + 1) w w5) := HK.out.trans (Keep.of_below hb5)
      have HR5 : Hid (RdIn w5 R p c xs (iterT f mq i1).2) := HR.out.grow hb5
      have HO5 : Hid (OwnCC w5 w.heap.size wr.heap.size q mq cq (iterT f mq i1).1) := HO.out.below hb5
      have hs5 : w.heap.size ≤ w5.heap.size := HK5.out.size
      clear hc5 hb5
      by_cases h4 : z4 = 0
      · have hb4 : ((z4 : Int) == 0) = true := by rw [h4]; rfl
        have HC := HG.out (iterT f mq i1).2 w5 HR5.out
        have HW : Hid (res = (lsL (iterT f mq i1).1 (g (iterT f mq i1).2).1, (g (iterT f mq i1).2).2)) := HV.out.trans (if_pos h4)
        clear h4
        go_wp2_with fail
        refine HC.mono ?_
        rintro e w6 ⟨q6, n6, c6, rfl, ho6, hk6, hR6⟩
        have hsg := HSG.out (iterT f mq i1).2
        have HL := list_small f mq i1 m0 (g (iterT f mq i1).2).1 q q6 cq n6 c6 w6 (by omega) HM0.out HSF.out ho6.1 (by have := ho6.1; have := hsg.pos; omega) (by have := ho6.1; have := hsg.len; have := hsg.txt; have := HM0.out; omega) (HO5.out.keep hk6 (.inr (by omega))).ccin ho6.cin
        have HK6 : Hid (Keep R (R + 1) w w6) := HK5.out.trans hk6
        have HR6 : Hid (RdIn w6 R p c xs (g (iterT f mq i1).2).2) := hR6
        clear ho6 hk6 hR6 hsg HC
        go_wp2_with fail
        refine HL.mono ?_
        rintro e w7 ⟨q7, n7, c7, rfl, ho7, hb7⟩
        have FIN : Hid _ := TermOut.of HK6.out HR6.out ho7 hb7
        clear ho7 hb7 HL
        go_wp2_with fail
        go_ret
        rw [HW.out]
        exact FIN.out
      · have hb4 : ((z4 : Int) == 0) = false := by simp; omega
        have HL := list_small f mq i1 m0 [nilC] q p5 cq 1 1 w5 (by omega) HM0.out HSF.out rfl (by decide) (by decide) HO5.out.ccin HC5.out
        have HW : Hid (res = (lsL (iterT f mq i1).1 [nilC], (iterT f mq i1).2)) := HV.out.trans (if_neg h4)
        clear h4
        go_wp2_with fail
        refine HL.mono ?_
        rintro e w7 ⟨q7, n7, c7, rfl, ho7, hb7⟩
        have FIN : Hid _ := TermOut.of HK5.out HR5.out ho7 hb7
        clear ho7 hb7 HL
        go_wp2_with fail
        go_ret
        rw [HW.out]
        exact FIN.out
set_option maxRecDepth 100000 in
set_option maxHeartbeats 4000000 in
theorem term_many (R c i m0 : Nat) (p : Option Addr) (xs : List Int) (D : Int) (f g : Nat → List Cel × Nat) (w : World) (h : RdIn w R p c xs i) (hD : -10 ≤ D ∧ D ≤ 10) (hc : 0 < D) (hF : TermK R c p xs (D - 1) f) (hG : TermK R c p xs (D - 2) g) (hm0 : m0 ≤ 600) (hf : ∀ i, Sml m0 (f i).1) (hg : ∀ i, Sml m0 (g i).1) (h0 : ¬ rdN xs i = xs.length) (h50 : ¬ (rdI xs i).toNat < 50) (h230 : ¬ (rdI xs i).toNat < 230) :
    Calls Tryz.prog 46 #[.pointer (some ⟨R, 0, none⟩), .int .i64 D] w (TermOut w R p c xs (nodeT xs f g i)) := by
  have HH : Hid (RdIn w R p c xs i) := h
  have HF : Hid (TermK R c p xs (D - 1) f) := hF
  have HG : Hid (TermK R c p xs (D - 2) g) := hG
  have HSF : Hid (∀ i, Sml m0 (f i).1) := hf
  have HSG : Hid (∀ i, Sml m0 (g i).1) := hg
  have HM0 : Hid (m0 ≤ 600) := hm0
  have hr := rdI_rng h.bytes i
  have hle := rdN_le h.le
  have hsm := h.small
  have hRw : R < w.heap.size := h.lt
  have hr1 := rdI_rng h.bytes (rdN xs i)
  have HNT : Hid (nodeT xs f g i = ((3, ((1 + (rdI xs i).toNat % 4 : Nat) : Int), numsU (nameAt (rdI xs (iterT f (1 + (rdI xs i).toNat % 4) (rdN xs i)).2).toNat)) :: (iterT f (1 + (rdI xs i).toNat % 4) (rdN xs i)).1.flatten, rdN xs (iterT f (1 + (rdI xs i).toNat % 4) (rdN xs i)).2)) := by
    show _ = _
    unfold nodeT
    simp only
    rw [if_neg (by intro hh; rcases hh with hh | hh; exact h0 hh; exact h50 hh), if_neg (by omega), if_neg (by omega), if_neg h230]
  obtain ⟨n, en⟩ : ∃ n, n = xs.length := ⟨_, rfl⟩
  rw [← en] at hle hsm h0
  have HEN : Hid (n = xs.length) := en
  obtain ⟨i1, ei⟩ : ∃ i1, i1 = rdN xs i := ⟨_, rfl⟩
  rw [← ei] at hle hr1 h0
  rw [← ei] at HNT
  have HEI : Hid (i1 = rdN xs i) := ei
  have hd : decide (D ≤ 0) = false := decide_eq_false (by omega)
  obtain ⟨res, er⟩ : ∃ res, res = nodeT xs f g i := ⟨_, rfl⟩
  rw [← er]
  have HER : Hid (res = nodeT xs f g i) := er
  clear h en ei hF hG hf hg hm0 er
  go_enter Tryz.func46, Tryz.ntmps46
  go_wp2_with fail
  refine (next_any R c i p xs w HH.out).mono ?_
  rintro e w2 ⟨rfl, hk2, hs2, hR2⟩
  have HK2 : Hid (Keep R (R + 1) w w2) := hk2
  have HR2 : Hid (RdIn w2 R p c xs i1) := by rw [HEI.out]; exact hR2
  obtain ⟨x, ex⟩ : ∃ x : Nat, rdI xs i = x := ⟨(rdI xs i).toNat, by omega⟩
  have hxt : (rdI xs i).toNat = x := by rw [ex]; exact Int.toNat_natCast x
  rw [hxt] at h50 h230
  rw [ex] at hr ⊢
  rw [hxt] at HNT
  have hx50 : decide ((x : Int) < 50) = false := decide_eq_false (by omega)
  clear hk2 hs2 hR2 ex hxt
  go_wp2_with fail
  refine (left_any R c i1 p xs w2 HR2.out).mono ?_
  rintro e wL ⟨rfl, hbL⟩
  have HRL : Hid (RdIn wL R p c xs i1) := HR2.out.grow hbL
  have HKL : Hid (Keep R (R + 1) w wL) := HK2.out.trans (Keep.of_below hbL)
  rw [← HEN.out]
  obtain ⟨lf, el⟩ : ∃ lf, lf = n - i1 := ⟨_, rfl⟩
  rw [← el]
  have hlf : lf ≤ 500 := by omega
  have hz0 : ((lf : Int) == 0) = false := by simp; omega
  clear hbL el
  have hx90 : decide ((x : Int) < 90) = false := decide_eq_false (by omega)
  have hx180 : decide ((x : Int) < 180) = false := decide_eq_false (by omega)
  have hx230 : decide ((x : Int) < 230) = false := decide_eq_false (by omega)
  obtain ⟨z4, e4⟩ : ∃ z, z = x % 4 := ⟨_, rfl⟩
  have hz4 : z4 < 4 := by omega
  have hm4 : (x : Int).tmod 4 = (z4 : Int) := by rw [e4, Int.tmod_eq_emod_of_nonneg (by omega)]; rfl
  obtain ⟨nn, enn⟩ : ∃ nn, nn = 1 + z4 := ⟨_, rfl⟩
  have hnn : nn ≤ 4 := by omega
  have hnn0 : 1 ≤ nn := by omega
  have hadd : (1 : Int) + (z4 : Int) = (nn : Int) := by omega
  have HV : Hid (res = ((3, (nn : Int), numsU (nameAt (rdI xs (iterT f nn i1).2).toNat)) :: (iterT f nn i1).1.flatten, rdN xs (iterT f nn i1).2)) := by
    show _ = _
    rw [HER.out, HNT.out, ← e4, ← enn]
  obtain ⟨wA, eA⟩ : ∃ wA, wA = (wL.alloc (.cells (binU.map strV).toArray 9)).alloc (.cells (unaU.map strV).toArray 9) := ⟨_, rfl⟩
  have hbA : Below wL.heap.size wL wA := by rw [eA]; exact ((Below.refl _ _).alloc (Nat.le_refl _) _).alloc (by simp) _
  have HKA : Hid (Keep R (R + 1) w wA) := HKL.out.trans (Keep.of_below hbA)
  have HRA : Hid (RdIn wA R p c xs i1) := HRL.out.grow hbA
  clear e4 enn h230 h50 hbA HNT HER
  go_wp2_with fail
  have eA' : wA = (wL.alloc (Obj.cells #[.string ⟨#[45]⟩, .string ⟨#[43]⟩, .string ⟨#[61]⟩, .string ⟨#[44]⟩, .string ⟨#[58, 45]⟩, .string ⟨#[59]⟩, .string ⟨#[45, 62]⟩, .string ⟨#[105, 115]⟩, .string ⟨#[94]⟩, .string ⟨#[42, 42]⟩, .string ⟨#[42]⟩, .string ⟨#[64, 64]⟩, .string ⟨#[109, 111, 100]⟩, .string ⟨#[102]⟩, .string ⟨#[45, 45, 62]⟩, .string ⟨#[114]⟩, .string ⟨#[113]⟩] 9)).alloc (Obj.cells #[.string ⟨#[45]⟩, .string ⟨#[92, 43]⟩, .string ⟨#[58, 45]⟩, .string ⟨#[43]⟩, .string ⟨#[123, 125]⟩, .string ⟨#[100, 121, 110, 97, 109, 105, 99]⟩, .string ⟨#[103]⟩, .string ⟨#[92]⟩, .string ⟨#[112]⟩, .string ⟨#[64, 64]⟩, .string ⟨#[91, 93]⟩, .string ⟨#[33]⟩] 9) := by rw [eA]; rfl
  rw [← eA']
  clear eA eA'
  go_loopw [12, 14] (fun it iv wr => ∃ (j mq cq : Nat) (q : Option Addr), j ≤ nn ∧ mq = j ∧ iv = .int .i64 j ∧ it = .slice q mq cq ∧ Hid (OwnCC wr w.heap.size wr.heap.size q mq cq (iterT f j i1).1) ∧ Hid (Keep R (R + 1) w wr) ∧ Hid (RdIn wr R p c xs (iterT f j i1).2)) (fun _ iv _ => nn - (intOf iv).toNat)
  case atStart => exact ⟨0, 0, 0, none, Nat.zero_le _, rfl, rfl, rfl, OwnCC.nil _ _ _, HKA, HRA⟩
  case round =>
    obtain ⟨j, mq, cq, q, hj, rfl, rfl, rfl, HO, HK, HR⟩ := hrel
    have hBs : w.heap.size ≤ wr.heap.size := HK.out.size
    by_cases hlt : mq < nn
    · have HC := HF.out (iterT f mq i1).2 wr HR.out
      go_wp2_with fail
      refine HC.mono ?_
      rintro e w3 ⟨q3, n3, c3, rfl, ho3, hk3, hR3⟩
      have HO3 : Hid (OwnC w3 wr.heap.size q3 n3 c3 (f (iterT f mq i1).2).1) := ho3
      have HR3 : Hid (RdIn w3 R p c xs (f (iterT f mq i1).2).2) := hR3
      have HK3 : Hid (Keep R (R + 1) w w3) := HK.out.trans hk3
      have HOW : Hid (OwnCC w3 w.heap.size wr.heap.size q mq cq (iterT f mq i1).1) := HO.out.keep hk3 (.inr (by omega))
      have hU3 : wr.heap.size ≤ w3.heap.size := hk3.size
      clear ho3 hR3 hk3 HC
      go_wp2_with (at_builtin; refine app_itemU wr.heap.size w3 rfl _ _ rfl w.heap.size q mq cq _ rfl HOW.out hU3 hBs q3 n3 c3 _ HO3.out rfl (by omega) ?_; intro g4 n4 cap4 w4 hown4 hb4 hn4)
      have HO4 : Hid (OwnCC w4 w.heap.size w4.heap.size (some ⟨g4, 0, none⟩) n4 cap4 (iterT f (mq + 1) i1).1) := hown4
      have hbA : Below w.heap.size w3 w4 := ((Below.refl _ _).alloc (Nat.le_trans hBs hU3) _).trans hb4
      have HK4 : Hid (Keep R (R + 1) w w4) := HK3.out.on_below hbA
      have HR4 : Hid (RdIn w4 R p c xs (iterT f (mq + 1) i1).2) := HR3.out.below hbA hRw
      have hn4' : n4 = mq + 1 := hn4.out
      clear hown4 hb4 hbA hn4
      subst hn4'
      go_roundw
      case rel => exact ⟨mq + 1, mq + 1, cap4, _, by omega, rfl, by go_num, rfl, HO4, HK4, HR4⟩
      case measure => simp [intOf]; omega
    · obtain rfl : mq = nn := by omega
      go_wp2_with fail
      refine (l4name_any R c (iterT f mq i1).2 p xs wr HR.out).mono ?_
      rintro e w5 ⟨g5, n5, c5, rfl, hn5, hk5, hR5, hg5, ht5⟩
      obtain ⟨s, es⟩ : ∃ s, s = numsU (nameAt (rdI xs (iterT f mq i1).2).toNat) := ⟨_, rfl⟩
      rw [← es] at hn5 ht5
      have HW : Hid (res = ((3, (mq : Int), s) :: (iterT f mq i1).1.flatten, rdN xs (iterT f mq i1).2)) := by rw [es]; exact HV.out
      have hcv : (convert 22 9 (.slice (some ⟨g5, 0, none⟩) n5 c5)).run Tryz.prog w5 = .ok (.string (strOfNums s)) w5 := conv_str ht5.bin n5 c5 ht5.1 9 Tryz.underlying9
      have hbs : Byte s := by rw [es]; exact byte_numsU _
      obtain ⟨gr, eg, hrows⟩ := (HO.out.keep hk5 (.inr (by omega))).rows (by rw [iterT_len]; omega) (fun j hj => (iterT_at f (P := fun cs => 0 < cs.length ∧ cs.length + tl cs ≤ 100000) (fun i => (HSF.out i).few HM0.out) mq i1 j (by rw [iterT_len] at hj; exact hj)))
      subst eg
      have HL := l2comp_any s hbs gr mq cq (iterT f mq i1).1 w5 (iterT_len f mq i1).symm (by omega) hrows
      have HK5 : Hid (Keep R (R + 1) w w5) := HK.out.trans hk5
      have HR5 : Hid (RdIn w5 R p c xs (rdN xs (iterT f mq i1).2)) := hR5
      clear hk5 hR5 hg5 ht5 hrows hbs es hn5
      go_wp2_with fail
      refine HL.mono ?_
      rintro e w7 ⟨q7, n7, c7, rfl, ho7, hb7⟩
      have FIN : Hid _ := TermOut.of HK5.out HR5.out ho7 hb7
      clear ho7 hb7 HL
      go_wp2_with fail
      go_ret
      rw [HW.out]
      exact FIN.out
end Go.Proofs.YtaakpdakeolgeaaGreat

namespace Go.Proofs.YtaakpdakeolgeaaGreat
open Go Go.RowKit
set_option linter.unusedVariables false
theorem str_made (w : World) (L : List (List UInt8)) (t : TypeId) (i : Nat) (h : i < L.length) : (w.alloc (.cells (L.map strV).toArray t)).cell? ⟨w.heap.size, i, none⟩ = some (.string (strOfNums (numsU (L.getD i [])))) := by
  rw [cell_lit w (L.map strV) t i (by rw [List.length_map]; exact h)]
  simp only [List.getElem_map, List.getD, List.getElem?_eq_getElem h, strOf_numsU]; rfl
theorem OwnC.keepR {w w' : World} {B R : Nat} {p : Option Addr} {n c : Nat} {cs : List Cel} (h : OwnC w B p n c cs) (hk : Keep R (R + 1) w w') (hR : R < B) : OwnC w' B p n c cs := by
  obtain ⟨rfl, rs, hl, hr, hf, ha⟩ := h
  refine ⟨rfl, rs, hl, ⟨hr.1, ?_⟩, fun i hi => ⟨(hf i hi).1, (hf i hi).2.1, (hf i hi).2.2.other hk.size (fun g hn e => ?_)⟩, ha⟩
  · rcases hr.2 with h' | ⟨g, cap, cur, hv, hB, hg, r⟩
    · exact .inl h'
    · exact .inr ⟨g, cap, cur, hv, hB, (hk.block g (Array.getElem?_eq_some_iff.1 hg).1 (.inr (by omega))).trans hg, r⟩
  · obtain ⟨g', e', hB, hlt, _⟩ := (hf i hi).2.2.2 hn
    rw [e] at e'
    cases e'
    exact hk.block g hlt (.inr (by omega))
theorem one_made (s : List Int) (hs : Byte s) (w : World) {m B n c : Nat} {q : Option Addr} {cs : List Cel} (ho : OwnC w B q n c cs) (hc : Sml m cs) (hm : m ≤ 600) :
    Calls Tryz.prog 49 #[.string (strOfNums s), .slice (some ⟨w.heap.size, 0, none⟩) 1 1] (w.alloc (.cells #[.slice q n c] 23)) fun e w' => ∃ q m c2, e = .returned (.slice q m c2) ∧ OwnC w' w.heap.size q m c2 ((3, 1, s) :: cs) ∧ Below w.heap.size w w' := by
  have hb : Below w.heap.size w (w.alloc (.cells #[.slice q n c] 23)) := (Below.refl _ _).alloc (Nat.le_refl _) _
  have hx := l2comp_any s hs w.heap.size 1 1 [cs] (w.alloc (.cells #[.slice q n c] 23)) rfl (by decide) (rows_one (q := q) (c := c) (by rw [← ho.1]; exact cell_of_row _ _ 0 _ _ _ (heap_alloc_new w _)) (ho.cin.below hb) hc.pos (hc.few hm).2)
  refine hx.mono ?_
  rintro e w' ⟨q', m', c', he, ho', hb'⟩
  refine ⟨q', m', c', he, ?_, Below.on hb hb'⟩
  have := ho'.mono (B' := w.heap.size) (by simp)
  simpa using this
set_option maxRecDepth 100000 in
set_option maxHeartbeats 4000000 in
theorem term_two (R c i m0 : Nat) (p : Option Addr) (xs : List Int) (D : Int) (f g : Nat → List Cel × Nat) (w : World) (h : RdIn w R p c xs i) (hD : -10 ≤ D ∧ D ≤ 10) (hc : 0 < D) (hF : TermK R c p xs (D - 1) f) (hG : TermK R c p xs (D - 2) g) (hm0 : m0 ≤ 600) (hf : ∀ i, Sml m0 (f i).1) (hg : ∀ i, Sml m0 (g i).1) (h0 : ¬ rdN xs i = xs.length) (h50 : ¬ (rdI xs i).toNat < 50) (h90 : ¬ (rdI xs i).toNat < 90) (h180 : (rdI xs i).toNat < 180) :
    Calls Tryz.prog 46 #[.pointer (some ⟨R, 0, none⟩), .int .i64 D] w (TermOut w R p c xs (nodeT xs f g i)) := by
  have HH : Hid (RdIn w R p c xs i) := h
  have HF : Hid (TermK R c p xs (D - 1) f) := hF
  have HG : Hid (TermK R c p xs (D - 2) g) := hG
  have HSF : Hid (∀ i, Sml m0 (f i).1) := hf
  have HSG : Hid (∀ i, Sml m0 (g i).1) := hg
  have HM0 : Hid (m0 ≤ 600) := hm0
  have hr := rdI_rng h.bytes i
  have hle := rdN_le h.le
  have hsm := h.small
  have hRw : R < w.heap.size := h.lt
  have hr1 := rdI_rng h.bytes (rdN xs i)
  have HNT : Hid (nodeT xs f g i = ((3, 2, numsU (binU.getD ((rdI xs (rdN xs i)).toNat % 17) [])) :: ((f (rdN xs (rdN xs i))).1 ++ (f (f (rdN xs (rdN xs i))).2).1), (f (f (rdN xs (rdN xs i))).2).2)) := by
    show _ = _
    unfold nodeT
    simp only
    rw [if_neg (by intro hh; rcases hh with hh | hh; exact h0 hh; exact h50 hh), if_neg h90, if_pos h180]
  obtain ⟨n, en⟩ : ∃ n, n = xs.length := ⟨_, rfl⟩
  rw [← en] at hle hsm h0
  have HEN : Hid (n = xs.length) := en
  obtain ⟨i1, ei⟩ : ∃ i1, i1 = rdN xs i := ⟨_, rfl⟩
  rw [← ei] at hle hr1 h0
  rw [← ei] at HNT
  have HEI : Hid (i1 = rdN xs i) := ei
  have hd : decide (D ≤ 0) = false := decide_eq_false (by omega)
  obtain ⟨res, er⟩ : ∃ res, res = nodeT xs f g i := ⟨_, rfl⟩
  rw [← er]
  have HER : Hid (res = nodeT xs f g i) := er
  clear h en ei hF hG hf hg hm0 er
  go_enter Tryz.func46, Tryz.ntmps46
  go_wp2_with fail
  refine (next_any R c i p xs w HH.out).mono ?_
  rintro e w2 ⟨rfl, hk2, hs2, hR2⟩
  have HK2 : Hid (Keep R (R + 1) w w2) := hk2
  have HR2 : Hid (RdIn w2 R p c xs i1) := by rw [HEI.out]; exact hR2
  obtain ⟨x, ex⟩ : ∃ x : Nat, rdI xs i = x := ⟨(rdI xs i).toNat, by omega⟩
  have hxt : (rdI xs i).toNat = x := by rw [ex]; exact Int.toNat_natCast x
  rw [hxt] at h50 h90 h180
  rw [ex] at hr ⊢
  have hx50 : decide ((x : Int) < 50) = false := decide_eq_false (by omega)
  clear hk2 hs2 hR2 ex hxt
  go_wp2_with fail
  refine (left_any R c i1 p xs w2 HR2.out).mono ?_
  rintro e wL ⟨rfl, hbL⟩
  have HRL : Hid (RdIn wL R p c xs i1) := HR2.out.grow hbL
  have HKL : Hid (Keep R (R + 1) w wL) := HK2.out.trans (Keep.of_below hbL)
  rw [← HEN.out]
  obtain ⟨lf, el⟩ : ∃ lf, lf = n - i1 := ⟨_, rfl⟩
  rw [← el]
  have hlf : lf ≤ 500 := by omega
  have hz0 : ((lf : Int) == 0) = false := by simp; omega
  clear hbL el
  have hx90 : decide ((x : Int) < 90) = false := decide_eq_false (by omega)
  have hx180 : decide ((x : Int) < 180) = true := decide_eq_true (by omega)
  obtain ⟨y, ey⟩ : ∃ y : Nat, rdI xs i1 = y := ⟨(rdI xs i1).toNat, by omega⟩
  have hy : y < 256 := by omega
  obtain ⟨z, ez⟩ : ∃ z, z = y % 17 := ⟨_, rfl⟩
  have hz : z < 17 := by omega
  have hzi : (0 : Int) ≤ (z : Int) := by omega
  have hzj : (z : Int) < 17 := by omega
  have hzn : (z : Int).toNat = z := Int.toNat_natCast z
  have hwrp : IntKind.i64.wrap (D - 1) = D - 1 := by rw [IntKind.wrap_i64]; omega
  have hmz : (y : Int).tmod 17 = (z : Int) := by rw [ez, Int.tmod_eq_emod_of_nonneg (by omega)]; rfl
  obtain ⟨sN, es⟩ : ∃ s, s = numsU (binU.getD z []) := ⟨_, rfl⟩
  have HBS : Hid (Byte sN) := by rw [es]; exact byte_numsU _
  obtain ⟨i2, ei2⟩ : ∃ i2, i2 = rdN xs i1 := ⟨_, rfl⟩
  have HV : Hid (res = ((3, 2, sN) :: ((f i2).1 ++ (f (f i2).2).1), (f (f i2).2).2)) := by
    show _ = _
    rw [HER.out, HNT.out, ey, Int.toNat_natCast, ← ez, ← es, ← ei2]
  obtain ⟨wB, eB⟩ : ∃ wB, wB = wL.alloc (.cells (binU.map strV).toArray 9) := ⟨_, rfl⟩
  obtain ⟨wA, eA⟩ : ∃ wA, wA = wB.alloc (.cells (unaU.map strV).toArray 9) := ⟨_, rfl⟩
  have hsB : wB.heap.size = wL.heap.size + 1 := by rw [eB]; simp
  have hbB : Below wL.heap.size wL wB := by rw [eB]; exact (Below.refl _ _).alloc (Nat.le_refl _) _
  have hbA0 : Below wB.heap.size wB wA := by rw [eA]; exact (Below.refl _ _).alloc (Nat.le_refl _) _
  have hbA : Below wL.heap.size wL wA := Below.on hbB hbA0
  have hcell : wA.cell? ⟨wL.heap.size, z, none⟩ = some (.string (strOfNums sN)) := by
    have h1 := str_made wL binU 9 z hz
    rw [← eB, ← es] at h1
    exact (hbA0.cell (p := ⟨wL.heap.size, z, none⟩) (by show wL.heap.size < _; omega)).trans h1
  have HKA : Hid (Keep R (R + 1) w wA) := HKL.out.trans (Keep.of_below hbA)
  have HRA : Hid (∀ k, RdIn (wA.drewN k) R p c xs i1) := fun k => (HRL.out.grow hbA).grow (below_drewN (Below.refl _ _) k)
  have HKAd : Hid (∀ k, Keep R (R + 1) w (wA.drewN k)) := fun k => HKA.out.trans (Keep.of_below (below_drewN (Below.refl _ _) k))
  have HRbt : Hid (R < wL.heap.size) := Nat.lt_of_lt_of_le hRw (Nat.le_trans HKL.out.size (by omega))
  have HCA : Hid (∀ k, (wA.drewN k).cell? ⟨wL.heap.size, z, none⟩ = some (.string (strOfNums sN))) := fun k => hcell
  have HN : Hid (∀ W, RdIn W R p c xs i1 → Calls Tryz.prog 15 #[.pointer (some ⟨R, 0, none⟩)] W fun e w' => e = .returned (.int .i64 (y : Int)) ∧ Keep R (R + 1) W w' ∧ w'.heap.size = W.heap.size ∧ RdIn w' R p c xs i2) := fun W hW => by
    have := next_any R c i1 p xs W hW
    rw [ey, ← ei2] at this
    exact this
  have tok0 : True := trivial
  rw [eB] at eA
  have eA' : wA = (wL.alloc (Obj.cells #[.string ⟨#[45]⟩, .string ⟨#[43]⟩, .string ⟨#[61]⟩, .string ⟨#[44]⟩, .string ⟨#[58, 45]⟩, .string ⟨#[59]⟩, .string ⟨#[45, 62]⟩, .string ⟨#[105, 115]⟩, .string ⟨#[94]⟩, .string ⟨#[42, 42]⟩, .string ⟨#[42]⟩, .string ⟨#[64, 64]⟩, .string ⟨#[109, 111, 100]⟩, .string ⟨#[102]⟩, .string ⟨#[45, 45, 62]⟩, .string ⟨#[114]⟩, .string ⟨#[113]⟩] 9)).alloc (Obj.cells #[.string ⟨#[45]⟩, .string ⟨#[92, 43]⟩, .string ⟨#[58, 45]⟩, .string ⟨#[43]⟩, .string ⟨#[123, 125]⟩, .string ⟨#[100, 121, 110, 97, 109, 105, 99]⟩, .string ⟨#[103]⟩, .string ⟨#[92]⟩, .string ⟨#[112]⟩, .string ⟨#[64, 64]⟩, .string ⟨#[91, 93]⟩, .string ⟨#[33]⟩] 9) := by rw [eA]; rfl
  have hszL : R < wL.heap.size := Nat.lt_of_lt_of_le hRw HKL.out.size
  clear h50 hbA hbB hbA0 HNT HER ey ez es ei2 eB eA h90 h180
  clear hsB
  go_wp2_with fail
  rw [← eA']
  clear eA'
  go_region_held3 (fun W => W.cell? ⟨wL.heap.size, z, none⟩ = some (.string (strOfNums sN))) (first | exact kk | exact hcell | go_keep)
    (first
      | (have _t := tok0; go_at_call 15; refine Calls.mono (HN.out _ (HRA.out 1)) ?_; rintro e w3 ⟨rfl, hk3, hs3, hR3⟩; have HK3 : Hid (Keep R (R + 1) w w3) := (HKAd.out 1).trans hk3; have HR3 : Hid (RdIn w3 R p c xs i2) := hR3; have kk : w3.cell? ⟨wL.heap.size, z, none⟩ = some (.string (strOfNums sN)) := hk3.cell (HCA.out 1) (.inr HRbt.out); have HC3 : Hid (w3.cell? ⟨wL.heap.size, z, none⟩ = some (.string (strOfNums sN))) := kk; clear hk3 hs3 hR3 tok0; have tok1 : True := trivial)
      | (have _t := tok1; go_at_call 46; refine Calls.mono (HF.out i2 w3 HR3.out) ?_; rintro e w4 ⟨q4, n4, c4, rfl, ho4, hk4, hR4⟩; have HK4 : Hid (Keep R (R + 1) w w4) := HK3.out.trans hk4; have HR4 : Hid (RdIn w4 R p c xs (f i2).2) := hR4; have HO4 : Hid (OwnC w4 w3.heap.size q4 n4 c4 (f i2).1) := ho4; have kk : w4.cell? ⟨wL.heap.size, z, none⟩ = some (.string (strOfNums sN)) := hk4.cell HC3.out (.inr HRbt.out); have HC4 : Hid (w4.cell? ⟨wL.heap.size, z, none⟩ = some (.string (strOfNums sN))) := kk; clear hk4 ho4 hR4 tok1; have tok2 : True := trivial)
      | (have _t := tok2; go_at_call 46; refine Calls.mono (HF.out (f i2).2 w4 HR4.out) ?_; rintro e w5 ⟨q5, n5, c5, rfl, ho5, hk5, hR5⟩; have HK5 : Hid (Keep R (R + 1) w w5) := HK4.out.trans hk5; have HR5 : Hid (RdIn w5 R p c xs (f (f i2).2).2) := hR5; have HL := l2pair_any sN HBS.out q4 q5 n4 n5 c4 c5 (f i2).1 (f (f i2).2).1 w5 HO4.out.1 ho5.1 (HO4.out.keepR hk5 (Nat.le_trans (by have := hRw; have := HK3.out.size; omega) (Nat.le_refl _))).cin ho5.cin (HSF.out _).pos (HSF.out _).pos ((HSF.out _).few HM0.out).2 ((HSF.out _).few HM0.out).2; have HLH : Hid _ := HL; have kk : w5.cell? ⟨wL.heap.size, z, none⟩ = some (.string (strOfNums sN)) := hk5.cell HC4.out (.inr HRbt.out); clear hk5 ho5 hR5 tok2 HL; have tok3 : True := trivial)
      | (have _t := tok3; go_at_call 19; refine Calls.mono HLH.out ?_; rintro e w6 ⟨q6, n6, c6, rfl, ho6, hb6⟩; have FIN : Hid _ := TermOut.of HK5.out HR5.out ho6 hb6; have kk : w6.cell? ⟨wL.heap.size, z, none⟩ = some (.string (strOfNums sN)) := (hb6.cell (World.block_lt_of_cell? _ _ kk)).trans kk; clear ho6 hb6 tok3))
  rename_i hheld; clear hheld
  clear kk
  go_wp2_with fail
  go_ret
  rw [HV.out]
  exact FIN.out
set_option maxRecDepth 100000 in
set_option maxHeartbeats 4000000 in
theorem term_one (R c i m0 : Nat) (p : Option Addr) (xs : List Int) (D : Int) (f g : Nat → List Cel × Nat) (w : World) (h : RdIn w R p c xs i) (hD : -10 ≤ D ∧ D ≤ 10) (hc : 0 < D) (hF : TermK R c p xs (D - 1) f) (hG : TermK R c p xs (D - 2) g) (hm0 : m0 ≤ 600) (hf : ∀ i, Sml m0 (f i).1) (hg : ∀ i, Sml m0 (g i).1) (h0 : ¬ rdN xs i = xs.length) (h50 : ¬ (rdI xs i).toNat < 50) (h180 : ¬ (rdI xs i).toNat < 180) (h230 : (rdI xs i).toNat < 230) :
    Calls Tryz.prog 46 #[.pointer (some ⟨R, 0, none⟩), .int .i64 D] w (TermOut w R p c xs (nodeT xs f g i)) := by
  have HH : Hid (RdIn w R p c xs i) := h
  have HF : Hid (TermK R c p xs (D - 1) f) := hF
  have HG : Hid (TermK R c p xs (D - 2) g) := hG
  have HSF : Hid (∀ i, Sml m0 (f i).1) := hf
  have HSG : Hid (∀ i, Sml m0 (g i).1) := hg
  have HM0 : Hid (m0 ≤ 600) := hm0
  have hr := rdI_rng h.bytes i
  have hle := rdN_le h.le
  have hsm := h.small
  have hRw : R < w.heap.size := h.lt
  have hr1 := rdI_rng h.bytes (rdN xs i)
  have HNT : Hid (nodeT xs f g i = ((3, 1, numsU (unaU.getD ((rdI xs (rdN xs i)).toNat % 12) [])) :: (f (rdN xs (rdN xs i))).1, (f (rdN xs (rdN xs i))).2)) := by
    show _ = _
    unfold nodeT
    simp only
    rw [if_neg (by intro hh; rcases hh with hh | hh; exact h0 hh; exact h50 hh), if_neg (by omega), if_neg h180, if_pos h230]
  obtain ⟨n, en⟩ : ∃ n, n = xs.length := ⟨_, rfl⟩
  rw [← en] at hle hsm h0
  have HEN : Hid (n = xs.length) := en
  obtain ⟨i1, ei⟩ : ∃ i1, i1 = rdN xs i := ⟨_, rfl⟩
  rw [← ei] at hle hr1 h0
  rw [← ei] at HNT
  have HEI : Hid (i1 = rdN xs i) := ei
  have hd : decide (D ≤ 0) = false := decide_eq_false (by omega)
  obtain ⟨res, er⟩ : ∃ res, res = nodeT xs f g i := ⟨_, rfl⟩
  rw [← er]
  have HER : Hid (res = nodeT xs f g i) := er
  clear h en ei hF hG hf hg hm0 er
  go_enter Tryz.func46, Tryz.ntmps46
  go_wp2_with fail
  refine (next_any R c i p xs w HH.out).mono ?_
  rintro e w2 ⟨rfl, hk2, hs2, hR2⟩
  have HK2 : Hid (Keep R (R + 1) w w2) := hk2
  have HR2 : Hid (RdIn w2 R p c xs i1) := by rw [HEI.out]; exact hR2
  obtain ⟨x, ex⟩ : ∃ x : Nat, rdI xs i = x := ⟨(rdI xs i).toNat, by omega⟩
  have hxt : (rdI xs i).toNat = x := by rw [ex]; exact Int.toNat_natCast x
  rw [hxt] at h50 h180 h230
  rw [ex] at hr ⊢
  have hx50 : decide ((x : Int) < 50) = false := decide_eq_false (by omega)
  clear hk2 hs2 hR2 ex hxt
  go_wp2_with fail
  refine (left_any R c i1 p xs w2 HR2.out).mono ?_
  rintro e wL ⟨rfl, hbL⟩
  have HRL : Hid (RdIn wL R p c xs i1) := HR2.out.grow hbL
  have HKL : Hid (Keep R (R + 1) w wL) := HK2.out.trans (Keep.of_below hbL)
  rw [← HEN.out]
  obtain ⟨lf, el⟩ : ∃ lf, lf = n - i1 := ⟨_, rfl⟩
  rw [← el]
  have hlf : lf ≤ 500 := by omega
  have hz0 : ((lf : Int) == 0) = false := by simp; omega
  clear hbL el
  have hx90 : decide ((x : Int) < 90) = false := decide_eq_false (by omega)
  have hx180 : decide ((x : Int) < 180) = false := decide_eq_false (by omega)
  have hx230 : decide ((x : Int) < 230) = true := decide_eq_true (by omega)
  obtain ⟨y, ey⟩ : ∃ y : Nat, rdI xs i1 = y := ⟨(rdI xs i1).toNat, by omega⟩
  have hy : y < 256 := by omega
  obtain ⟨z, ez⟩ : ∃ z, z = y % 12 := ⟨_, rfl⟩
  have hz : z < 12 := by omega
  have hzi : (0 : Int) ≤ (z : Int) := by omega
  have hzj : (z : Int) < 12 := by omega
  have hzn : (z : Int).toNat = z := Int.toNat_natCast z
  have hwrp : IntKind.i64.wrap (D - 1) = D - 1 := by rw [IntKind.wrap_i64]; omega
  have hmz : (y : Int).tmod 12 = (z : Int) := by rw [ez, Int.tmod_eq_emod_of_nonneg (by omega)]; rfl
  obtain ⟨sN, es⟩ : ∃ s, s = numsU (unaU.getD z []) := ⟨_, rfl⟩
  have HBS : Hid (Byte sN) := by rw [es]; exact byte_numsU _
  obtain ⟨i2, ei2⟩ : ∃ i2, i2 = rdN xs i1 := ⟨_, rfl⟩
  have HV : Hid (res = ((3, 1, sN) :: (f i2).1, (f i2).2)) := by
    show _ = _
    rw [HER.out, HNT.out, ey, Int.toNat_natCast, ← ez, ← es, ← ei2]
  obtain ⟨wB, eB⟩ : ∃ wB, wB = wL.alloc (.cells (binU.map strV).toArray 9) := ⟨_, rfl⟩
  obtain ⟨wA, eA⟩ : ∃ wA, wA = wB.alloc (.cells (unaU.map strV).toArray 9) := ⟨_, rfl⟩
  have hsB : wB.heap.size = wL.heap.size + 1 := by rw [eB]; simp
  have hbB : Below wL.heap.size wL wB := by rw [eB]; exact (Below.refl _ _).alloc (Nat.le_refl _) _
  have hbA0 : Below wB.heap.size wB wA := by rw [eA]; exact (Below.refl _ _).alloc (Nat.le_refl _) _
  have hbA : Below wL.heap.size wL wA := Below.on hbB hbA0
  have hcell : wA.cell? ⟨wL.heap.size + 1, z, none⟩ = some (.string (strOfNums sN)) := by
    have h1 := str_made wB unaU 9 z hz
    rw [← eA, ← es, hsB] at h1
    exact h1
  have HKA : Hid (Keep R (R + 1) w wA) := HKL.out.trans (Keep.of_below hbA)
  have HRA : Hid (∀ k, RdIn (wA.drewN k) R p c xs i1) := fun k => (HRL.out.grow hbA).grow (below_drewN (Below.refl _ _) k)
  have HKAd : Hid (∀ k, Keep R (R + 1) w (wA.drewN k)) := fun k => HKA.out.trans (Keep.of_below (below_drewN (Below.refl _ _) k))
  have HRbt : Hid (R < wL.heap.size + 1) := Nat.lt_of_lt_of_le hRw (Nat.le_trans HKL.out.size (by omega))
  have HCA : Hid (∀ k, (wA.drewN k).cell? ⟨wL.heap.size + 1, z, none⟩ = some (.string (strOfNums sN))) := fun k => hcell
  have HN : Hid (∀ W, RdIn W R p c xs i1 → Calls Tryz.prog 15 #[.pointer (some ⟨R, 0, none⟩)] W fun e w' => e = .returned (.int .i64 (y : Int)) ∧ Keep R (R + 1) W w' ∧ w'.heap.size = W.heap.size ∧ RdIn w' R p c xs i2) := fun W hW => by
    have := next_any R c i1 p xs W hW
    rw [ey, ← ei2] at this
    exact this
  have tok0 : True := trivial
  rw [eB] at eA
  have eA' : wA = (wL.alloc (Obj.cells #[.string ⟨#[45]⟩, .string ⟨#[43]⟩, .string ⟨#[61]⟩, .string ⟨#[44]⟩, .string ⟨#[58, 45]⟩, .string ⟨#[59]⟩, .string ⟨#[45, 62]⟩, .string ⟨#[105, 115]⟩, .string ⟨#[94]⟩, .string ⟨#[42, 42]⟩, .string ⟨#[42]⟩, .string ⟨#[64, 64]⟩, .string ⟨#[109, 111, 100]⟩, .string ⟨#[102]⟩, .string ⟨#[45, 45, 62]⟩, .string ⟨#[114]⟩, .string ⟨#[113]⟩] 9)).alloc (Obj.cells #[.string ⟨#[45]⟩, .string ⟨#[92, 43]⟩, .string ⟨#[58, 45]⟩, .string ⟨#[43]⟩, .string ⟨#[123, 125]⟩, .string ⟨#[100, 121, 110, 97, 109, 105, 99]⟩, .string ⟨#[103]⟩, .string ⟨#[92]⟩, .string ⟨#[112]⟩, .string ⟨#[64, 64]⟩, .string ⟨#[91, 93]⟩, .string ⟨#[33]⟩] 9) := by rw [eA]; rfl
  have hszL : R < wL.heap.size := Nat.lt_of_lt_of_le hRw HKL.out.size
  clear h50 hbA hbB hbA0 HNT HER ey ez es ei2 eB eA h180 h230
  clear hsB
  go_wp2_with fail
  rw [← eA']
  clear eA'
  go_region_held3 (fun W => W.cell? ⟨wL.heap.size + 1, z, none⟩ = some (.string (strOfNums sN))) (first | exact kk | exact hcell | go_keep)
    (first
      | (have _t := tok0; go_at_call 15; refine Calls.mono (HN.out _ (HRA.out 1)) ?_; rintro e w3 ⟨rfl, hk3, hs3, hR3⟩; have HK3 : Hid (Keep R (R + 1) w w3) := (HKAd.out 1).trans hk3; have HR3 : Hid (RdIn w3 R p c xs i2) := hR3; have kk : w3.cell? ⟨wL.heap.size + 1, z, none⟩ = some (.string (strOfNums sN)) := hk3.cell (HCA.out 1) (.inr HRbt.out); have HC3 : Hid (w3.cell? ⟨wL.heap.size + 1, z, none⟩ = some (.string (strOfNums sN))) := kk; clear hk3 hs3 hR3 tok0; have tok1 : True := trivial)
      | (have _t := tok1; go_at_call 46; refine Calls.mono (HF.out i2 w3 HR3.out) ?_; rintro e w4 ⟨q4, n4, c4, rfl, ho4, hk4, hR4⟩; have HK4 : Hid (Keep R (R + 1) w w4) := HK3.out.trans hk4; have HR4 : Hid (RdIn w4 R p c xs (f i2).2) := hR4; have HO4 : Hid (OwnC w4 w3.heap.size q4 n4 c4 (f i2).1) := ho4; have kk : w4.cell? ⟨wL.heap.size + 1, z, none⟩ = some (.string (strOfNums sN)) := hk4.cell HC3.out (.inr HRbt.out); have HC4 : Hid (w4.cell? ⟨wL.heap.size + 1, z, none⟩ = some (.string (strOfNums sN))) := kk; clear hk4 ho4 hR4 tok1; have tok2 : True := trivial)
      | (have _t := tok2; go_at_call 49; refine Calls.mono (one_made sN HBS.out w4 HO4.out (HSF.out i2) HM0.out) ?_; rintro e w6 ⟨q6, n6, c6, rfl, ho6, hb6⟩; have FIN : Hid _ := TermOut.of HK4.out HR4.out ho6 hb6; have kk : w6.cell? ⟨wL.heap.size + 1, z, none⟩ = some (.string (strOfNums sN)) := (hb6.cell (World.block_lt_of_cell? _ _ HC4.out)).trans HC4.out; clear ho6 hb6 tok2))
  rename_i hheld; clear hheld
  clear kk
  go_wp2_with fail
  go_ret
  rw [HV.out]
  exact FIN.out
theorem l4term_any (R c : Nat) (p : Option Addr) (xs : List Int) : ∀ (d : Nat) (D : Int), d ≤ 4 → D.toNat = d → -10 ≤ D → TermK R c p xs D (drawT xs d) := by
  have low : ∀ (D : Int), D ≤ 0 → -10 ≤ D → TermK R c p xs D (drawT xs 0) := fun D h1 h2 i w h => term_low R c i p xs D w h ⟨h2, by omega⟩ h1
  have node : ∀ (D : Int) (m : Nat) (f g : Nat → List Cel × Nat), 0 < D → D ≤ 10 → m ≤ 600 → (∀ i, Sml m (f i).1) → (∀ i, Sml m (g i).1) → TermK R c p xs (D - 1) f → TermK R c p xs (D - 2) g → TermK R c p xs D (nodeT xs f g) := by
    intro D m f g h0 h1 hm hf hg hF hG i w h
    by_cases e1 : rdN xs i = xs.length
    · have := term_end R c i p xs D w h ⟨by omega, h1⟩ h0 e1
      rwa [show leafT xs (rdI xs i).toNat (rdN xs i) = nodeT xs f g i by unfold nodeT; simp only; rw [if_pos (.inl e1)]] at this
    by_cases e2 : (rdI xs i).toNat < 50
    · have := term_few R c i p xs D w h ⟨by omega, h1⟩ h0 e1 e2
      rwa [show leafT xs (rdI xs i).toNat (rdN xs i) = nodeT xs f g i by unfold nodeT; simp only; rw [if_pos (.inr e2)]] at this
    by_cases e3 : (rdI xs i).toNat < 90
    · exact term_list R c i m p xs D f g w h ⟨by omega, h1⟩ h0 hF hG hm hf hg e1 e2 e3
    by_cases e4 : (rdI xs i).toNat < 180
    · exact term_two R c i m p xs D f g w h ⟨by omega, h1⟩ h0 hF hG hm hf hg e1 e2 e3 e4
    by_cases e5 : (rdI xs i).toNat < 230
    · exact term_one R c i m p xs D f g w h ⟨by omega, h1⟩ h0 hF hG hm hf hg e1 e2 e4 e5
    · exact term_many R c i m p xs D f g w h ⟨by omega, h1⟩ h0 hF hG hm hf hg e1 e2 e5
  have small : ∀ d, d ≤ 3 → ∀ i, Sml 600 (drawT xs d i).1 := fun d hd i => by
    have h := drawT_sml xs d i
    have : 4 ^ d ≤ 4 ^ 3 := Nat.pow_le_pow_right (by decide) hd
    exact ⟨h.pos, by have := h.len; omega, h.txt⟩
  intro d
  induction d using Nat.strongRecOn with | _ d ih =>
  match d, ih with
  | 0, _ => exact fun D _ h1 h2 => low D (by omega) h2
  | 1, _ => exact fun D _ h1 h2 => node D 600 _ _ (by omega) (by omega) (Nat.le_refl _) (small 0 (by omega)) (small 0 (by omega)) (low _ (by omega) (by omega)) (low _ (by omega) (by omega))
  | d + 2, ih =>
    intro D hd h1 h2
    exact node D 600 _ _ (by omega) (by omega) (Nat.le_refl _) (small (d + 1) (by omega)) (small d (by omega)) (ih (d + 1) (by omega) (D - 1) (by omega) (by omega) (by omega)) (ih d (by omega) (D - 2) (by omega) (by omega) (by omega))
end Go.Proofs.YtaakpdakeolgeaaGreat

namespace Go.Proofs.YtaakpdakeolgeaaGreat
open Go Go.RowKit
set_option linter.unusedVariables false
def bigL (m : Nat) : List Cel := (List.range m).flatMap (fun j => [dot, (0, ((j % 7 : Nat) : Int), [])])
def bigF (n : Nat) : List Cel := (bigL ((n - 1) / 2) ++ (if n % 2 = 0 then [(3, 1, [102])] else [])) ++ [nilC]
def spoilF (xs : List Int) (cs : List Cel) (i : Nat) : List Cel × Nat :=
  let k := (rdI xs i).toNat % 9
  let a := (rdI xs (rdN xs i)).toNat % cs.length
  let i2 := rdN xs (rdN xs i)
  let c := cs.getD a Cel.none
  let y := (rdI xs i2).toNat
  if k = 0 then (cs.set a (((y % 6 : Nat) : Int) - 1, c.2.1, c.2.2), rdN xs i2)
  else if k = 1 then (cs.set a (c.1, c.2.1 + 1, c.2.2), i2)
  else if k = 2 then (cs.set a (c.1, -1, c.2.2), i2)
  else if k = 3 then (cs.take (cs.length - 1), i2)
  else if k = 4 then (cs ++ [(2, 0, [])], i2)
  else if k = 5 then (cs.set a (c.1, c.2.1, List.replicate (100 + y % 2) 116), rdN xs i2)
  else if k = 6 then (cs.set a (c.1, 1000000000000000 + ((y % 2 : Nat) : Int), c.2.2), rdN xs i2)
  else if k = 7 then (bigF (1999 + y % 3), rdN xs i2)
  else (cs.set a (0, 1000000 + ((y % 2 : Nat) : Int), []), rdN xs i2)
def anyF (xs : List Int) (i : Nat) : List Cel × Nat :=
  let r := drawT xs 4 (rdN xs i)
  if (rdI xs i).toNat % 16 = 0 then spoilF xs r.1 r.2 else r
def alikeF (xs : List Int) : Fo → Nat → List Cel × Nat
  | .nil, i => ([], i)
  | .node c k r, i =>
    let x := (rdI xs i).toNat
    let i1 := rdN xs i
    if x % 5 = 0 ∧ i1 < xs.length then ((0, 3 + ((x / 5 % 5 : Nat) : Int), []) :: (alikeF xs r i1).1, (alikeF xs r i1).2)
    else if x = 9 then ((2, 0, [120]) :: (alikeF xs r i1).1, (alikeF xs r i1).2)
    else (c :: ((alikeF xs k i1).1 ++ (alikeF xs r (alikeF xs k i1).2).1), (alikeF xs r (alikeF xs k i1).2).2)
theorem alikeF_cat (xs : List Int) : ∀ (F G : Fo) (i : Nat), alikeF xs (F.cat G) i = ((alikeF xs F i).1 ++ (alikeF xs G (alikeF xs F i).2).1, (alikeF xs G (alikeF xs F i).2).2)
  | .nil, G, i => by simp [Fo.cat, alikeF]
  | .node c k r, G, i => by
    simp only [Fo.cat, alikeF]
    split
    · rw [alikeF_cat xs r G]; rfl
    split
    · rw [alikeF_cat xs r G]; rfl
    · rw [alikeF_cat xs r G]; simp
structure Mid (cs : List Cel) : Prop where
  len : cs.length ≤ 2001
  txt : tl cs ≤ 12000
  byte : ∀ i, i < cs.length → Byte (cs.getD i Cel.none).2.2
def ByteC (cs : List Cel) : Prop := ∀ c ∈ cs, Byte c.2.2
theorem ByteC.get {cs : List Cel} (h : ByteC cs) (i : Nat) (hi : i < cs.length) : Byte (cs.getD i Cel.none).2.2 := by
  rw [List.getD, List.getElem?_eq_getElem hi]
  exact h _ (List.getElem_mem hi)
theorem ByteC.app {a b : List Cel} (ha : ByteC a) (hb : ByteC b) : ByteC (a ++ b) := fun c hc => by
  rcases List.mem_append.1 hc with h | h
  · exact ha c h
  · exact hb c h
theorem ByteC.cons {c : Cel} {b : List Cel} (ha : Byte c.2.2) (hb : ByteC b) : ByteC (c :: b) := fun d hd => by
  rcases List.mem_cons.1 hd with rfl | h
  · exact ha
  · exact hb d h
theorem ByteC.nil : ByteC [] := fun c h => by cases h
theorem byte_nil : Byte [] := fun x h => by cases h
theorem ByteC.flatten {css : List (List Cel)} (h : ∀ j, j < css.length → ByteC (css.getD j [])) : ByteC css.flatten := fun c hc => by
  obtain ⟨cs, h1, h2⟩ := List.mem_flatten.1 hc
  obtain ⟨j, hj, rfl⟩ := List.mem_iff_getElem.1 h1
  have := h j hj
  rw [List.getD, List.getElem?_eq_getElem hj] at this
  exact this c h2
theorem ByteC.ls {css : List (List Cel)} {en : List Cel} (h : ∀ j, j < css.length → ByteC (css.getD j [])) (he : ByteC en) : ByteC (lsL css en) := by
  refine ByteC.app (fun c hc => ?_) he
  obtain ⟨cs, h1, h2⟩ := List.mem_flatMap.1 hc
  rcases List.mem_cons.1 h2 with rfl | h3
  · intro x hx; simp [dot] at hx; omega
  · obtain ⟨j, hj, rfl⟩ := List.mem_iff_getElem.1 h1
    have := h j hj
    rw [List.getD, List.getElem?_eq_getElem hj] at this
    exact this c h3
theorem byte_nilC : ByteC [nilC] := fun c hc => by
  rw [List.mem_singleton.1 hc]
  intro x hx; simp [nilC] at hx; omega
theorem leafT_byte (xs : List Int) (k i : Nat) : ByteC (leafT xs k i).1 := by
  unfold leafT
  repeat' split
  all_goals refine ByteC.cons ?_ ByteC.nil
  · exact byte_nil
  · exact byte_nil
  · exact byte_numsU _
theorem nodeT_byte (xs : List Int) (f g : Nat → List Cel × Nat) (hf : ∀ i, ByteC (f i).1) (hg : ∀ i, ByteC (g i).1) (i : Nat) : ByteC (nodeT xs f g i).1 := by
  unfold nodeT
  simp only
  split
  · exact leafT_byte _ _ _
  split
  · have h : ∀ n i j, j < (iterT f n i).1.length → ByteC ((iterT f n i).1.getD j []) := fun n i j hj => iterT_at f hf n i j (by rwa [iterT_len] at hj)
    split
    · exact ByteC.ls (h _ _) (hg _)
    · exact ByteC.ls (h _ _) byte_nilC
  split
  · exact ByteC.cons (byte_numsU _) ((hf _).app (hf _))
  split
  · exact ByteC.cons (byte_numsU _) (hf _)
  · exact ByteC.cons (byte_numsU _) (ByteC.flatten (fun j hj => iterT_at f hf _ _ j (by rwa [iterT_len] at hj)))
theorem drawT_byte (xs : List Int) : ∀ (d i : Nat), ByteC (drawT xs d i).1
  | 0, i => leafT_byte _ _ _
  | 1, i => nodeT_byte _ _ _ (drawT_byte xs 0) (drawT_byte xs 0) i
  | d + 2, i => nodeT_byte _ _ _ (drawT_byte xs (d + 1)) (drawT_byte xs d) i
theorem tl_set : ∀ (cs : List Cel) (i : Nat) (c : Cel), tl (cs.set i c) ≤ tl cs + c.2.2.length
  | [], i, c => by simp [tl]
  | d :: r, 0, c => by simp only [List.set_cons_zero, tl]; omega
  | d :: r, i + 1, c => by
    have := tl_set r i c
    simp only [List.set_cons_succ, tl]; omega
theorem ByteC.set {cs : List Cel} (h : ByteC cs) (i : Nat) {c : Cel} (hc : Byte c.2.2) : ByteC (cs.set i c) := fun d hd => by
  rcases List.mem_or_eq_of_mem_set hd with h1 | rfl
  · exact h d h1
  · exact hc
theorem ByteC.getD {cs : List Cel} (h : ByteC cs) (i : Nat) : Byte (cs.getD i Cel.none).2.2 := by
  rcases Nat.lt_or_ge i cs.length with hi | hi
  · exact h.get i hi
  · rw [List.getD, List.getElem?_eq_none hi]; exact byte_nil
theorem bigL_facts : ∀ m, (bigL m).length = 2 * m ∧ tl (bigL m) = m ∧ ByteC (bigL m)
  | 0 => ⟨rfl, rfl, ByteC.nil⟩
  | m + 1 => by
    obtain ⟨h1, h2, h3⟩ := bigL_facts m
    have e : bigL (m + 1) = bigL m ++ [dot, (0, ((m % 7 : Nat) : Int), [])] := by simp [bigL, List.range_succ, List.flatMap_append]
    rw [e]
    refine ⟨by simp [h1]; omega, by rw [tl_app, h2]; rfl, h3.app (ByteC.cons ?_ (ByteC.cons byte_nil ByteC.nil))⟩
    intro x hx; simp [dot] at hx; omega
theorem bigL_succ (m : Nat) : bigL (m + 1) = bigL m ++ [dot, (0, ((m % 7 : Nat) : Int), [])] := by simp [bigL, List.range_succ, List.flatMap_append]
theorem Mid.of {cs : List Cel} (h1 : cs.length ≤ 2001) (h2 : tl cs ≤ 12000) (h3 : ByteC cs) : Mid cs := ⟨h1, h2, h3.get⟩
theorem drawT_mid (xs : List Int) (i : Nat) : (drawT xs 4 i).1.length ≤ 511 ∧ tl (drawT xs 4 i).1 ≤ 5621 ∧ 0 < (drawT xs 4 i).1.length := by
  have h := drawT_sml xs 4 i
  have := h.len; have := h.txt
  exact ⟨by omega, by omega, h.pos⟩
theorem spoilF_mid (xs : List Int) (cs : List Cel) (i : Nat) (h1 : cs.length ≤ 511) (h2 : tl cs ≤ 5621) (hb : ByteC cs) : Mid (spoilF xs cs i).1 ∧ ByteC (spoilF xs cs i).1 := by
  have hat : ∀ a, (cs.getD a Cel.none).2.2.length ≤ tl cs := fun a => by
    rcases Nat.lt_or_ge a cs.length with h | h
    · exact tl_at cs a h
    · rw [List.getD, List.getElem?_eq_none h]; exact Nat.zero_le _
  have st : ∀ a (c : Cel), c.2.2.length ≤ 101 ∨ c.2.2 = (cs.getD a Cel.none).2.2 → Byte c.2.2 → Mid (cs.set a c) ∧ ByteC (cs.set a c) := fun a c hl hc => by
    refine ⟨Mid.of (by rw [List.length_set]; omega) ?_ (hb.set a hc), hb.set a hc⟩
    rcases hl with hl | hl
    · have := tl_set cs a c; omega
    · have := tl_set cs a c; have := hat a; rw [hl] at *; omega
  unfold spoilF
  simp only
  split
  · exact st _ _ (.inr rfl) (hb.getD _)
  split
  · exact st _ _ (.inr rfl) (hb.getD _)
  split
  · exact st _ _ (.inr rfl) (hb.getD _)
  split
  · have hh : ByteC (cs.take (cs.length - 1)) := fun c hc => hb c (List.mem_of_mem_take hc)
    exact ⟨Mid.of (by rw [List.length_take]; omega) (Nat.le_trans (tl_take_le _ _) (by omega)) hh, hh⟩
  split
  · have hh : ByteC (cs ++ [(2, 0, [])]) := hb.app (ByteC.cons byte_nil ByteC.nil)
    exact ⟨Mid.of (by simp; omega) (by rw [tl_app]; simp [tl]; omega) hh, hh⟩
  split
  · refine st _ _ (.inl (by simp; omega)) (fun x hx => ?_)
    rw [(List.mem_replicate.1 hx).2]; omega
  split
  · exact st _ _ (.inr rfl) (hb.getD _)
  split
  · have hn : 1999 + (rdI xs (rdN xs (rdN xs i))).toNat % 3 ≤ 2001 := by omega
    generalize 1999 + (rdI xs (rdN xs (rdN xs i))).toNat % 3 = n at *
    obtain ⟨a1, a2, a3⟩ := bigL_facts ((n - 1) / 2)
    have hh : ByteC (bigF n) := by
      unfold bigF
      refine (a3.app ?_).app byte_nilC
      split
      · exact ByteC.cons (fun x hx => by simp at hx; omega) ByteC.nil
      · exact ByteC.nil
    refine ⟨Mid.of ?_ ?_ hh, hh⟩
    · unfold bigF
      rw [List.length_append, List.length_append, a1]
      split <;> simp <;> omega
    · unfold bigF
      rw [tl_app, tl_app, a2]
      split <;> simp [tl, nilC] <;> omega
  · exact st _ _ (.inl (by simp)) byte_nil
theorem anyF_mid (xs : List Int) (i : Nat) : Mid (anyF xs i).1 ∧ ByteC (anyF xs i).1 := by
  obtain ⟨h1, h2, _⟩ := drawT_mid xs (rdN xs i)
  unfold anyF
  simp only
  split
  · exact spoilF_mid xs _ _ h1 h2 (drawT_byte _ _ _)
  · exact ⟨Mid.of (by omega) (by omega) (drawT_byte _ _ _), drawT_byte _ _ _⟩
theorem alikeF_mid (xs : List Int) : ∀ (F : Fo) (i : Nat), (alikeF xs F i).1.length ≤ F.cells.length ∧ tl (alikeF xs F i).1 ≤ tl F.cells + F.cells.length ∧ (ByteC F.cells → ByteC (alikeF xs F i).1)
  | .nil, i => ⟨Nat.le_refl _, Nat.zero_le _, fun _ => ByteC.nil⟩
  | .node c k r, i => by
    have hk := alikeF_mid xs k (rdN xs i)
    have hr := alikeF_mid xs r (rdN xs i)
    have hr2 := alikeF_mid xs r (alikeF xs k (rdN xs i)).2
    have sp : ByteC (Fo.node c k r).cells → Byte c.2.2 ∧ ByteC k.cells ∧ ByteC r.cells := fun h => ⟨h c (by simp [Fo.cells]), fun d hd => h d (by simp [Fo.cells, hd]), fun d hd => h d (by simp [Fo.cells, hd])⟩
    simp only [alikeF]
    split
    · refine ⟨by simp [Fo.cells]; omega, ?_, fun h => ByteC.cons byte_nil (hr.2.2 (sp h).2.2)⟩
      have e1 : ∀ v : Int, tl (((0, v, []) : Cel) :: (alikeF xs r (rdN xs i)).1) = tl (alikeF xs r (rdN xs i)).1 := fun v => Nat.zero_add _
      rw [e1]
      simp only [Fo.cells, tl, tl_app, List.length_cons, List.length_append]; omega
    split
    · refine ⟨by simp [Fo.cells]; omega, ?_, fun h => ByteC.cons (fun x hx => by simp at hx; omega) (hr.2.2 (sp h).2.2)⟩
      have e1 : tl (((2, 0, [120]) : Cel) :: (alikeF xs r (rdN xs i)).1) = 1 + tl (alikeF xs r (rdN xs i)).1 := rfl
      show tl (((2, 0, [120]) : Cel) :: (alikeF xs r (rdN xs i)).1) ≤ _
      rw [e1]
      simp only [Fo.cells, tl, tl_app, List.length_cons, List.length_append]; omega
    · refine ⟨by simp [Fo.cells]; omega, by simp only [Fo.cells, tl, tl_app, List.length_cons, List.length_append]; omega, fun h => ByteC.cons (sp h).1 ((hk.2.2 (sp h).2.1).app (hr2.2.2 (sp h).2.2))⟩
end Go.Proofs.YtaakpdakeolgeaaGreat

