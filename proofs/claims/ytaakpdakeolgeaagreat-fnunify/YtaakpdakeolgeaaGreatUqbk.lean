/- Texts of Vt1, Sub2, Sub3, Sub4. Own work of the verifier. -/
import Derived.Test.YtaakpdakeolgeaaGreatUqaw
import Derived.Test.YtaakpdakeolgeaaGreatUqan
import Derived.Test.YtaakpdakeolgeaaGreatUqbj
import Derived.Test.YtaakpdakeolgeaaGreatUqar
import Derived.Test.YtaakpdakeolgeaaGreatUqam
import Derived.Test.YtaakpdakeolgeaaGreatUqai
namespace Go.Proofs.YtaakpdakeolgeaaGreat
open Go Go.RowKit
set_option linter.unusedVariables false
set_option maxRecDepth 100000 in
set_option maxHeartbeats 1000000 in
theorem implVariantC_any (xs ys : List Cel) (p q : Option Addr) (cx cy : Nat) (hcx : xs.length ≤ cx ∧ cx ≤ 9223372036854775807) (hcy : ys.length ≤ cy ∧ cy ≤ 9223372036854775807) (w : World) (hx : ∀ i, i < xs.length → Byte (xs.getD i Cel.none).2.2) (hy : ∀ i, i < ys.length → Byte (ys.getD i Cel.none).2.2) (hn : xs.length ≤ 1000000000) (hm : ys.length ≤ 1000000000) (hp : CIn w p xs) (hq : CIn w q ys) :
    Calls Tryz.prog 13 #[.slice p xs.length cx, .slice q ys.length cy] w fun e w' => e = .returned (.bool (variantB xs ys)) ∧ Below w.heap.size w w' := by
  have HV1 := implValid_any p cx xs w hn hp
  by_cases h1 : validB xs = true
  · have HV2 : Hid (∀ W, Below w.heap.size w W → Calls Tryz.prog 25 #[.slice q ys.length cy] W fun e w' => e = .returned (.bool (validB ys)) ∧ Below W.heap.size W w') := fun W hW => implValid_any q cy ys W hm (hq.below hW)
    rw [h1] at HV1
    by_cases h2 : validB ys = true
    · rw [h2] at HV2
      obtain ⟨c, k, ex, hok, hlx⟩ := tree_of hx h1
      obtain ⟨c', k', ey, hok', hly⟩ := tree_of hy h2
      have HR : Hid (variantB xs ys = decide (renCells xs = renCells ys)) := by show _ = _; rw [variantB, h1, h2]; rfl
      obtain ⟨n, en⟩ : ∃ n, n = xs.length := ⟨_, rfl⟩
      obtain ⟨m, em⟩ : ∃ m, m = ys.length := ⟨_, rfl⟩
      rw [← en] at hcx HV1 hn hlx ⊢
      rw [← em] at hcy HV2 hm hly ⊢
      have HX : Hid (xs = c :: k.cells ∧ n = xs.length ∧ (Fo.node c k .nil).ok) := ⟨ex, en, hok⟩
      have HY : Hid (ys = c' :: k'.cells ∧ m = ys.length ∧ (Fo.node c' k' .nil).ok) := ⟨ey, em, hok'⟩
      have HT1 : Hid (∀ W, Below w.heap.size w W → Calls Tryz.prog 27 #[.slice p n cx] W fun e w' => ∃ v, e = .returned v ∧ FoIn w' W.heap.size (.node c k .nil) [v] ∧ Below W.heap.size W w') := fun W hW => termOf_any c k p n cx W hok (by rw [en, ex]; simp) hcx.1 hcx.2 (by have := hp.below hW; rwa [ex] at this)
      have HT2 : Hid (∀ W, Below w.heap.size w W → Calls Tryz.prog 27 #[.slice q m cy] W fun e w' => ∃ v, e = .returned v ∧ FoIn w' W.heap.size (.node c' k' .nil) [v] ∧ Below W.heap.size W w') := fun W hW => termOf_any c' k' q m cy W hok' (by rw [em, ey]; simp) hcy.1 hcy.2 (by have := hq.below hW; rwa [ey] at this)
      clear h1 h2 hx hy hp hq ex ey en em hok hok'
      go_enter Tryz.func13, Tryz.ntmps13
      go_wp2_with fail
      refine HV1.mono ?_
      rintro e w1 ⟨rfl, hb1⟩
      have HB1 : Hid (Below w.heap.size w w1) := hb1
      clear hb1 HV1
      go_wp2_with fail
      refine (HV2.out w1 HB1.out).mono ?_
      rintro e w2 ⟨rfl, hb2⟩
      have HB2 : Hid (Below w.heap.size w w2) := Below.on HB1.out hb2
      clear hb2
      go_wp2_with fail
      refine (HT1.out w2 HB2.out).mono ?_
      rintro e w3 ⟨v3, rfl, hf3, hb3⟩
      have HB3 : Hid (Below w.heap.size w w3) := Below.on HB2.out hb3
      have hk1 : k.cells.length ≤ 10000 := by have := HX.out.1; have := HX.out.2.1; rw [HX.out.1] at this; simp at this; omega
      have hk2 : k'.cells.length ≤ 10000 := by have := HY.out.2.1; rw [HY.out.1] at this; simp at this; omega
      have HN3 := renumber_any c k v3 w2.heap.size w3 HX.out.2.2 hf3 hk1
      obtain ⟨t3, y3, rfl⟩ := hf3.iface
      clear hb3 hf3
      go_wp2_with fail
      refine HN3.mono ?_
      rintro e w4 ⟨v4, rfl, hf4, hb4⟩
      have HB4 : Hid (Below w.heap.size w w4) := Below.on HB3.out hb4
      have HF4 : Hid _ := hf4
      obtain ⟨t4, y4, rfl⟩ := hf4.iface
      clear hb4 hf4 HN3
      go_wp2_with fail
      refine (HT2.out w4 HB4.out).mono ?_
      rintro e w5 ⟨v5, rfl, hf5, hb5⟩
      have HB5 : Hid (Below w.heap.size w w5) := Below.on HB4.out hb5
      have HB45 : Hid (Below w4.heap.size w4 w5) := hb5
      have HN5 := renumber_any c' k' v5 w4.heap.size w5 HY.out.2.2 hf5 hk2
      obtain ⟨t5, y5, rfl⟩ := hf5.iface
      clear hb5 hf5
      go_wp2_with fail
      refine HN5.mono ?_
      rintro e w6 ⟨v6, rfl, hf6, hb6⟩
      have HB6 : Hid (Below w.heap.size w w6) := Below.on HB5.out hb6
      have hlen : ∀ (c : Cel) (k : Fo), k.cells.length ≤ 10000 → (visits [] (c :: k.cells)).length ≤ 1000000 := fun c k h => by have := visits_len (c :: k.cells) []; simp at this; omega
      have ok1 : Tr.ok (renI (visits [] (c :: k.cells)) c, k.map (renI (visits [] (c :: k.cells)))) := Fo.ok_ren (hlen c k hk1) (.node c k .nil) HX.out.2.2
      have ok2 : Tr.ok (renI (visits [] (c' :: k'.cells)) c', k'.map (renI (visits [] (c' :: k'.cells)))) := Fo.ok_ren (hlen c' k' hk2) (.node c' k' .nil) HY.out.2.2
      have HS := isSame_any w6 0 w6 ((renI (visits [] (c :: k.cells)) c, k.map (renI (visits [] (c :: k.cells)))), (renI (visits [] (c' :: k'.cells)) c', k'.map (renI (visits [] (c' :: k'.cells))))) (.iface t4 y4) v6 (Below.refl _ _) (FoIn.mono (FoIn.below HF4.out (Below.on HB45.out hb6)) (Nat.zero_le _)) (FoIn.mono hf6 (Nat.zero_le _)) ok1 ok2 (by simp only [Fo.cells_map, List.length_map]; exact hk1)
      have he : eqT ((renI (visits [] (c :: k.cells)) c, k.map (renI (visits [] (c :: k.cells)))), (renI (visits [] (c' :: k'.cells)) c', k'.map (renI (visits [] (c' :: k'.cells))))) = variantB xs ys := by
        rw [eqT_cells ok1 ok2, HR.out, HX.out.1, HY.out.1]
        simp only [Fo.cells_map, renCells, List.map_cons]
      rw [he] at HS
      obtain ⟨t6, y6, rfl⟩ := hf6.iface
      obtain ⟨R, eR⟩ : ∃ R, R = variantB xs ys := ⟨_, rfl⟩
      rw [← eR] at HS
      have HER : Hid (R = variantB xs ys) := eR
      clear hb6 hf6 HN5 he eR hlen ok1 ok2
      go_wp2_with fail
      refine HS.mono ?_
      rintro e w7 ⟨rfl, hb7⟩
      have HB7 : Hid (Below w.heap.size w w7) := Below.on HB6.out hb7
      clear hb7 HS
      go_wp2_with fail
      go_ret
      exact ⟨ret_bool HER.out, HB7.out⟩
    · have h2' : validB ys = false := by simpa using h2
      have hr : variantB xs ys = false := by rw [variantB, h2']; simp
      rw [h2'] at HV2
      rw [hr]
      clear h1 h2 h2' hx hy hp hq hr
      go_enter Tryz.func13, Tryz.ntmps13
      go_wp2_with fail
      refine HV1.mono ?_
      rintro e w1 ⟨rfl, hb1⟩
      have HB1 : Hid (Below w.heap.size w w1) := hb1
      clear hb1 HV1
      go_wp2_with fail
      refine (HV2.out w1 HB1.out).mono ?_
      rintro e w2 ⟨rfl, hb2⟩
      have HB2 : Hid (Below w.heap.size w w2) := Below.on HB1.out hb2
      clear hb2
      go_wp2_with fail
      go_ret
      exact ⟨rfl, HB2.out⟩
  · have h1' : validB xs = false := by simpa using h1
    have hr : variantB xs ys = false := by rw [variantB, h1']; simp
    rw [h1'] at HV1
    rw [hr]
    clear h1 h1' hx hy hp hq hr
    go_enter Tryz.func13, Tryz.ntmps13
    go_wp2_with fail
    refine HV1.mono ?_
    rintro e w1 ⟨rfl, hb1⟩
    go_wp2_with fail
    go_ret
    exact ⟨rfl, hb1⟩
end Go.Proofs.YtaakpdakeolgeaaGreat

namespace Go.Proofs.YtaakpdakeolgeaaGreat
open Go Go.RowKit
set_option linter.unusedVariables false
def TermsIn (w0 : World) : Env → List (Option Addr × Nat × Nat) → Prop
  | [], rs => rs = []
  | y :: r, rs => ∃ q s, rs = q :: s ∧ q.2.1 = (y.2.1 :: y.2.2.cells).length ∧ CIn w0 q.1 (y.2.1 :: y.2.2.cells) ∧ TermsIn w0 r s
theorem TermsIn.snoc {w0 : World} {v : Int} {t : Tr} {q : Option Addr × Nat × Nat} (h1 : q.2.1 = (t.1 :: t.2.cells).length) (h2 : CIn w0 q.1 (t.1 :: t.2.cells)) : ∀ (env : Env) (rs : List (Option Addr × Nat × Nat)), TermsIn w0 env rs → TermsIn w0 (env ++ [(v, t)]) (rs ++ [q])
  | [], rs, h => by rw [show rs = [] from h]; exact ⟨q, [], rfl, h1, h2, rfl⟩
  | y :: r, rs, ⟨u, s, e, a1, a2, a3⟩ => by subst e; exact ⟨u, s ++ [q], rfl, a1, a2, TermsIn.snoc h1 h2 r s a3⟩
theorem TermsIn.len {w0 : World} : ∀ (env : Env) (rs : List (Option Addr × Nat × Nat)), TermsIn w0 env rs → rs.length = env.length
  | [], rs, h => by rw [show rs = [] from h]; rfl
  | y :: r, rs, ⟨u, s, e, _, _, h⟩ => by subst e; simp [TermsIn.len r s h]
theorem TermsIn.at_ {w0 : World} : ∀ (env : Env) (rs : List (Option Addr × Nat × Nat)), TermsIn w0 env rs → ∀ i (h : i < env.length), ∃ q, rs[i]? = some q ∧ q.2.1 = (env[i].2.1 :: env[i].2.2.cells).length ∧ CIn w0 q.1 (env[i].2.1 :: env[i].2.2.cells)
  | [], rs, _, i, h => by simp at h
  | y :: r, rs, ⟨u, s, e, a1, a2, a3⟩, i, h => by
    subst e
    cases i with
    | zero => exact ⟨u, rfl, a1, a2⟩
    | succ i => simpa using TermsIn.at_ r s a3 i (by simpa using h)
theorem app_int2 (w : World) {ops : Array Oper} {rest : List Oper} {o : Oper} {a : Act} {Q : Exit → Act → World → Prop} (hgd : o.guard = none) (s x : Operand)
    (ho : o.op = .call { callee := .builtin .append, args := #[s, x], argTypes := #[73, 73] }) (B : Nat) (p : Option Addr) (n c : Nat) (ys : List Int) (z : Int)
    (hs : a.eval s = .slice p n c) (hown : OwnI w B 3 p n c ys) (hx : a.eval x = .slice (some ⟨w.heap.size, 0, none⟩) 1 1)
    (hlen : n + 1 ≤ 1000000000) (hbase : B ≤ w.heap.size)
    (h : ∀ g cap w', OwnI w' B 3 (some ⟨g, 0, none⟩) (n + 1) cap (ys ++ [z]) → (w.alloc (.cells #[.int .i64 z] 3)).grownBy w' (Value.ownBlock (.slice p n c)) → wpList Tryz.prog ops Q rest (a.put o.dst (.slice (some ⟨g, 0, none⟩) (n + 1) cap)) w') : wpList Tryz.prog ops Q (o :: rest) a (w.alloc (.cells #[.int .i64 z] 3)) := by
  obtain ⟨i0, hi, hz0, hz1, hz2⟩ := info_parts infoInt
  refine wpList_append_lies _ hgd s x 73 ho B 3 i0 (.int .i64 0) 1 8 Tryz.underlying73 hi hz0 hz1 hz2 rfl (by decide) (.slice p n c) n (ys.map (Value.int .i64)) hs (hown.2.alloc _) ⟨w.heap.size, 0, none⟩ 1 1 [.int .i64 z] hx rfl (cell_one_new _ _ _) (ints_oneCell .i64 [z]) (by decide) (by unfold maxLen; omega) (by omega) (by simp; omega) _ rfl ?_
  intro g cap w' hown' hgrow hat hlt
  exact h g cap w' ⟨by have := hown.1; simp; omega, by rw [List.map_append]; exact hown'⟩ hgrow
end Go.Proofs.YtaakpdakeolgeaaGreat

namespace Go.Proofs.YtaakpdakeolgeaaGreat
open Go Go.RowKit
set_option linter.unusedVariables false
theorem wrap_small1 {n : Int} (h1 : -9223372036854775808 ≤ n) (h2 : n ≤ 9223372036854775807) : IntKind.i64.wrap n = n := by
  unfold IntKind.wrap
  simp [IntKind.bits, IntKind.signed]
  omega
def SubsIs (xs ys : List Cel) (R : Bool) : Prop :=
  (validB xs = true ∧ validB ys = true ∧ ∃ c k c' k', xs = c :: k.cells ∧ ys = c' :: k'.cells ∧ (Fo.node c k .nil).ok ∧ (Fo.node c' k' .nil).ok ∧ xs.length ≤ 2000 ∧ ys.length ≤ 2000 ∧ R = (subF [] (.node c k .nil) (.node c' k' .nil)).isSome) ∨
  (¬ (validB xs = true ∧ validB ys = true) ∧ R = false)
theorem subsIs {xs ys : List Cel} (hx : ∀ i, i < xs.length → Byte (xs.getD i Cel.none).2.2) (hy : ∀ i, i < ys.length → Byte (ys.getD i Cel.none).2.2) : ∃ R, SubsIs xs ys R := by
  by_cases h : validB xs = true ∧ validB ys = true
  · obtain ⟨c, k, ex, hok, hlx⟩ := tree_of hx h.1
    obtain ⟨c', k', ey, hok', hly⟩ := tree_of hy h.2
    exact ⟨_, .inl ⟨h.1, h.2, c, k, c', k', ex, ey, hok, hok', hlx, hly, rfl⟩⟩
  · exact ⟨false, .inr ⟨h, rfl⟩⟩
theorem Fo.byte : ∀ F : Fo, F.ok → ∀ x ∈ F.cells, Byte x.2.2
  | .nil, _, x, h => by simp [Fo.cells] at h
  | .node c k r, h, x, hx => by
    simp only [Fo.cells, List.mem_cons, List.mem_append] at hx
    rcases hx with rfl | hx | hx
    · exact h.2.1
    · exact Fo.byte k h.2.2.2.2.1 x hx
    · exact Fo.byte r h.2.2.2.2.2 x hx
theorem eqT_cmp {a b : Tr} (ha : a.ok) (hb : b.ok) : eqT (a, b) = (decide ((a.1 :: a.2.cells).length = (b.1 :: b.2.cells).length) && (cmpC (a.1 :: a.2.cells) (b.1 :: b.2.cells) == 0)) := by
  rw [eqT_cells (x := (a, b)) ha hb, Bool.eq_iff_iff]
  simp only [decide_eq_true_eq, Bool.and_eq_true, beq_iff_eq]
  have hA : ∀ x ∈ a.1 :: a.2.cells, Byte x.2.2 := fun x hx => Fo.byte a.fo ha x (by simpa [Tr.fo, Fo.cells] using hx)
  have hB : ∀ x ∈ b.1 :: b.2.cells, Byte x.2.2 := fun x hx => Fo.byte b.fo hb x (by simpa [Tr.fo, Fo.cells] using hx)
  constructor
  · intro h
    exact ⟨by rw [h], (cmpC_zero _ _ (by rw [h]) hA hB).2 h⟩
  · intro h
    exact (cmpC_zero _ _ h.1 hA hB).1 h.2
theorem cmpC_one (x y : Cel) : cmpC [x] [y] = cellCmp x y := by
  simp only [cmpC]
  split
  · rfl
  · rename_i h; simpa using (Eq.symm (by simpa using h : cellCmp x y = 0))
structure SpSt (w wr : World) (xs ys : List Cel) (R : Bool) (j a : Nat) (G S : Fo) (env : Env) (pv : Option Addr) (nv cv : Nat) (pt : Option Addr) (nt ct : Nat) (rs : List (Option Addr × Nat × Nat)) : Prop where
  gd : xs.drop j = G.cells
  sd : ys.drop a = S.cells
  gok : G.ok
  sok : S.ok
  cnt : G.count = S.count
  res : (subF env G S).isSome = R
  eok : ∀ y ∈ env, Tr.ok y.2
  vars : OwnI wr w.heap.size 3 pv nv cv (env.map Prod.fst)
  terms : wr.ownsRow w.heap.size 23 1 (.slice pt nt ct) nt (rs.map slV)
  tin : TermsIn w env rs
  low : Below w.heap.size w wr
theorem SpSt.nt_eq {w wr : World} {xs ys : List Cel} {R : Bool} {j a : Nat} {G S : Fo} {env : Env} {pv : Option Addr} {nv cv : Nat} {pt : Option Addr} {nt ct : Nat} {rs : List (Option Addr × Nat × Nat)} (h : SpSt w wr xs ys R j a G S env pv nv cv pt nt ct rs) : nt = env.length ∧ nv = env.length := by
  have h1 := h.terms.1
  have h2 := TermsIn.len _ _ h.tin
  have h3 := h.vars.1
  simp at h1 h3
  omega
set_option maxRecDepth 100000 in
set_option maxHeartbeats 2000000 in
theorem specSubsC_loop (xs ys : List Cel) (R : Bool) (c c' : Cel) (k k' : Fo) (p q : Option Addr) (cx cy : Nat) (hkx : xs.length ≤ cx ∧ cx ≤ 9223372036854775807) (hky : ys.length ≤ cy ∧ cy ≤ 9223372036854775807) (w : World) (ex : xs = c :: k.cells) (ey : ys = c' :: k'.cells) (hok : (Fo.node c k .nil).ok) (hok' : (Fo.node c' k' .nil).ok) (hlx : xs.length ≤ 2000) (hly : ys.length ≤ 2000) (hR : R = (subF [] (.node c k .nil) (.node c' k' .nil)).isSome)
    (h1 : validB xs = true) (h2 : validB ys = true) (hp : CIn w p xs) (hq : CIn w q ys) :
    Calls Tryz.prog 12 #[.slice p xs.length cx, .slice q ys.length cy] w fun e w' => e = .returned (.bool R) ∧ Below w.heap.size w w' := by
  have HV1 := specValid_any p cx xs w (by omega) hp
  have HV2 : Hid (∀ W, Below w.heap.size w W → Calls Tryz.prog 17 #[.slice q ys.length cy] W fun e w' => e = .returned (.bool (validB ys)) ∧ Below W.heap.size W w') := fun W hW => specValid_any q cy ys W (by omega) (hq.below hW)
  rw [h1] at HV1
  rw [h2] at HV2
  obtain ⟨b, o, rfl, hcx⟩ := hp (by rw [ex]; simp)
  obtain ⟨b', o', rfl, hcy⟩ := hq (by rw [ey]; simp)
  obtain ⟨n, en⟩ : ∃ n, n = xs.length := ⟨_, rfl⟩
  obtain ⟨m, em⟩ : ∃ m, m = ys.length := ⟨_, rfl⟩
  have HX : Hid (∀ i, i < xs.length → CAt w b (o + i * 3) (xs.getD i Cel.none)) := hcx
  have HY : Hid (∀ i, i < ys.length → CAt w b' (o' + i * 3) (ys.getD i Cel.none)) := hcy
  have HQ : Hid (CIn w (some ⟨b', o', none⟩) ys) := hq
  have HNM : Hid (n = xs.length ∧ m = ys.length) := ⟨en, em⟩
  have HST : Hid (∀ wr, Below w.heap.size w wr → SpSt w wr xs ys R 0 0 (.node c k .nil) (.node c' k' .nil) [] none 0 0 none 0 0 []) := fun wr hb => ⟨by simp [Fo.cells, ex], by simp [Fo.cells, ey], hok, hok', rfl, hR.symm, fun y h => (by cases h), OwnI.nil _ _ _, World.ownsRow_nil _ _ _ _, rfl, hb⟩
  have HGL : Hid (n = (Fo.node c k .nil).cells.length ∧ m = (Fo.node c' k' .nil).cells.length) := ⟨by rw [en, ex]; simp [Fo.cells], by rw [em, ey]; simp [Fo.cells]⟩
  rw [← en] at HV1 hlx hkx ⊢
  rw [← em] at HV2 hly hky ⊢
  clear h1 h2 hcx hcy hp hq en em ex ey hok hok' hR
  obtain ⟨hkx1, hkx2⟩ := hkx
  obtain ⟨hky1, hky2⟩ := hky
  go_enter Tryz.func12, Tryz.ntmps12
  go_wp2_with fail
  refine HV1.mono ?_
  rintro e w1 ⟨rfl, hb1⟩
  have HB1 : Hid (Below w.heap.size w w1) := hb1
  clear hb1 HV1
  go_wp2_with fail
  refine (HV2.out w1 HB1.out).mono ?_
  rintro e w2 ⟨rfl, hb2⟩
  have HB2 : Hid (Below w.heap.size w w2) := Below.on HB1.out hb2
  clear hb2
  go_wp2_with fail
  go_loopw [5, 6, 7, 8] (fun s5 s6 s7 s8 wr => ∃ (j a : Nat) (G S : Fo) (env : Env) (pv : Option Addr) (nv cv : Nat) (pt : Option Addr) (nt ct : Nat) (rs : List (Option Addr × Nat × Nat)), j ≤ n ∧ a ≤ m ∧ nv ≤ j ∧ nt = nv ∧ s5 = .slice pv nv cv ∧ s6 = .slice pt nt ct ∧ s7 = .int .i64 a ∧ s8 = .int .i64 j ∧ Hid (j + G.cells.length = n ∧ a + S.cells.length = m) ∧ Hid (SpSt w wr xs ys R j a G S env pv nv cv pt nt ct rs)) (fun _ _ _ i _ => n - (intOf i).toNat)
  case atStart => exact ⟨0, 0, _, _, [], none, 0, 0, none, 0, 0, [], Nat.zero_le _, Nat.zero_le _, Nat.le_refl _, rfl, rfl, rfl, rfl, rfl, ⟨by have := HGL.out.1; omega, by have := HGL.out.2; omega⟩, HST.out _ HB2.out⟩
  case round =>
    obtain ⟨j, a, G, S, env, pv, nv, cv, pt, nt, ct, rs, hj, ha, hnv, hntv, rfl, rfl, rfl, rfl, HL, HS⟩ := hrel
    subst hntv
    by_cases hlt : j < n
    · obtain ⟨c1, k1, r1, rfl⟩ : ∃ c k r, G = .node c k r := by
        cases G with
        | nil => have := HL.out.1; simp [Fo.cells] at this; omega
        | node c k r => exact ⟨c, k, r, rfl⟩
      obtain ⟨c2, k2, r2, rfl⟩ : ∃ c k r, S = .node c k r := by
        have := HS.out.cnt
        cases S with
        | nil => simp [Fo.count] at this
        | node c k r => exact ⟨c, k, r, rfl⟩
      have hgd : xs.drop j = c1 :: (k1.cells ++ r1.cells) := HS.out.gd
      have hsd : ys.drop a = c2 :: (k2.cells ++ r2.cells) := HS.out.sd
      obtain ⟨hjl, hgx, hgd'⟩ := drop_cell hgd
      obtain ⟨hal, hgy, hsd'⟩ := drop_cell hsd
      have ham : a < m := by rw [HNM.out.2]; exact hal
      obtain ⟨p0, q0, d0, d1, _, _⟩ := (HX.out j hjl).below HS.out.low
      rw [hgx] at d0 d1
      have HGD : Hid (xs.drop (j + 1) = k1.cells ++ r1.cells ∧ ys.drop (a + 1) = k2.cells ++ r2.cells) := ⟨hgd', hsd'⟩
      have HCN : Hid (r1.count = r2.count) := by have := HS.out.cnt; simpa [Fo.count, Hid] using this
      have HO1 : Hid (Fo.node c1 k1 r1).ok := HS.out.gok
      have HO2 : Hid (Fo.node c2 k2 r2).ok := HS.out.sok
      have HT2 : Hid (Tr.ok (c2, k2)) := ⟨HO2.out.1, HO2.out.2.1, HO2.out.2.2.1, HO2.out.2.2.2.1, HO2.out.2.2.2.2.1, trivial⟩
      have hle2 : a + 1 + k2.cells.length ≤ m := by have := HL.out.2; simp [Fo.cells] at this; omega
      have hle1 : j + 1 + k1.cells.length ≤ n := by have := HL.out.1; simp [Fo.cells] at this; omega
      by_cases h0 : c1.1 = 0
      · have hk1 : k1 = .nil := HO1.out.2.2.2.1 (by rw [h0]; decide)
        subst hk1
        have HNX := l2next_any (some ⟨b', o', none⟩) m cy ys a c2 k2 r2.cells wr HNM.out.2 (by omega) hsd HT2.out (HQ.out.below HS.out.low)
        have HPT : Hid (CIn w (some ⟨b', o' + a * 3, none⟩) (c2 :: k2.cells)) := CIn.part HY.out a (by rw [hsd]; exact ⟨r2.cells, by simp⟩)
        have HFD := l2find_any pv nt cv (env.map Prod.fst) c1.2.1 wr HS.out.vars.1 (by omega) HS.out.vars.iin
        have HDR : Hid (ys.drop (a + (1 + k2.cells.length)) = r2.cells) := by
          show _ = _
          rw [show a + (1 + k2.cells.length) = (a + 1) + k2.cells.length by omega, ← List.drop_drop, HGD.out.2]; simp
        have HXR : Hid (xs.drop (j + 1) = r1.cells) := by have := HGD.out.1; simpa [Fo.cells, Hid] using this
        rw [h0] at d0
        have H0 : Hid (c1.1 = 0) := h0
        obtain ⟨v, ev⟩ : ∃ v, v = c1.2.1 := ⟨_, rfl⟩
        rw [← ev] at d1 HFD
        have HEV : Hid (v = c1.2.1) := ev
        obtain ⟨L, eL⟩ : ∃ L, L = 1 + k2.cells.length := ⟨_, rfl⟩
        have HEL : Hid (L = 1 + k2.cells.length) := eL
        have hnx : a + 1 + k2.cells.length = a + L := by omega
        rw [hnx] at HNX hle2
        rw [← eL] at HDR
        have hL1 : 1 ≤ L := by omega
        have hma : (0 : Int) < (cy : Int) - (a : Int) := by omega
        have hL2 : (a : Int) ≤ (a : Int) + (L : Int) := by omega
        have hL3 : (a : Int) + (L : Int) ≤ (m : Int) := by omega
        have hL4 : (a : Int) + (L : Int) ≤ (cy : Int) := by omega
        have hcap : ¬ cy = a := by omega
        have hcap2 : ¬ cy - a = 0 := by omega
        have HLL : Hid (r1.cells.length + (j + 1) = n ∧ a + L + r2.cells.length = m) := ⟨by have := HL.out.1; simp [Fo.cells] at this; omega, by have := HL.out.2; simp [Fo.cells] at this; omega⟩
        clear hgx hgy hgd hsd hgd' hsd' hjl hal h0 ev eL hnx
        cases hl : look env v with
        | none =>
          have hnm : v ∉ env.map Prod.fst := (look_none env v).1 hl
          have hf : findI (env.map Prod.fst) v = -1 := by rw [findI, if_neg hnm]
          rw [hf] at HFD
          have HN : Hid (look env v = none) := hl
          clear hf hnm hl
          have HRS : Hid ((subF (env ++ [(v, (c2, k2))]) r1 r2).isSome = R) := by
            have h := HS.out.res
            have hl := HN.out
            rw [HEV.out] at hl
            simp only [subF, if_pos H0.out, hl] at h
            rw [HEV.out]
            exact h
          go_wp2_with fail
          refine HNX.mono ?_
          rintro e w3 ⟨rfl, rfl⟩
          clear HNX
          go_wp2_with fail
          refine HFD.mono ?_
          rintro e w4 ⟨rfl, rfl⟩
          clear HFD
          go_wp2_with (first
            | (at_builtin; refine app_int2 _ rfl _ _ rfl w.heap.size pv nt cv _ v rfl HS.out.vars rfl (by omega) HS.out.low.size ?_; intro g cap w5 hown5 hg5; have hrow5 := (HS.out.terms.alloc (.cells #[.int .i64 v] 3)).kept hg5 (rows_apart (HS.out.terms.alloc _) (HS.out.vars.2.alloc (.cells #[.int .i64 v] 3)) (by decide)); have hb5 : Below w.heap.size w w5 := (HS.out.low.alloc HS.out.low.size _).grown hg5 (HS.out.low.alloc HS.out.low.size _).size (fun k e => (HS.out.vars.2.lt k e).1))
            | (at_builtin; refine app_sl _ rfl _ _ rfl w.heap.size pt nt ct rs (some ⟨b', o' + a * 3, none⟩) L (cy - a) rfl hrow5 rfl (by omega) hb5.size ?_; intro g6 cap6 w6 hown6 hg6))
          have HS6 : Hid (SpSt w w6 xs ys R (j + 1) (a + L) r1 r2 (env ++ [(v, (c2, k2))]) (some ⟨g, 0, none⟩) (nt + 1) cap (some ⟨g6, 0, none⟩) (nt + 1) cap6 (rs ++ [(some ⟨b', o' + a * 3, none⟩, L, cy - a)])) :=
            ⟨HXR.out, HDR.out, HO1.out.2.2.2.2.2, HO2.out.2.2.2.2.2, HCN.out, HRS.out, fun y hy => by
              rcases List.mem_append.1 hy with hy | hy
              · exact HS.out.eok y hy
              · rw [List.mem_singleton.1 hy]; exact HT2.out,
             ⟨by have := hown5.1; simpa using this, by
              have := (hown5.2.alloc (.cells #[.slice (some ⟨b', o' + a * 3, none⟩) L (cy - a)] 23)).kept hg6 (rows_apart (hown5.2.alloc _) (hrow5.alloc (.cells #[.slice (some ⟨b', o' + a * 3, none⟩) L (cy - a)] 23)) (by decide))
              simpa using this⟩, hown6, TermsIn.snoc (by rw [HEL.out]; simp; omega) HPT.out _ _ HS.out.tin, (hb5.alloc hb5.size _).grown hg6 (hb5.alloc hb5.size _).size (fun k e => (hrow5.lt k e).1)⟩
          clear hown5 hg5 hrow5 hb5 hown6 hg6
          go_roundw
          case rel => exact ⟨j + 1, a + L, r1, r2, env ++ [(v, (c2, k2))], some ⟨g, 0, none⟩, nt + 1, cap, some ⟨g6, 0, none⟩, nt + 1, cap6, _, by omega, by omega, by omega, rfl, rfl, rfl, by go_num, by go_num, ⟨by have := HLL.out.1; omega, HLL.out.2⟩, HS6⟩
          case measure => simp [intOf]; omega
        | some t =>
          obtain ⟨hix, hit⟩ := look_at env v t hl
          obtain ⟨ix, eix⟩ : ∃ ix, ix = (env.map Prod.fst).idxOf v := ⟨_, rfl⟩
          have hmem : v ∈ env.map Prod.fst := by
            by_cases h : v ∈ env.map Prod.fst
            · exact h
            · rw [(look_none env v).2 h] at hl; cases hl
          have hf : findI (env.map Prod.fst) v = (ix : Int) := by rw [findI, if_pos hmem, eix]
          rw [hf] at HFD
          simp only [← eix] at hix hit
          obtain ⟨⟨pq, nq, cq⟩, hq1, hq2, hq3⟩ := TermsIn.at_ _ _ HS.out.tin ix hix
          rw [hit] at hq2 hq3
          simp only at hq2 hq3
          have hne := HS.out.nt_eq
          have hixn : ix < nt := by omega
          have hcg : ∃ gt, pt = some ⟨gt, 0, none⟩ ∧ wr.cell? ⟨gt, ix, none⟩ = some (.slice pq nq cq) := by
            obtain ⟨gt, cap, hv, _, _⟩ := HS.out.terms.form (by omega)
            cases hv
            refine ⟨gt, rfl, ?_⟩
            have := HS.out.terms.cellAt ix (by omega)
            rw [this, List.getElem?_map, hq1]; rfl
          obtain ⟨gt, rfl, hcell⟩ := hcg
          have htok : Tr.ok t := by
            have := HS.out.eok _ (look_mem hl)
            exact this
          have hlt1 : (t.1 :: t.2.cells).length ≤ 1000000 ∨ True := .inr trivial
          have HRS : Hid (R = (eqT (t, (c2, k2)) && (subF env r1 r2).isSome)) := by
            have h := HS.out.res
            rw [HEV.out] at hl
            simp only [subF, if_pos H0.out, hl] at h
            show _ = _
            rw [← h]
            cases eqT (t, (c2, k2)) <;> simp
          have heq := eqT_cmp htok HT2.out
          have hLq : (c2 :: k2.cells).length = L := by rw [HEL.out]; simp; omega
          simp only at heq
          rw [← hq2, hLq] at heq
          have hixm : (ix : Int) < (nt : Int) := by omega
          have hix0 : (0 : Int) ≤ (ix : Int) := by omega
          have hixneg : ¬ ((ix : Int) < 0) := by omega
          by_cases hlen : nq = L
          · subst hlen
            have HCM : Hid (Calls Tryz.prog 43 #[.slice pq nq cq, .slice (some ⟨b', o' + a * 3, none⟩) nq (cy - a)] wr fun e w' => e = .returned (.int .i64 (cmpC (t.1 :: t.2.cells) (c2 :: k2.cells))) ∧ Below wr.heap.size wr w') := l2compare_any _ _ pq _ nq nq cq (cy - a) wr hq2 hLq.symm (by omega) (by omega) (hq3.below HS.out.low) (HPT.out.below HS.out.low)
            obtain ⟨cc, ecc⟩ : ∃ cc, cc = cmpC (t.1 :: t.2.cells) (c2 :: k2.cells) := ⟨_, rfl⟩
            rw [← ecc] at HCM heq
            have hRS2 := HRS.out
            rw [heq] at hRS2
            simp only [decide_true, Bool.true_and] at hRS2
            have HR2 : Hid (R = ((cc == 0) && (subF env r1 r2).isSome)) := hRS2
            clear hRS2 heq ecc HRS hl hix hit hmem hf hq1 hq2 hq3 hne htok hlt1 eix hLq
            by_cases hcz : cc = 0
            · subst hcz
              go_wp2_with fail
              refine HNX.mono ?_
              rintro e w3 ⟨rfl, rfl⟩
              clear HNX
              go_wp2_with fail
              refine HFD.mono ?_
              rintro e w4 ⟨rfl, rfl⟩
              clear HFD
              go_wp2_with fail
              refine HCM.out.mono ?_
              rintro e w5 ⟨rfl, hb5⟩
              have HS5 : Hid (SpSt w w5 xs ys R (j + 1) (a + nq) r1 r2 env pv nt cv (some ⟨gt, 0, none⟩) nt ct rs) :=
                ⟨HXR.out, HDR.out, HO1.out.2.2.2.2.2, HO2.out.2.2.2.2.2, HCN.out, by have := HR2.out; simpa using this.symm, HS.out.eok, HS.out.vars.below hb5, row_below HS.out.terms hb5, HS.out.tin, Below.on HS.out.low hb5⟩
              clear hb5 HCM
              go_wp2_with fail
              go_roundw
              case rel => exact ⟨j + 1, a + nq, r1, r2, env, pv, nt, cv, some ⟨gt, 0, none⟩, nt, ct, rs, by omega, by omega, by omega, rfl, rfl, rfl, by go_num, by go_num, ⟨by have := HLL.out.1; omega, HLL.out.2⟩, HS5⟩
              case measure => simp [intOf]; omega
            · have hcz' : (cc == 0) = false := by simpa using hcz
              have HRF : Hid (R = false) := by show _ = _; rw [HR2.out, hcz']; rfl
              go_wp2_with fail
              refine HNX.mono ?_
              rintro e w3 ⟨rfl, rfl⟩
              clear HNX
              go_wp2_with fail
              refine HFD.mono ?_
              rintro e w4 ⟨rfl, rfl⟩
              clear HFD
              go_wp2_with fail
              refine HCM.out.mono ?_
              rintro e w5 ⟨rfl, hb5⟩
              have HB5 : Hid (Below w.heap.size w w5) := Below.on HS.out.low hb5
              clear hb5 HCM
              go_wp2_with fail
              go_ret
              exact ⟨ret_bool HRF.out.symm, HB5.out⟩
          · have HRF : Hid (R = false) := by
              show _ = _
              rw [HRS.out, heq]; simp [hlen]
            have hlen' : ¬ (nq : Int) = (L : Int) := by omega
            clear heq HRS hl hix hit hmem hf hq1 hq2 hq3 hne htok hlt1 eix hLq hlen
            go_wp2_with fail
            refine HNX.mono ?_
            rintro e w3 ⟨rfl, rfl⟩
            clear HNX
            go_wp2_with fail
            refine HFD.mono ?_
            rintro e w4 ⟨rfl, rfl⟩
            clear HFD
            go_wp2_with fail
            go_ret
            exact ⟨ret_bool HRF.out.symm, HS.out.low⟩
      · have h0' : (c1.1 == 0) = false := by simpa using h0
        have HPX : Hid (CIn w (some ⟨b, o + j * 3, none⟩) [c1]) := CIn.part HX.out j (by rw [hgd]; exact ⟨_, rfl⟩)
        have HPY : Hid (CIn w (some ⟨b', o' + a * 3, none⟩) [c2]) := CIn.part HY.out a (by rw [hsd]; exact ⟨_, rfl⟩)
        have HCM : Hid (∀ W, Below w.heap.size w W → Calls Tryz.prog 43 #[.slice (some ⟨b, o + j * 3, none⟩) 1 (cx - j), .slice (some ⟨b', o' + a * 3, none⟩) 1 (cy - a)] W fun e w' => e = .returned (.int .i64 (cellCmp c1 c2)) ∧ Below W.heap.size W w') := fun W hW => by
          have := l2compare_any [c1] [c2] (some ⟨b, o + j * 3, none⟩) (some ⟨b', o' + a * 3, none⟩) 1 1 (cx - j) (cy - a) W rfl rfl (by decide) (by decide) (HPX.out.below hW) (HPY.out.below hW)
          rwa [cmpC_one] at this
        have hcz := cellCmp_zero (x := c1) (y := c2) HO1.out.2.1 HO2.out.2.1
        have hcap : ¬ cx = j := by omega
        have hcap2 : ¬ cy = a := by omega
        have hcap3 : ¬ cx - j = 0 := by omega
        have hcap4 : ¬ cy - a = 0 := by omega
        have hi1 : (j : Int) + 1 ≤ (cx : Int) := by omega
        have hi2 : (a : Int) + 1 ≤ (cy : Int) := by omega
        have hi3 : (0 : Int) ≤ (j : Int) := by omega
        have hi4 : (0 : Int) ≤ (a : Int) := by omega
        have hi5 : (j : Int) ≤ (j : Int) + 1 := by omega
        have hi6 : (a : Int) ≤ (a : Int) + 1 := by omega
        have hw1 : IntKind.i64.wrap ((j : Int) + 1) = (j : Int) + 1 := wrap_small1 (by omega) (by omega)
        have hw2 : IntKind.i64.wrap ((a : Int) + 1) = (a : Int) + 1 := wrap_small1 (by omega) (by omega)
        obtain ⟨cc, ecc⟩ : ∃ cc, cc = cellCmp c1 c2 := ⟨_, rfl⟩
        rw [← ecc] at HCM hcz
        obtain ⟨kd, ekd⟩ : ∃ kd, kd = c1.1 := ⟨_, rfl⟩
        rw [← ekd] at d0 h0'
        have H0 : Hid (c1.1 ≠ 0) := h0
        have hLow := HS.out.low
        have HBD : Hid (Below w.heap.size w wr.drew) := hLow.drew
        have HLL : Hid ((k1.cat r1).cells.length + (j + 1) = n ∧ a + 1 + (k2.cat r2).cells.length = m) := ⟨by have := HL.out.1; rw [Fo.cells_cat]; simp [Fo.cells] at this ⊢; omega, by have := HL.out.2; rw [Fo.cells_cat]; simp [Fo.cells] at this ⊢; omega⟩
        by_cases hc : cc = 0
        · have hcc : c1 = c2 := hcz.1 hc
          have hkc : k1.count = k2.count := ok_count (x := ((c1, k1), (c2, k2))) ⟨HO1.out.1, HO1.out.2.1, HO1.out.2.2.1, HO1.out.2.2.2.1, HO1.out.2.2.2.2.1, trivial⟩ HT2.out hcc
          have HNEW : Hid (∀ w5, Below w.heap.size w w5 → OwnI w5 w.heap.size 3 pv nt cv (env.map Prod.fst) → w5.ownsRow w.heap.size 23 1 (.slice pt nt ct) nt (rs.map slV) → SpSt w w5 xs ys R (j + 1) (a + 1) (k1.cat r1) (k2.cat r2) env pv nt cv pt nt ct rs) := fun w5 hb hv ht =>
            ⟨by rw [Fo.cells_cat]; exact HGD.out.1, by rw [Fo.cells_cat]; exact HGD.out.2, (Fo.ok_cat _ _).2 ⟨HO1.out.2.2.2.2.1, HO1.out.2.2.2.2.2⟩, (Fo.ok_cat _ _).2 ⟨HO2.out.2.2.2.2.1, HO2.out.2.2.2.2.2⟩, by rw [Fo.count_cat, Fo.count_cat, hkc, HCN.out], by
              rw [subF_cat _ _ _ _ _ hkc, ← HS.out.res]
              simp only [subF, if_neg H0.out, if_pos hcc], HS.out.eok, hv, ht, HS.out.tin, hb⟩
          subst hc
          clear hgx hgy hgd hsd hgd' hsd' hjl hal h0 hcz hcc hkc ecc ekd hLow
          go_wp2_with fail
          go_region_held3 (fun _ => True) (trivial)
            ((go_at_call 43; refine (HCM.out _ HBD.out).mono ?_; rintro e w5 ⟨rfl, hb5⟩))
          have HB5 : Hid (Below w.heap.size w w5) := Below.on HBD.out hb5
          have HS5 : Hid _ := HNEW.out w5 HB5.out (HS.out.vars.below (show Below wr.heap.size wr w5 from ((Below.refl wr.heap.size wr).drew).trans hb5)) (row_below HS.out.terms (show Below wr.heap.size wr w5 from ((Below.refl wr.heap.size wr).drew).trans hb5))
          clear hb5
          go_wp2_with fail
          go_roundw
          case rel => exact ⟨j + 1, a + 1, k1.cat r1, k2.cat r2, env, pv, nt, cv, pt, nt, ct, rs, by omega, by omega, by omega, rfl, rfl, rfl, by go_num, by go_num, ⟨by have := HLL.out.1; omega, HLL.out.2⟩, HS5⟩
          case measure => simp [intOf]; omega
        · have HRF : Hid (R = false) := by
            show _ = _
            have hcc : ¬ c1 = c2 := fun e => hc (hcz.2 e)
            rw [← HS.out.res]
            simp only [subF, if_neg H0.out, if_neg hcc]; rfl
          have hc' : (cc == 0) = false := by simpa using hc
          clear hgx hgy hgd hsd hgd' hsd' hjl hal h0 hcz ecc ekd hLow
          go_wp2_with fail
          go_region_held3 (fun _ => True) (trivial)
            ((go_at_call 43; refine (HCM.out _ HBD.out).mono ?_; rintro e w5 ⟨rfl, hb5⟩))
          have HB5 : Hid (Below w.heap.size w w5) := Below.on HBD.out hb5
          clear hb5
          go_wp2_with fail
          go_ret
          exact ⟨ret_bool HRF.out.symm, HB5.out⟩
    · obtain rfl : j = n := by omega
      have hG : G = .nil := by
        cases G with
        | nil => rfl
        | node c k r => have := HL.out.1; simp [Fo.cells] at this
      subst hG
      have hS : S = .nil := by
        have := HS.out.cnt
        cases S with
        | nil => rfl
        | node c k r => simp [Fo.count] at this
      subst hS
      have hA : a = m := by have := HL.out.2; simpa [Fo.cells] using this
      subst hA
      have HRT : Hid (R = true) := by show _ = _; rw [← HS.out.res]; rfl
      go_wp2_with fail
      go_ret
      exact ⟨ret_bool HRT.out.symm, HS.out.low⟩
end Go.Proofs.YtaakpdakeolgeaaGreat

namespace Go.Proofs.YtaakpdakeolgeaaGreat
open Go Go.RowKit
set_option linter.unusedVariables false
set_option maxRecDepth 100000 in
set_option maxHeartbeats 1000000 in
theorem specSubsC_bad (xs ys : List Cel) (p q : Option Addr) (cx cy : Nat) (hcx : xs.length ≤ cx ∧ cx ≤ 9223372036854775807) (hcy : ys.length ≤ cy ∧ cy ≤ 9223372036854775807) (w : World) (hn : xs.length ≤ 1000000000) (hm : ys.length ≤ 1000000000) (hp : CIn w p xs) (hq : CIn w q ys) (hb : ¬ (validB xs = true ∧ validB ys = true)) :
    Calls Tryz.prog 12 #[.slice p xs.length cx, .slice q ys.length cy] w fun e w' => e = .returned (.bool false) ∧ Below w.heap.size w w' := by
  have HV1 := specValid_any p cx xs w hn hp
  by_cases h1 : validB xs = true
  · have HV2 : Hid (∀ W, Below w.heap.size w W → Calls Tryz.prog 17 #[.slice q ys.length cy] W fun e w' => e = .returned (.bool (validB ys)) ∧ Below W.heap.size W w') := fun W hW => specValid_any q cy ys W hm (hq.below hW)
    rw [h1] at HV1
    have h2' : validB ys = false := by
      cases h : validB ys with
      | false => rfl
      | true => exact (hb ⟨h1, h⟩).elim
    rw [h2'] at HV2
    clear h1 h2' hp hq hb
    go_enter Tryz.func12, Tryz.ntmps12
    go_wp2_with fail
    refine HV1.mono ?_
    rintro e w1 ⟨rfl, hb1⟩
    have HB1 : Hid (Below w.heap.size w w1) := hb1
    clear hb1 HV1
    go_wp2_with fail
    refine (HV2.out w1 HB1.out).mono ?_
    rintro e w2 ⟨rfl, hb2⟩
    have HB2 : Hid (Below w.heap.size w w2) := Below.on HB1.out hb2
    clear hb2
    go_wp2_with fail
    go_ret
    exact ⟨rfl, HB2.out⟩
  · have h1' : validB xs = false := by simpa using h1
    rw [h1'] at HV1
    clear h1 h1' hp hq hb
    go_enter Tryz.func12, Tryz.ntmps12
    go_wp2_with fail
    refine HV1.mono ?_
    rintro e w1 ⟨rfl, hb1⟩
    go_wp2_with fail
    go_ret
    exact ⟨rfl, hb1⟩
set_option maxRecDepth 100000 in
set_option maxHeartbeats 1000000 in
theorem implSubsC_bad (xs ys : List Cel) (p q : Option Addr) (cx cy : Nat) (hcx : xs.length ≤ cx ∧ cx ≤ 9223372036854775807) (hcy : ys.length ≤ cy ∧ cy ≤ 9223372036854775807) (w : World) (hn : xs.length ≤ 1000000000) (hm : ys.length ≤ 1000000000) (hp : CIn w p xs) (hq : CIn w q ys) (hb : ¬ (validB xs = true ∧ validB ys = true)) :
    Calls Tryz.prog 10 #[.slice p xs.length cx, .slice q ys.length cy] w fun e w' => e = .returned (.bool false) ∧ Below w.heap.size w w' := by
  have HV1 := implValid_any p cx xs w hn hp
  by_cases h1 : validB xs = true
  · have HV2 : Hid (∀ W, Below w.heap.size w W → Calls Tryz.prog 25 #[.slice q ys.length cy] W fun e w' => e = .returned (.bool (validB ys)) ∧ Below W.heap.size W w') := fun W hW => implValid_any q cy ys W hm (hq.below hW)
    rw [h1] at HV1
    have h2' : validB ys = false := by
      cases h : validB ys with
      | false => rfl
      | true => exact (hb ⟨h1, h⟩).elim
    rw [h2'] at HV2
    clear h1 h2' hp hq hb
    go_enter Tryz.func10, Tryz.ntmps10
    go_wp2_with fail
    refine HV1.mono ?_
    rintro e w1 ⟨rfl, hb1⟩
    have HB1 : Hid (Below w.heap.size w w1) := hb1
    clear hb1 HV1
    go_wp2_with fail
    refine (HV2.out w1 HB1.out).mono ?_
    rintro e w2 ⟨rfl, hb2⟩
    have HB2 : Hid (Below w.heap.size w w2) := Below.on HB1.out hb2
    clear hb2
    go_wp2_with fail
    go_ret
    exact ⟨rfl, HB2.out⟩
  · have h1' : validB xs = false := by simpa using h1
    rw [h1'] at HV1
    clear h1 h1' hp hq hb
    go_enter Tryz.func10, Tryz.ntmps10
    go_wp2_with fail
    refine HV1.mono ?_
    rintro e w1 ⟨rfl, hb1⟩
    go_wp2_with fail
    go_ret
    exact ⟨rfl, hb1⟩
theorem specSubsC_any (xs ys : List Cel) (R : Bool) (p q : Option Addr) (cx cy : Nat) (hcx : xs.length ≤ cx ∧ cx ≤ 9223372036854775807) (hcy : ys.length ≤ cy ∧ cy ≤ 9223372036854775807) (w : World) (hR : SubsIs xs ys R) (hn : xs.length ≤ 1000000000) (hm : ys.length ≤ 1000000000) (hp : CIn w p xs) (hq : CIn w q ys) :
    Calls Tryz.prog 12 #[.slice p xs.length cx, .slice q ys.length cy] w fun e w' => e = .returned (.bool R) ∧ Below w.heap.size w w' := by
  rcases hR with ⟨h1, h2, c, k, c', k', ex, ey, hok, hok', hlx, hly, hR⟩ | ⟨hb, rfl⟩
  · exact specSubsC_loop xs ys R c c' k k' p q cx cy hcx hcy w ex ey hok hok' hlx hly hR h1 h2 hp hq
  · exact specSubsC_bad xs ys p q cx cy hcx hcy w hn hm hp hq hb
set_option maxRecDepth 100000 in
set_option maxHeartbeats 1000000 in
theorem implSubsC_any (xs ys : List Cel) (R : Bool) (p q : Option Addr) (cx cy : Nat) (hcx : xs.length ≤ cx ∧ cx ≤ 9223372036854775807) (hcy : ys.length ≤ cy ∧ cy ≤ 9223372036854775807) (w : World) (hR : SubsIs xs ys R) (hn : xs.length ≤ 1000000000) (hm : ys.length ≤ 1000000000) (hp : CIn w p xs) (hq : CIn w q ys) :
    Calls Tryz.prog 10 #[.slice p xs.length cx, .slice q ys.length cy] w fun e w' => e = .returned (.bool R) ∧ Below w.heap.size w w' := by
  rcases hR with ⟨h1, h2, c, k, c', k', ex, ey, hok, hok', hlx, hly, hR⟩ | ⟨hb, rfl⟩
  · have HV1 := implValid_any p cx xs w hn hp
    have HV2 : Hid (∀ W, Below w.heap.size w W → Calls Tryz.prog 25 #[.slice q ys.length cy] W fun e w' => e = .returned (.bool (validB ys)) ∧ Below W.heap.size W w') := fun W hW => implValid_any q cy ys W hm (hq.below hW)
    rw [h1] at HV1
    rw [h2] at HV2
    obtain ⟨n, en⟩ : ∃ n, n = xs.length := ⟨_, rfl⟩
    obtain ⟨m, em⟩ : ∃ m, m = ys.length := ⟨_, rfl⟩
    rw [← en] at hcx HV1 hn hlx ⊢
    rw [← em] at hcy HV2 hm hly ⊢
    have hk1 : k.cells.length ≤ 10000 := by rw [en, ex] at hlx; simp at hlx; omega
    have hk2 : k'.cells.length ≤ 10000 := by rw [em, ey] at hly; simp at hly; omega
    have HX : Hid ((Fo.node c k .nil).ok ∧ (Fo.node c' k' .nil).ok ∧ R = (subF [] (.node c k .nil) (.node c' k' .nil)).isSome) := ⟨hok, hok', hR⟩
    have HT1 : Hid (∀ W, Below w.heap.size w W → Calls Tryz.prog 27 #[.slice p n cx] W fun e w' => ∃ v, e = .returned v ∧ FoIn w' W.heap.size (.node c k .nil) [v] ∧ Below W.heap.size W w') := fun W hW => termOf_any c k p n cx W hok (by rw [en, ex]; simp) hcx.1 hcx.2 (by have := hp.below hW; rwa [ex] at this)
    have HT2 : Hid (∀ W, Below w.heap.size w W → Calls Tryz.prog 27 #[.slice q m cy] W fun e w' => ∃ v, e = .returned v ∧ FoIn w' W.heap.size (.node c' k' .nil) [v] ∧ Below W.heap.size W w') := fun W hW => termOf_any c' k' q m cy W hok' (by rw [em, ey]; simp) hcy.1 hcy.2 (by have := hq.below hW; rwa [ey] at this)
    clear h1 h2 hp hq ex ey en em hok hok' hR
    go_enter Tryz.func10, Tryz.ntmps10
    go_wp2_with fail
    refine HV1.mono ?_
    rintro e w1 ⟨rfl, hb1⟩
    have HB1 : Hid (Below w.heap.size w w1) := hb1
    clear hb1 HV1
    go_wp2_with fail
    refine (HV2.out w1 HB1.out).mono ?_
    rintro e w2 ⟨rfl, hb2⟩
    have HB2 : Hid (Below w.heap.size w w2) := Below.on HB1.out hb2
    clear hb2
    go_wp2_with fail
    refine (HT1.out w2 HB2.out).mono ?_
    rintro e w3 ⟨v3, rfl, hf3, hb3⟩
    have HB3 : Hid (Below w.heap.size w w3) := Below.on HB2.out hb3
    have HF3 : Hid (FoIn w3 w2.heap.size (.node c k .nil) [v3]) := hf3
    obtain ⟨t3, y3, rfl⟩ := hf3.iface
    clear hb3 hf3
    go_wp2_with fail
    refine (HT2.out w3 HB3.out).mono ?_
    rintro e w5 ⟨v5, rfl, hf5, hb5⟩
    have HB5 : Hid (Below w.heap.size w w5) := Below.on HB3.out hb5
    have HS := subsumes_any w5 ((c, k), (c', k')) (.iface t3 y3) v5 (FoIn.mono (FoIn.below HF3.out hb5) (Nat.zero_le _)) (FoIn.mono hf5 (Nat.zero_le _)) HX.out.1 HX.out.2.1 hk1 hk2
    have he : (subF [] (Tr.fo (c, k)) (Tr.fo (c', k'))).isSome = R := HX.out.2.2.symm
    rw [he] at HS
    obtain ⟨t5, y5, rfl⟩ := hf5.iface
    clear hb5 hf5 he
    go_wp2_with fail
    refine HS.mono ?_
    rintro e w7 ⟨rfl, hb7⟩
    have HB7 : Hid (Below w.heap.size w w7) := Below.on HB5.out hb7
    clear hb7 HS
    go_wp2_with fail
    go_ret
    exact ⟨rfl, HB7.out⟩
  · exact implSubsC_bad xs ys p q cx cy hcx hcy w hn hm hp hq hb
end Go.Proofs.YtaakpdakeolgeaaGreat

