/- Texts of GmB, GmC. Own work of the verifier. -/
import Derived.Test.YtbnmmcegjlmdmaaGreatDoorUqbh
import Derived.Deep.AppendLies
namespace Go.Proofs.YtbnmmcegjlmdmaaGreatDoor
open Go Go.RowKit
set_option linter.unusedVariables false
set_option linter.unusedSimpArgs false
theorem tl_appG : ∀ (a b : List Cel), tl (a ++ b) = tl a + tl b
  | [], b => by simp [tl]
  | c :: r, b => by have := tl_appG r b; simp only [List.cons_append, tl, this]; omega
theorem tl_okG : ∀ F : Fo, okG F → tl F.cells ≤ 100 * F.cells.length
  | .nil, _ => by simp [Fo.cells, tl]
  | .node c k r, h => by
    have h1 := tl_okG k h.2.2.2.2.1
    have h2 := tl_okG r h.2.2.2.2.2
    have h3 : c.2.2.length ≤ 100 := by have := h.1; unfold cellG at this; omega
    simp only [Fo.cells, tl, tl_appG, List.length_cons, List.length_append]
    omega
theorem tr_size {t : Tr} (h : okG t.fo) {N : Nat} (hl : (itC t).length ≤ N) : (itC t).length + tl (itC t) ≤ 101 * N := by
  have := tl_okG t.fo h
  have e : t.fo.cells = itC t := by simp [Tr.fo, Fo.cells, itC]
  rw [e] at this
  omega
theorem tll_its : ∀ its : List Tr, (∀ x ∈ its, okG x.fo) → tll (its.map itC) ≤ 101 * (its.flatMap (fun x => dot :: itC x)).length
  | [], _ => by simp [tll]
  | x :: r, h => by
    have h1 := tll_its r (fun y hy => h y (by simp [hy]))
    have h2 := tr_size (h x (by simp)) (Nat.le_refl _)
    simp only [List.map_cons, tll, List.flatMap_cons, List.length_append, List.length_cons]
    omega
theorem mkL_its (its : List Tr) : mkL (its.map itC) = its.flatMap (fun x => dot :: itC x) := by
  unfold mkL
  rw [List.flatMap_map]
theorem getD_map_itC (its : List Tr) (i : Nat) (h : i < its.length) : (its.map itC).getD i [] = itC its[i] := by simp [List.getD, h]
theorem ccin_row {w w1 : World} {p : Option Addr} {n cp B : Nat} {us : List Value} {its : List Tr} (hr : w1.ownsRow B 24 1 (.slice p n cp) n us) (hn : n = its.length) (hi : ItVW w its us) (hb : Below w.heap.size w w1) : CCIn w1 p (its.map itC) := fun h0 => by
  have hn0 : 0 < n := by simp at h0; omega
  obtain ⟨g, cap, hv, hB, hg⟩ := hr.form hn0
  simp only [Value.slice.injEq] at hv
  refine ⟨g, 0, hv.1, fun i hi' => ?_⟩
  have hi2 : i < its.length := by simpa using hi'
  obtain ⟨q, c, h1, h2, _⟩ := hi.2 i hi2
  rw [getD_map_itC its i hi2]
  rw [hv.1] at hr
  refine ⟨q, c, ?_, h2.below hb⟩
  have := hr.cellAt i (by omega)
  rw [Nat.zero_add, this, h1]
theorem eqs_cells (a b : Int) (its : List Tr) : itC (cmpT [61] [vT a, lstT (vT b) its]) = (3, 2, [61]) :: ([(0, a, [])] ++ (mkL (its.map itC) ++ [(0, b, [])])) := by
  rw [cmpT_cells]
  simp only [List.flatMap_cons, List.flatMap_nil, List.append_nil, lstT_cells, vT_cells, mkL_its]
  rfl
set_option maxRecDepth 100000 in
set_option maxHeartbeats 1000000 in
theorem l8ter_any (gb : Nat) (t : Tr) (p : Option Addr) (n c : Nat) (pa pb : Option Addr) (ca cb : Nat) (a b : Int) (ha : 0 ≤ a ∧ a ≤ 1100000) (hb : 0 ≤ b ∧ b ≤ 1100000) (st : GSt) (w : World) (ht : t.fo.ok) (hl : (itC t).length ≤ 2000) (hti : TI w p n c t) (hka : TK w gb pa 1 ca (vT a)) (hkb : TK w gb pb 1 cb (vT b)) (hg : GMm w gb st) :
    Calls Tryz.prog 20 #[.pointer (some ⟨gb, 0, none⟩), .slice p n c, .slice pa 1 ca, .slice pb 1 cb] w (GOutM w gb (gTer nilT t a b st)) := by
  have hnl : n ≤ 2000 := by rw [hti.1]; simp only [itC, List.length_cons] at hl; omega
  have HLI := l2itemsW t.1 t.2 p n c w ht hti.1 hnl hti.2.1 hti.2.2.1 hti.2.2.2
  obtain ⟨s1, s2, s3⟩ := split_all t.2.cells.length t.1 t.2 (Nat.le_refl _) ht
  have hlt : gb < w.heap.size := World.block_lt_of_cell? _ _ hg.c0
  have hsz : ((splitF t.1 t.2).1.flatMap (fun x => dot :: itC x)).length ≤ 2000 ∧ (splitF t.1 t.2).1.length ≤ 2000 := by
    have h9 := congrArg List.length s3
    simp only [List.length_cons, List.length_append] at h9
    have h8 : ∀ l : List Tr, l.length ≤ (l.flatMap (fun x => dot :: itC x)).length := fun l => by
      induction l with
      | nil => simp
      | cons x r ih => simp only [List.flatMap_cons, List.length_append, List.length_cons]; omega
    have := h8 (splitF t.1 t.2).1
    simp only [itC, List.length_cons] at hl
    omega
  have HGM : Hid (∀ W, Below w.heap.size w W → GMm W gb st) := fun W hW => hg.below hW
  have eS : strOfNums [61] = ⟨#[61]⟩ := rfl
  have HLL : Hid (∀ (W W1 : World) (p' : Option Addr) (n' cp' : Nat) (us : List Value), Below w.heap.size w W → W.ownsRow w.heap.size 24 1 (.slice p' n' cp') n' us → n' = (splitF t.1 t.2).1.length → ItVW w (splitF t.1 t.2).1 us →
      Calls Tryz.prog 38 #[.slice p' n' cp', .slice pb 1 cb] W fun e w' => ∃ r m cr, e = .returned (.slice r m cr) ∧ OwnC w' W.heap.size r m cr (mkL ((splitF t.1 t.2).1.map itC) ++ [(0, b, [])]) ∧ Below W.heap.size W w') := fun W W1 p' n' cp' us hW hrow hn' hit =>
    l2listE_any ((splitF t.1 t.2).1.map itC) [(0, b, [])] p' pb n' cp' 1 cb W rfl (by decide) (by simp [tl]) (by simpa using hn') (by omega) (fun i hi => by rw [getD_map_itC _ i (by simpa using hi)]; simp [itC]) (by
      have := tll_its _ (fun x hx => okG_of (s1 x hx))
      simp only [List.length_map]; omega) (by rw [mkL_its]; omega) (ccin_row hrow hn' hit hW) ((hkb.2.2.2 _ (grownM_below gb hW)))
  have HPR : Hid (∀ (W : World) (r : Option Addr) (m cr : Nat), Below w.heap.size w W → OwnC W w.heap.size r m cr (mkL ((splitF t.1 t.2).1.map itC) ++ [(0, b, [])]) → Calls Tryz.prog 19 #[.string ⟨#[61]⟩, .slice pa 1 ca, .slice r m cr] W fun e w' => ∃ q m c2, e = .returned (.slice q m c2) ∧ OwnC w' W.heap.size q m c2 ((3, 2, [61]) :: ([(0, a, [])] ++ (mkL ((splitF t.1 t.2).1.map itC) ++ [(0, b, [])]))) ∧ Below W.heap.size W w') := fun W r m cr hW ho => by
    have hll := tr_size (t := lstT (vT b) (splitF t.1 t.2).1) (lstT_okG (vT_okG hb.1 hb.2) _ (fun x hx => okG_of (s1 x hx))) (N := 2001) (by rw [lstT_cells, vT_cells, List.length_append]; have := hsz.1; simp only [List.length_cons, List.length_nil]; omega)
    rw [lstT_cells, vT_cells, ← mkL_its] at hll
    have := l2pairO_any [61] (byte_small (by decide)) pa r 1 m ca cr [(0, a, [])] (mkL ((splitF t.1 t.2).1.map itC) ++ [(0, b, [])]) W rfl ho.1 (hka.2.2.2 _ (grownM_below gb hW)) ho.cin (by simp) (by simp) (by simp [tl]) (by omega)
    rw [eS] at this
    exact this
  have HFA : Hid (∀ W, Below w.heap.size w W → Calls Tryz.prog 35 #[.pointer (some ⟨gb, 0, none⟩), .int .i64 4] W (GOutM W gb (nilT, flt 4 st))) := fun W hW => l8fault_any gb st 4 (by decide) W (hg.below hW)
  have HTI : Hid (∀ (W : World) (q : Option Addr) (m cq : Nat), m = (itC (splitF t.1 t.2).2).length → m ≤ cq ∧ cq ≤ 9223372036854775807 → CIn w q (itC (splitF t.1 t.2).2) → Below w.heap.size w W → Calls Tryz.prog 13 #[.slice q m cq, .string ⟨#[91, 93]⟩, .int .i64 0] W fun e w' => e = .returned (.bool (decide ((splitF t.1 t.2).2.1 = nilC))) ∧ w' = W) := fun W q m cq hm hc hin hW => by
    have := isT_any (w := W) (q := q) (n := m) (c := cq) (t := (splitF t.1 t.2).2) ⟨by rw [hm]; simp [itC], hc.1, hc.2, hin.below hW⟩ ⟨#[91, 93]⟩ 0
    have hb0 := isB_zero (c := (splitF t.1 t.2).2.1) s2.2.1 s2.1 [91, 93]
    have e1 : (⟨[91, 93].toArray⟩ : ByteArray) = ⟨#[91, 93]⟩ := rfl
    rw [e1] at hb0
    rw [hb0] at this
    exact this
  by_cases hz : (splitF t.1 t.2).2.1 = nilC
  · have HF : Hid (∀ W q m c2 w', Below w.heap.size w W → OwnC w' W.heap.size q m c2 ((3, 2, [61]) :: ([(0, a, [])] ++ (mkL ((splitF t.1 t.2).1.map itC) ++ [(0, b, [])]))) → Below W.heap.size W w' → GOutM w gb (gTer nilT t a b st) (.returned (.slice q m c2)) w') := fun W q m c2 w' hW ho hb' => by
      have hbw := Below.on hW hb'
      unfold gTer
      rw [if_pos hz]
      exact ⟨q, m, c2, rfl, ho.tk (Nat.lt_of_lt_of_le hlt hW.size) (eqs_cells a b _).symm, HGM.out _ hbw, grownM_below gb hbw⟩
    have hd : decide ((splitF t.1 t.2).2.1 = nilC) = true := by simpa using hz
    rw [hd] at HTI
    obtain ⟨P, eP⟩ : ∃ P, P = GOutM w gb (gTer nilT t a b st) := ⟨_, rfl⟩
    rw [← eP] at HF ⊢
    clear hz hd eP HFA hti hka hkb hg s1 s2 s3 hsz HGM eS hl ht
    go_enter Tryz.func20, Tryz.ntmps20
    go_wp2_with fail
    refine HLI.mono ?_
    rintro e w1 ⟨p1, n1, cp1, q1, m1, cq1, us, rfl, hn1, hm1, hrow, hit, hin1, hc1, _, _, hb1⟩
    have HB1 : Hid (Below w.heap.size w w1) := hb1
    have H2 := HTI.out w1 q1 m1 cq1 hm1 hc1 hin1 hb1
    have H3 := HLL.out w1 w1 p1 n1 cp1 us hb1 hrow hn1 hit
    clear hn1 hm1 hrow hit hin1 hc1 hb1 HLI HTI HLL
    go_wp2_with fail
    refine H2.mono ?_
    rintro e w2 ⟨rfl, rfl⟩
    clear H2
    go_wp2_with fail
    refine H3.mono ?_
    rintro e w3 ⟨r3, m3, c3, rfl, ho3, hb3⟩
    have HB3 : Hid (Below w.heap.size w w3) := Below.on HB1.out hb3
    have H4 := HPR.out w3 r3 m3 c3 HB3.out (ho3.mono HB1.out.size)
    clear ho3 hb3 H3 HPR
    go_wp2_with fail
    refine H4.mono ?_
    rintro e w4 ⟨q4, m4, c4, rfl, ho4, hb4⟩
    have HG : Hid _ := HF.out w3 q4 m4 c4 w4 HB3.out ho4 hb4
    clear ho4 hb4 H4 HF
    go_wp2_with fail
    exact HG.out
  · have HF : Hid (∀ W e w', Below w.heap.size w W → GOutM W gb (nilT, flt 4 st) e w' → GOutM w gb (gTer nilT t a b st) e w') := fun W e w' hW ho => by
      obtain ⟨q, m, c2, he, h1, h2, h3⟩ := ho
      unfold gTer
      rw [if_neg hz]
      exact ⟨q, m, c2, he, h1, h2, grown_trans (grownM_below gb hW) h3⟩
    have hd : decide ((splitF t.1 t.2).2.1 = nilC) = false := by simpa using hz
    rw [hd] at HTI
    obtain ⟨P, eP⟩ : ∃ P, P = GOutM w gb (gTer nilT t a b st) := ⟨_, rfl⟩
    rw [← eP] at HF ⊢
    clear hz hd eP HLL HPR hti hka hkb hg s1 s2 s3 hsz HGM eS hl ht
    go_enter Tryz.func20, Tryz.ntmps20
    go_wp2_with fail
    refine HLI.mono ?_
    rintro e w1 ⟨p1, n1, cp1, q1, m1, cq1, us, rfl, hn1, hm1, hrow, hit, hin1, hc1, _, _, hb1⟩
    have HB1 : Hid (Below w.heap.size w w1) := hb1
    have H2 := HTI.out w1 q1 m1 cq1 hm1 hc1 hin1 hb1
    have H3 := HFA.out w1 hb1
    clear hn1 hm1 hrow hit hin1 hc1 hb1 HLI HTI HFA
    go_wp2_with fail
    refine H2.mono ?_
    rintro e w2 ⟨rfl, rfl⟩
    clear H2
    go_wp2_with fail
    refine H3.mono ?_
    rintro e w3 hh
    obtain ⟨q3, m3, c3, rfl, hr⟩ := hh
    have HG : Hid _ := HF.out w2 (.returned (.slice q3 m3 c3)) w3 HB1.out ⟨q3, m3, c3, rfl, hr⟩
    clear hr H3 HF
    go_wp2_with fail
    exact HG.out
end Go.Proofs.YtbnmmcegjlmdmaaGreatDoor

namespace Go.Proofs.YtbnmmcegjlmdmaaGreatDoor
open Go Go.RowKit
set_option linter.unusedVariables false
set_option linter.unusedSimpArgs false
theorem argU_at {w0 : World} : ∀ {rs : List (Option Addr × Nat × Nat)} {ts : List Tr} {i : Nat} {t : Tr}, ArgRowU w0 rs ts → ts[i]? = some t → ∃ r, rs[i]? = some r ∧ r.2.1 = (itC t).length ∧ r.2.1 ≤ r.2.2 ∧ r.2.2 ≤ 9223372036854775807 ∧ CIn w0 r.1 (itC t)
  | [], [], i, t, _, h => by cases h
  | r :: rs, u :: ts, 0, t, ha, h => by
    simp only [List.getElem?_cons_zero, Option.some.injEq] at h
    subst h
    exact ⟨r, rfl, by rw [ha.1]; simp [itC]; omega, ha.2.1, ha.2.2.1, ha.2.2.2.1⟩
  | r :: rs, u :: ts, i + 1, t, ha, h => by
    have := argU_at (rs := rs) (ts := ts) (i := i) (t := t) ha.2.2.2.2 (by simpa using h)
    simpa using this
  | [], _ :: _, _, _, ha, _ => ha.elim
  | _ :: _, [], _, _, ha, _ => ha.elim
theorem argU_len {w0 : World} : ∀ {rs : List (Option Addr × Nat × Nat)} {ts : List Tr}, ArgRowU w0 rs ts → rs.length = ts.length
  | [], [], _ => rfl
  | _ :: rs, _ :: ts, h => by simp [argU_len h.2.2.2.2]
  | [], _ :: _, ha => ha.elim
  | _ :: _, [], ha => ha.elim
set_option maxRecDepth 100000 in
theorem l2args0_any {w : World} {p : Option Addr} {n c : Nat} {t : Tr} (h : TI w p n c t) (hk : t.1.1 ≠ 3) (hl : n ≤ 2000) : Calls Tryz.prog 15 #[.slice p n c] w fun e w' => e = .returned (.slice none 0 0) ∧ w' = w := by
  obtain ⟨b, o, q1, qc, rfl, d0, d1, d2, d3⟩ := h.head
  have hn0 : 0 < n := by have := h.1; omega
  have hnb : ((n : Int) == 0) = false := by simp; omega
  obtain ⟨x, ex⟩ : ∃ x, x = t.1.1 := ⟨_, rfl⟩
  rw [← ex] at d0 hk
  have hkb : (x != 3) = true := by simpa using hk
  have hkc : (x == 3) = false := by simpa using hk
  clear h d1 d2 d3 ex
  go_enter Tryz.func15, Tryz.ntmps15
  go_wp2_with fail
  go_ret
  exact ⟨rfl, rfl⟩
theorem l2argsG_any {Wi w : World} {p : Option Addr} {n c : Nat} {t : Tr} (h : TI Wi p n c t) (hW : Below Wi.heap.size Wi w) (hl : n ≤ 2000) (ht : t.fo.ok) : Calls Tryz.prog 15 #[.slice p n c] w fun e w' => ∃ q m mc rs, e = .returned (.slice q m mc) ∧ m = (trs t.2).length ∧ w'.ownsRow w.heap.size 24 1 (.slice q m mc) m (rs.map slV) ∧ ArgRowU Wi rs (trs t.2) ∧ Below w.heap.size w w' := by
  by_cases h3 : t.1.1 = 3
  · refine (l2argsU_any t.1 t.2 p n c Wi w hW h3 ht (by rw [h.1]; simp) hl h.2.1 h.2.2.1 h.2.2.2).mono ?_
    rintro e w' ⟨q, m, mc, rs, he, hm, hr, ha, hb⟩
    exact ⟨q, m, mc, rs, he, by rw [hm, trs_len], hr, ha, hb⟩
  · refine (l2args0_any (h.below hW) h3 hl).mono ?_
    rintro e w' ⟨rfl, rfl⟩
    have hk : t.2 = .nil := ht.2.2.2.1 h3
    rw [hk]
    exact ⟨none, 0, 0, [], rfl, rfl, World.ownsRow_nil _ _ _ _, trivial, Below.refl _ _⟩
theorem two_new (w : World) (u1 u2 : Value) (t : TypeId) : ∀ j x, [u1, u2][j]? = some x → (w.alloc (.cells #[u1, u2] t)).cell? ((⟨w.heap.size, 0, none⟩ : Addr).add j) = some x := fun j x hx => by
  match j, hx with
  | 0, hx => simp at hx; rw [← hx]; simp [Addr.add, World.cell?_alloc_new]
  | 1, hx => simp at hx; rw [← hx]; simp [Addr.add, World.cell?_alloc_new]
  | j + 2, hx => simp at hx
theorem app_two (w : World) {ops : Array Oper} {rest : List Oper} {o : Oper} {a : Act} {Q : Exit → Act → World → Prop} (hgd : o.guard = none) (s x : Operand)
    (ho : o.op = .call { callee := .builtin .append, args := #[s, x], argTypes := #[41, 41] }) (B : Nat) (p : Option Addr) (n c : Nat) (xs : List Value) (q1 q2 : Option Addr) (m1 m2 c1 c2 : Nat)
    (hs : a.eval s = .slice p n c) (hown : w.ownsRow B 24 1 (.slice p n c) n xs) (hx : a.eval x = .slice (some ⟨w.heap.size, 0, none⟩) 2 2) (hlen : n ≤ 1000000) (hbase : B ≤ w.heap.size)
    (h : ∀ g n' cap w', w'.ownsRow B 24 1 (.slice (some ⟨g, 0, none⟩) n' cap) n' (xs ++ [.slice q1 m1 c1, .slice q2 m2 c2]) → Below B w w' → Hid (n' = n + 2) → wpList Tryz.prog ops Q rest (a.put o.dst (.slice (some ⟨g, 0, none⟩) n' cap)) w') : wpList Tryz.prog ops Q (o :: rest) a (w.alloc (.cells #[.slice q1 m1 c1, .slice q2 m2 c2] 24)) := by
  obtain ⟨i0, hi, hz0, hz1, hz2⟩ := info_parts infoCells
  refine wpList_append_lies _ hgd s x 41 ho B 24 i0 (.slice none 0 0) 1 24 Tryz.underlying41 hi hz0 hz1 hz2 rfl (by decide) (.slice p n c) n xs hs (hown.alloc _) ⟨w.heap.size, 0, none⟩ 2 2 [.slice q1 m1 c1, .slice q2 m2 c2] hx rfl (two_new _ _ _ _) (fun u hu => by
      simp only [List.mem_cons, List.not_mem_nil, or_false] at hu
      rcases hu with rfl | rfl <;> rfl) (by decide) (by unfold maxLen; omega) (by omega) (by simp; omega) _ rfl ?_
  intro g cap w' hown' hgrow hat hlt
  refine h g _ cap w' hown' ?_ rfl
  have hal : Below B w (w.alloc (.cells #[.slice q1 m1 c1, .slice q2 m2 c2] 24)) := ((Below.refl _ _).alloc (Nat.le_refl _) _).mono hbase
  exact hal.grown hgrow (Nat.le_trans hbase (by simp)) (fun k hk => (hown.lt k hk).1)
theorem rows_twoG {Wi w : World} {g n cap B : Nat} {rs : List (Option Addr × Nat × Nat)} {ts : List Tr} {pa pb : Option Addr} {ca cb : Nat} {a b : Int} (ha : ArgRowU Wi rs ts) (hr : w.ownsRow B 24 1 (.slice (some ⟨g, 0, none⟩) n cap) n (rs.map slV ++ [.slice pa 1 ca, .slice pb 1 cb])) (hb : Below Wi.heap.size Wi w) (hka : CIn w pa [(0, a, [])]) (hkb : CIn w pb [(0, b, [])]) (hz : ∀ t ∈ ts, okG t.fo ∧ (itC t).length ≤ 2000) :
    RowsO w g 0 (ts.map itC ++ [[(0, a, [])], [(0, b, [])]]) := fun j hj => by
  have hl := argU_len ha
  have hn : n = rs.length + 2 := by have := hr.1; simp at this; omega
  simp only [List.length_append, List.length_map, List.length_cons, List.length_nil] at hj
  have hc := hr.cellAt j (by omega)
  rw [Nat.zero_add]
  by_cases h1 : j < ts.length
  · obtain ⟨r, e1, e2, e3, e4, e5⟩ := argU_at ha (List.getElem?_eq_getElem h1)
    have eg : (ts.map itC ++ [[(0, a, [])], [(0, b, [])]]).getD j [] = itC ts[j] := by
      simp only [List.getD]
      rw [List.getElem?_append_left (by simpa using h1)]
      simp [h1]
    rw [eg, hc]
    have hzz := hz ts[j] (List.getElem_mem h1)
    refine ⟨r.1, r.2.2, ?_, e5.below hb, by simp [itC], by have := tr_size hzz.1 hzz.2; omega⟩
    rw [List.getElem?_append_left (by simp; omega), List.getElem?_map, e1, ← e2]; rfl
  · have h2 : j = ts.length ∨ j = ts.length + 1 := by omega
    rcases h2 with h2 | h2
    · have eg : (ts.map itC ++ [[(0, a, [])], [(0, b, [])]]).getD j [] = [(0, a, [])] := by
        simp only [List.getD]
        rw [List.getElem?_append_right (by simp; omega)]
        simp [h2]
      rw [eg, hc]
      refine ⟨pa, ca, ?_, hka, by simp, by simp [tl]⟩
      rw [List.getElem?_append_right (by simp; omega)]
      simp [h2, hl]
    · have eg : (ts.map itC ++ [[(0, a, [])], [(0, b, [])]]).getD j [] = [(0, b, [])] := by
        simp only [List.getD]
        rw [List.getElem?_append_right (by simp; omega)]
        simp [h2]
      rw [eg, hc]
      refine ⟨pb, cb, ?_, hkb, by simp, by simp [tl]⟩
      rw [List.getElem?_append_right (by simp; omega)]
      simp [h2, hl]
theorem more_cells (nm : List Int) (ts : List Tr) (a b : Int) : (3, ((ts.length + 2 : Nat) : Int), nm) :: (ts.map itC ++ [[(0, a, [])], [(0, b, [])]]).flatten = itC (cmpT nm (ts ++ [vT a, vT b])) := by
  rw [cmpT_cells]
  simp only [List.flatten_append, List.flatMap_append, List.flatMap_cons, List.flatMap_nil, vT_cells, List.append_nil, List.length_append, List.length_cons, List.length_nil]
  rw [List.flatMap_def]
  simp
set_option maxRecDepth 100000 in
set_option maxHeartbeats 1000000 in
theorem l8more_any (gb : Nat) (Wi : World) (t : Tr) (p : Option Addr) (n c : Nat) (pa pb : Option Addr) (ca cb : Nat) (a b : Int) (st : GSt) (w : World) (ht : t.fo.ok) (hl : (itC t).length ≤ 2000) (hti : TI Wi p n c t) (hW : Below Wi.heap.size Wi w) (hka : TK w gb pa 1 ca (vT a)) (hkb : TK w gb pb 1 cb (vT b)) (hg : GMm w gb st) :
    Calls Tryz.prog 17 #[.pointer (some ⟨gb, 0, none⟩), .slice p n c, .slice pa 1 ca, .slice pb 1 cb] w (GOutM w gb (gMore nilT t a b st)) := by
  have hnl : n ≤ 2000 := by rw [hti.1]; simp only [itC, List.length_cons] at hl; omega
  have HAR := l2argsG_any hti hW hnl ht
  have hlt : gb < w.heap.size := World.block_lt_of_cell? _ _ hg.c0
  obtain ⟨N, eN⟩ : ∃ N, N = (trs t.2).length := ⟨_, rfl⟩
  rw [← eN] at HAR
  have hN : N ≤ 20 := by
    rw [eN, trs_len]
    by_cases h3 : t.1.1 = 3
    · have h1 := ht.2.2.1 h3
      have h2 := ht.1
      simp only [cellB, decide_eq_true_eq] at h2
      have h4 : t.1.2.1 = (t.2.count : Int) := h1
      omega
    · have h4 : t.2 = .nil := ht.2.2.2.1 h3
      rw [h4]; simp [Fo.count]
  obtain ⟨b0, o0, q1, qc, rfl, d0, d1, d2, d3⟩ := (hti.below hW).head
  have HD2 : Hid (∀ W, Below w.heap.size w W → W.cell? ⟨b0, o0 + 2, none⟩ = some (.slice q1 t.1.2.2.length qc)) := fun W hW' => (hW'.cell (World.block_lt_of_cell? _ _ d2)).trans d2
  obtain ⟨sn, esn⟩ : ∃ sn, sn = strOfNums t.1.2.2 := ⟨_, rfl⟩
  have HCV : Hid (∀ W, Below w.heap.size w W → (convert 32 9 (.slice q1 t.1.2.2.length qc)).run Tryz.prog W = .ok (.string sn) W) := fun W hW' => by rw [esn]; exact conv_str (d3.below hW') _ qc rfl 9 Tryz.underlying9
  have hn0 : 0 < n := by have := hti.1; omega
  by_cases hz : 20 < N + 2
  · have HFA : Hid (∀ W, Below w.heap.size w W → Calls Tryz.prog 35 #[.pointer (some ⟨gb, 0, none⟩), .int .i64 3] W fun e w' => ∃ q m c2, e = .returned (.slice q m c2) ∧ GOutM w gb (gMore nilT t a b st) (.returned (.slice q m c2)) w') := fun W hW' => (l8fault_any gb st 3 (by decide) W (hg.below hW')).mono (by
      rintro e w' ⟨q, m, c2, rfl, h1, h2, h3⟩
      refine ⟨q, m, c2, rfl, ?_⟩
      unfold gMore
      rw [if_pos (by rw [← eN]; exact hz)]
      exact ⟨q, m, c2, rfl, h1, h2, grown_trans (grownM_below gb hW') h3⟩)
    obtain ⟨P, eP⟩ : ∃ P, P = GOutM w gb (gMore nilT t a b st) := ⟨_, rfl⟩
    rw [← eP] at HFA ⊢
    clear hti hka hkb hg eN eP d0 d1 d2 d3 HD2 HCV esn hl ht hW
    go_enter Tryz.func17, Tryz.ntmps17
    go_wp2_with fail
    refine HAR.mono ?_
    rintro e w1 ⟨q, m, mc, rs, rfl, rfl, hrow, harg, hb1⟩
    have HB1 : Hid (Below w.heap.size w w1) := hb1
    have HR1 : Hid _ := hrow
    clear hb1 hrow harg HAR
    go_wp2_with (at_builtin; refine app_two _ rfl _ _ rfl w.heap.size q m mc (rs.map slV) pa pb 1 1 ca cb rfl HR1.out rfl (by omega) HB1.out.size ?_; intro g2 n2 c2 w2 ho2 hb2 hn2; have HB2 : Hid (Below w.heap.size w w2) := HB1.out.trans hb2; have hn2' : n2 = m + 2 := hn2.out; clear hn2 ho2 hb2; subst hn2')
    have hzi : (20 : Int) < ((m + 2 : Nat) : Int) := by omega
    refine (HFA.out w2 HB2.out).mono ?_
    rintro e w3 ⟨q3, m3, c3, rfl, hP⟩
    have HG : Hid _ := hP
    clear hP HFA
    go_wp2_with fail
    exact HG.out
  · have HCO : Hid (∀ (W : World) (g cap : Nat) (rs : List (Option Addr × Nat × Nat)), Below w.heap.size w W → W.ownsRow w.heap.size 24 1 (.slice (some ⟨g, 0, none⟩) (N + 2) cap) (N + 2) (rs.map slV ++ [.slice pa 1 ca, .slice pb 1 cb]) → ArgRowU Wi rs (trs t.2) → Calls Tryz.prog 36 #[.string sn, .slice (some ⟨g, 0, none⟩) ((N + 2 : Nat)) cap] W fun e w' => ∃ q m c2, e = .returned (.slice q m c2) ∧ GOutM w gb (gMore nilT t a b st) (.returned (.slice q m c2)) w') := fun W g cap rs hW' hrow harg => by
      have hro := rows_twoG harg hrow (Below.on hW hW') (hka.2.2.2 _ (grownM_below gb hW')) (hkb.2.2.2 _ (grownM_below gb hW')) (fun x hx => ⟨okG_of (trs_okG ht.2.2.2.2.1 x hx), by have h8 := flatMap_len hx; rw [trs_cells] at h8; simp only [itC, List.length_cons] at hl h8 ⊢; omega⟩)
      rw [esn]
      refine (l2compO_any t.1.2.2 ht.2.1 g 0 (N + 2) cap _ W (by simp [eN]) (by omega) hro).mono ?_
      rintro e w' ⟨q, m, c2, rfl, ho, hb'⟩
      refine ⟨q, m, c2, rfl, ?_⟩
      have hbw := Below.on hW' hb'
      unfold gMore
      rw [if_neg (by rw [← eN]; exact hz)]
      exact ⟨q, m, c2, rfl, ho.tk (Nat.lt_of_lt_of_le hlt hW'.size) (by rw [eN]; exact more_cells t.1.2.2 (trs t.2) a b), hg.below hbw, grownM_below gb hbw⟩
    obtain ⟨P, eP⟩ : ∃ P, P = GOutM w gb (gMore nilT t a b st) := ⟨_, rfl⟩
    rw [← eP] at HCO ⊢
    obtain ⟨ls, els⟩ : ∃ ls, ls = t.1.2.2.length := ⟨_, rfl⟩
    rw [← els] at HD2 HCV
    clear hti hka hkb hg eN eP d0 d1 d2 d3 esn hl ht hW els
    go_enter Tryz.func17, Tryz.ntmps17
    go_wp2_with fail
    refine HAR.mono ?_
    rintro e w1 ⟨q, m, mc, rs, rfl, rfl, hrow, harg, hb1⟩
    have HB1 : Hid (Below w.heap.size w w1) := hb1
    have HR1 : Hid _ := hrow
    have HA1 : Hid _ := harg
    clear hb1 hrow harg HAR
    go_wp2_with (at_builtin; refine app_two _ rfl _ _ rfl w.heap.size q m mc (rs.map slV) pa pb 1 1 ca cb rfl HR1.out rfl (by omega) HB1.out.size ?_; intro g2 n2 c2 w2 ho2 hb2 hn2; have HB2 : Hid (Below w.heap.size w w2) := HB1.out.trans hb2; have hn2' : n2 = m + 2 := hn2.out; clear hn2; subst hn2'; have HC2 := HCO.out w2 g2 c2 rs HB2.out ho2 HA1.out; have e2 := HD2.out w2 HB2.out; have e3 := HCV.out w2 HB2.out; clear ho2 hb2)
    refine HC2.mono ?_
    rintro e w3 ⟨q3, m3, c3, rfl, hP⟩
    have HG : Hid _ := hP
    clear hP HC2 HCO
    go_wp2_with fail
    exact HG.out
end Go.Proofs.YtbnmmcegjlmdmaaGreatDoor

