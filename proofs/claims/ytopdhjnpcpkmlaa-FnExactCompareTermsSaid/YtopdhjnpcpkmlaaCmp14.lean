/- (functorRanks).sort. Own work of the verifier. -/
import Derived.Test.YtopdhjnpcpkmlaaCmp13
namespace Go.Proofs.Ytopdhjnpcpkmlaa
open Go Go.RowKit Go.Maps
set_option linter.unusedVariables false

/-- The names that have come. -/
structure Coll (D : DataW Unit) (ks fs : List Fun) (left : Lit → Bool) (cnt : Nat) : Prop where
  sub : ∀ l, left l = true → Maps.has D l = true
  cov : ∀ f ∈ ks, left (fk f) = true ∨ f ∈ fs
  don : ∀ f ∈ fs, f ∈ ks ∧ left (fk f) = false
  nd : fs.Pairwise (· ≠ ·)
  len : fs.length + cnt ≤ ks.length
theorem fk_same (f : Fun) : (fk f).sameKey (fk f) = true := by simp [fk, Lit.sameKey]
theorem Coll.start {D : DataW Unit} {ks : List Fun} (hok : ∀ f ∈ ks, okF f) (hsz : Maps.size D = ks.length) (hhas : ∀ f l, keyOf Try.prog 105 (.agg #[.string f.1, .int .i64 f.2]) = some l → Maps.has D l = decide (f ∈ ks)) : Coll D ks [] (Maps.has D) (Maps.size D) :=
  ⟨fun l h => h, fun f hf => .inl (by rw [hhas f (fk f) (keyFun f (hok f hf).1 (hok f hf).2.1 (hok f hf).2.2)]; simpa using hf), fun f h => by simp at h, by simp, by simp [hsz]⟩
theorem Coll.step {D : DataW Unit} {ks fs : List Fun} {left : Lit → Bool} {cnt cnt' : Nat} (h : Coll D ks fs left cnt) (hok : ∀ f ∈ ks, okF f) (hhas : ∀ f l, keyOf Try.prog 105 (.agg #[.string f.1, .int .i64 f.2]) = some l → Maps.has D l = decide (f ∈ ks)) (x : Fun) (kl : Lit) (hk : keyOf Try.prog 105 (.agg #[.string x.1, .int .i64 x.2]) = some kl) (hl : left kl = true) (hc : cnt' < cnt) :
    Coll D ks (fs ++ [x]) (fun z => left z && !z.sameKey kl) cnt' := by
  have hx : x ∈ ks := by
    have h1 := hhas x kl hk
    rw [h.sub kl hl] at h1
    simpa using h1.symm
  have hkl : kl = fk x := by
    have := keyFun x (hok x hx).1 (hok x hx).2.1 (hok x hx).2.2
    rw [hk] at this
    exact Option.some.inj this
  subst hkl
  refine ⟨fun l hl' => h.sub l (by simp only [Bool.and_eq_true] at hl'; exact hl'.1), fun f hf => ?_, fun f hf => ?_, ?_, ?_⟩
  · rcases h.cov f hf with h1 | h1
    · by_cases e : f = x
      · right; simp [e]
      · left
        simp only [h1, Bool.true_and, Bool.not_eq_true']
        exact sameKey_ne (fun e' => e (fk_inj (hok f hf) (hok x hx) e'))
    · right; simp [h1]
  · rcases List.mem_append.1 hf with h1 | h1
    · exact ⟨(h.don f h1).1, by simp [(h.don f h1).2]⟩
    · have e : f = x := by simpa using h1
      rw [e]
      exact ⟨hx, by simp [fk_same]⟩
  · rw [List.pairwise_append]
    refine ⟨h.nd, by simp, fun a ha b hb => ?_⟩
    have e : b = x := by simpa using hb
    rw [e]
    intro e2
    have := (h.don a ha).2
    rw [e2, hl] at this
    cases this
  · have := h.len
    simp; omega

def flatF (fs : List Fun) : List Value := fs.flatMap encF
theorem flatF_snoc (fs : List Fun) (x : Fun) : flatF (fs ++ [x]) = flatF fs ++ [.string x.1, .int .i64 x.2] := by simp [flatF, encF]
theorem flatF_len : ∀ fs : List Fun, (flatF fs).length = fs.length * 2
  | [] => rfl
  | x :: r => by have := flatF_len r; simp only [flatF, List.flatMap_cons, List.length_append, encF, List.length_cons, List.length_nil] at this ⊢; omega
theorem flatF_at : ∀ (fs : List Fun) (i : Nat), i < fs.length → (flatF fs)[i * 2]? = some (.string fs[i]!.1) ∧ (flatF fs)[i * 2 + 1]? = some (.int .i64 fs[i]!.2)
  | [], i, h => by simp at h
  | x :: r, 0, _ => by simp [flatF, encF]
  | x :: r, i + 1, h => by
    have h' : i < r.length := by simpa using h
    obtain ⟨h0, h1⟩ := flatF_at r i h'
    have e0 : (i + 1) * 2 = i * 2 + 2 := by omega
    have e : flatF (x :: r) = .string x.1 :: .int .i64 x.2 :: flatF r := by simp [flatF, encF]
    rw [e, e0]
    simp only [List.getElem?_cons_succ]
    rw [h0, h1]
    simp
theorem infoFun : (Try.prog.info? 105).map (fun i => (i.zero, i.size, i.bytes)) = some (some (.agg #[.string ⟨#[]⟩, .int .i64 0]), 2, 24) := by kernel_rfl

theorem news_two (W : World) (a b : Value) (t : TypeId) (n : Nat) (hn : n = W.heap.size) (j : Nat) (u : Value) (h : [a, b][j]? = some u) : (W.alloc (.cells #[a, b] t)).cell? ((⟨n, 0, none⟩ : Addr).add j) = some u := by
  subst hn
  match j, h with
  | 0, h => simp at h; rw [← h]; exact (pair_new W a b t).1
  | 1, h => simp at h; rw [← h]; exact (pair_new W a b t).2
theorem row_kept {W W' : World} {B g n cap : Nat} {xs : List Value} {row : Option Nat} (h : W.ownsRow B 105 2 (.slice (some ⟨g, 0, none⟩) n cap) n xs) (hg : W.grownBy W' row) (hne : some g ≠ row) : W'.ownsRow B 105 2 (.slice (some ⟨g, 0, none⟩) n cap) n xs := by
  refine ⟨h.1, ?_⟩
  rcases h.2 with h' | ⟨g', cap', cur, hv, hB, hg', r⟩
  · exact .inl h'
  · simp only [Value.slice.injEq, Option.some.injEq, Addr.mk.injEq, and_true, true_and] at hv
    obtain ⟨rfl, rfl⟩ := hv
    exact .inr ⟨_, _, cur, rfl, hB, (hg.block _ (Array.getElem?_eq_some_iff.1 hg').1 hne).trans hg', r⟩

set_option maxRecDepth 100000 in
set_option maxHeartbeats 1000000 in
theorem sort_any (b N : Nat) (ks : List Fun) (w : World) (hm : FunMap w b N ks (fun _ => 0)) (hN : N ≤ 100000) (hl : ks.length ≤ 100000) (hnd : ks.Pairwise (· ≠ ·)) :
    Calls Try.prog 63 #[.map (some b)] w fun e w' => e = .returned (.tuple #[]) ∧ ∃ rk N', RankOk rk ks ∧ FunMap w' b N' ks rk ∧ w.grownBy w' (some b) := by
  obtain ⟨D, hown, hok, hsz, hhas, hat⟩ := hm
  have HD : Hid ((∀ f ∈ ks, okF f) ∧ (∀ f l, keyOf Try.prog 105 (.agg #[.string f.1, .int .i64 f.2]) = some l → Maps.has D l = decide (f ∈ ks)) ∧ (∀ f ∈ ks, D.atKey (fk f) (.lit (.int .i64 0)) = .lit (.int .i64 0))) := ⟨hok, hhas, hat⟩
  have HSZ : Hid (Maps.size D = ks.length) := hsz
  have HC0 : Hid (Coll D ks [] (Maps.has D) (Maps.size D)) := Coll.start hok hsz hhas
  have hbl := hown.lt
  obtain ⟨i0, hi, hz0, hz1, hz2⟩ := info_parts infoFun
  obtain ⟨q, eq⟩ : ∃ q, q = ks.length := ⟨_, rfl⟩
  have hmx : q ≤ maxLen := by unfold maxLen; omega
  have hq : q ≤ 100000 := by omega
  have HQ : Hid (q = ks.length) := eq
  have hsz' : Maps.size D = q := by rw [hsz, eq]
  clear hok hhas hat hsz eq hl
  go_enter Try.func63, Try.ntmps63
  go_wp2_with (first
    | (at_len; refine wpList_len_own _ rfl _ 88 rfl 105 3 Try.underlying88 _ b N D rfl hown ?_; rw [hsz'])
    | (at_make; refine wpList_make_own _ rfl _ _ 109 rfl w.heap.size 105 i0 (.agg #[.string ⟨#[]⟩, .int .i64 0]) 2 Try.underlying109 hi hz0 hz1 _ _ _ q rfl rfl rfl (by rw [hz2]; omega) hmx (Nat.le_refl _) ?_; intro w1 hrow1 hgrow1)
    | (at_range; refine wpList_range_own _ rfl _ 88 rfl 105 3 lawFun Try.underlying88 _ b N D rfl (hown.kept hgrow1 (by simp)) ?_; intro w2 hrg0 hg0 hs0))
  go_frame
  have hG : w.heap.size < w1.heap.size := (hrow1.lt w.heap.size rfl).2
  have HROW2 : Hid (w2.ownsRow w.heap.size 105 2 (.slice (some ⟨w.heap.size, 0, none⟩) 0 q) 0 (flatF [])) := row_below hrow1 ((Below.refl _ _).grown hg0 (Nat.le_refl _) (fun j hj => by cases hj))
  have HGR2 : Hid (w.grownBy w2 none) := hgrow1.andThen hg0 (fun j hj => by cases hj)
  obtain ⟨r, er⟩ : ∃ r, r = w1.heap.size := ⟨_, rfl⟩
  rw [← er] at hrg0 hG ⊢
  rw [hsz'] at hrg0
  have HC0' : Hid (Coll D ks [] (Maps.has D) q) := by rw [← hsz']; exact HC0.out
  clear hrow1 hgrow1 hg0 hs0 er HC0
  go_loopw [2] (fun s wr => ∃ (left : Lit → Bool) (cnt m : Nat) (fs : List Fun), m + cnt ≤ q ∧ s = .slice (some ⟨w.heap.size, 0, none⟩) m q ∧ Hid (m = fs.length) ∧ wr.ranges Try.prog 105 (plainElem Try.prog 3) b r N D left cnt ∧ Hid (Coll D ks fs left cnt) ∧
    Hid (wr.ownsRow w.heap.size 105 2 (.slice (some ⟨w.heap.size, 0, none⟩) m q) m (flatF fs)) ∧ Hid (w.grownBy wr none)) (fun _ wr => wr.rangeLeft b r)
  case atStart => exact ⟨Maps.has D, q, 0, [], by omega, rfl, rfl, hrg0, HC0', HROW2, HGR2⟩
  case round =>
    obtain ⟨left, cnt, m, fs, hmc, rfl, HM, hrg, HCO, HROW, HGR⟩ := hrel
    go_wp2_with (at_next; refine wpList_next_ranges _ rfl _ rfl 105 lawFun (plainElem Try.prog 3) (fun x : Fun => .agg #[.string x.1, .int .i64 x.2]) (fun c : Int => .int .i64 c) keyFun_inv (fun v y h => by obtain ⟨c, hc, _⟩ := plainElem_int_inv Try.underlying3 h; exact ⟨c, hc⟩) b r N D left cnt rfl hrg ?_ ?_)
    · intro hc0 hl0
      have HALL : Hid (∀ f ∈ ks, f ∈ fs) := fun f hf => (HCO.out.cov f hf).resolve_left (by rw [hl0]; simp)
      have hmm : m ≤ q := by omega
      have hrow := HROW.out
      have HSORT := sortFuns_any fs w.heap.size q wr (fun i hi => ⟨(hrow.cellAt (i * 2) (by have := HM.out; omega)).trans (flatF_at fs i hi).1, (hrow.cellAt (i * 2 + 1) (by have := HM.out; omega)).trans (flatF_at fs i hi).2⟩) (fun j => hrow.frozenAt j) (hrow.lt w.heap.size rfl).2 (by rw [← HM.out]; omega)
      rw [← HM.out] at HSORT
      have HOWN : Hid (wr.ownsMap Try.prog 105 (plainElem Try.prog 3) b N D) := hrg.owns
      clear hrow hrg hc0 hl0 hrg0
      go_wp2_with fail
      refine HSORT.mono ?_
      rintro e w4 ⟨rfl, ds, hperm, hsrt, hfun4, hg4⟩
      have HM4 : Hid (FunMap w4 b N ks (fun _ => 0)) := ⟨D, HOWN.out.kept hg4 (by simp; omega), HD.out.1, HSZ.out, HD.out.2.1, HD.out.2.2⟩
      have HDS : Hid (m = ds.length) := by rw [HM.out]; exact hperm.length_eq.symm
      have HF4 : Hid (FunsIn w4 w.heap.size ds) := hfun4
      have HIN : Hid (∀ i, i < ds.length → ds[i]! ∈ ks) := fun i hi => (HCO.out.don _ (hperm.mem_iff.1 (by rw [List.getElem!_eq_getElem?_getD, List.getElem?_eq_getElem hi]; exact List.getElem_mem hi))).1
      have hpw : ds.Pairwise (· ≠ ·) := hperm.symm.pairwise HCO.out.nd (fun h => h.symm)
      have HND : Hid (∀ i j, i < j → j < ds.length → ds[i]! ≠ ds[j]!) := fun i j hij hj => by
        have := List.pairwise_iff_getElem.1 hpw i j (by omega) hj hij
        rw [List.getElem!_eq_getElem?_getD, List.getElem!_eq_getElem?_getD, List.getElem?_eq_getElem hj, List.getElem?_eq_getElem (by omega)]
        exact this
      have HRK : Hid (∀ rk : Fun → Int, (∀ i, i < ds.length → rk ds[i]! = (i : Int)) → RankOk rk ks) := fun rk hrk => rankOk_of (fun f hf => by
        obtain ⟨i, hi, e⟩ := List.mem_iff_getElem.1 (hperm.mem_iff.2 (HALL.out f hf))
        exact ⟨i, hi, by rw [List.getElem!_eq_getElem?_getD, List.getElem?_eq_getElem hi]; exact e⟩) HND.out hsrt hrk
      have HG4 : Hid (w.grownBy w4 (some b)) := (HGR.out.andThen hg4 (fun j hj => by cases hj; exact .inl (Nat.le_refl _))).but _
      clear hperm hsrt hfun4 hg4 HSORT hpw
      go_wp2_with fail
      go_loopw [23] (fun i wv => ∃ (j N' : Nat) (rk : Fun → Int), j ≤ m ∧ i = .int .i64 j ∧ N' ≤ N + j ∧ Hid (FunMap wv b N' ks rk) ∧ Hid (∀ i, i < j → rk ds[i]! = (i : Int)) ∧ Hid (FunsIn wv w.heap.size ds) ∧ Hid (w.grownBy wv (some b))) (fun i _ => m - (intOf i).toNat)
      case atStart => exact ⟨0, N, _, Nat.zero_le _, rfl, by omega, HM4, fun i h => by omega, HF4, HG4⟩
      case round =>
        obtain ⟨j, N', rk, hj, rfl, hN', HMj, HRj, HFj, HGj⟩ := hrel
        by_cases hlt : j < m
        · have hjl : j < ds.length := by rw [← HDS.out]; exact hlt
          obtain ⟨d0, d1⟩ := HFj.out j hjl
          have hin := HIN.out j hjl
          obtain ⟨x, ex⟩ : ∃ x, x = ds[j]! := ⟨_, rfl⟩
          rw [← ex] at d0 d1 hin
          have hox := HD.out.1 x hin
          have hk := keyFun x hox.1 hox.2.1 hox.2.2
          have hal : Below wr.heap.size wr (wr.alloc (.cells #[.string x.1, .int .i64 x.2] 105)) := (Below.refl _ _).alloc (Nat.le_refl _) _
          obtain ⟨D', hD'⟩ := HMj.out.below hal
          have hown' := hD'.1
          have HPUT : Hid (∀ wz, wz.ownsMap Try.prog 105 (plainElem Try.prog 3) b (N' + 1) (D'.put (fk x) (.lit (.int .i64 j))) → FunMap wz b (N' + 1) ks (fun g => if g = x then (j : Int) else rk g)) := fun wz h' => by
            have h1 := FunMap.put ⟨D', hD'⟩ x hox j D' hD' h'
            rwa [putF, if_pos hin] at h1
          have HX : Hid (x = ds[j]!) := ex
          have HFA : Hid (FunsIn (wr.alloc (.cells #[.string x.1, .int .i64 x.2] 105)) w.heap.size ds) := fun i hi => ⟨(hal.cell (World.block_lt_of_cell? _ _ (HFj.out i hi).1)).trans (HFj.out i hi).1, (hal.cell (World.block_lt_of_cell? _ _ (HFj.out i hi).2)).trans (HFj.out i hi).2⟩
          have HGA : Hid (w.grownBy (wr.alloc (.cells #[.string x.1, .int .i64 x.2] 105)) (some b)) := HGj.out.andThen (World.grownBy_alloc _ _ none) (fun j hj => by cases hj)
          clear hD' hal hin ex hox
          obtain ⟨x1, x2⟩ := x
          simp only at d0 d1 hk hown' HFA HGA
          go_wp2_with (at_mapUpdate; refine wpList_mapUpdate_own _ rfl _ _ _ 88 rfl 105 3 lawFun Try.underlying88 _ b N' D' rfl hown' (by unfold maxLen; omega) _ _ _ rfl rfl hk _ [] (plainElem_int Try.underlying3 (WalkArith.wf_i64 (by omega))) ?_; intro w6 hown6 hgrow6; go_frame)
          have HM6 : Hid _ := HPUT.out w6 hown6
          have HF6 : Hid (FunsIn w6 w.heap.size ds) := fun i hi => by
            have hblt : w.heap.size < (wr.alloc (.cells #[.string x1, .int .i64 x2] 105)).heap.size := World.block_lt_of_cell? _ _ (HFA.out i hi).1
            have hc : ∀ o, w6.cell? ⟨w.heap.size, o, none⟩ = (wr.alloc (.cells #[.string x1, .int .i64 x2] 105)).cell? ⟨w.heap.size, o, none⟩ := fun o => World.cell?_of_block (hgrow6.block _ hblt (by simp; omega))
            exact ⟨(hc _).trans (HFA.out i hi).1, (hc _).trans (HFA.out i hi).2⟩
          have HG6 : Hid (w.grownBy w6 (some b)) := HGA.out.andThen hgrow6 (fun j hj => .inr hj)
          have HR6 : Hid (∀ i, i < j + 1 → (if ds[i]! = (x1, x2) then (j : Int) else rk ds[i]!) = (i : Int)) := fun i hi => by
            by_cases e : i = j
            · rw [e, if_pos HX.out.symm]
            · rw [if_neg (by rw [HX.out]; exact HND.out i j (by omega) hjl)]
              exact HRj.out i (by omega)
          clear hown6 hgrow6 hown' hk d0 d1
          go_wp2_with fail
          go_roundw
          case rel => exact ⟨j + 1, N' + 1, _, by omega, by go_num, by omega, HM6, HR6, HF6, HG6⟩
          case measure => simp [intOf]; omega
        · obtain rfl : j = m := by omega
          have HFIN : Hid (∃ rk N', RankOk rk ks ∧ FunMap wr b N' ks rk ∧ w.grownBy wr (some b)) := ⟨rk, N', HRK.out rk (by rw [← HDS.out]; exact HRj.out), HMj.out, HGj.out⟩
          go_wp2_with fail
          go_end0
          exact ⟨rfl, HFIN.out⟩
    · intro x1 x2 c kl y1 y2 w3 cnt1 hkx hlx hvx hatx hrg1 hlt hg1 hs1 hen
      have HCO2 : Hid (Coll D ks (fs ++ [(x1, x2)]) (fun z => left z && !z.sameKey kl) cnt1) := HCO.out.step HD.out.1 HD.out.2.1 (x1, x2) kl hkx hlx hlt
      have hrow3 := row_kept HROW.out hg1 (by simp; omega)
      have hrow5 := row_kept (row_kept hrow3 (World.grownBy_alloc w3 (.cells #[.string x1, .int .i64 x2] 105) none) (by simp)) (World.grownBy_alloc (w3.alloc (.cells #[.string x1, .int .i64 x2] 105)) (.cells #[.string x1, .int .i64 x2] 105) none) (by simp)
      have hrg5 := (hrg1.alloc (.cells #[.string x1, .int .i64 x2] 105)).alloc (.cells #[.string x1, .int .i64 x2] 105)
      have HG5 : Hid (w.grownBy ((w3.alloc (.cells #[.string x1, .int .i64 x2] 105)).alloc (.cells #[.string x1, .int .i64 x2] 105)) none) := ((HGR.out.andThen hg1 (fun j hj => by cases hj; left; omega)).andThen (World.grownBy_alloc w3 _ none) (fun j hj => by cases hj)).andThen (World.grownBy_alloc _ _ none) (fun j hj => by cases hj)
      clear hrow3 hvx hatx
      go_wp2_with (at_builtin; refine wpList_append_fits _ rfl _ _ 109 rfl w.heap.size 105 i0 2 Try.underlying109 hi hz1 w.heap.size m q (flatF fs) rfl hrow5 ⟨wr.heap.size + 1, 0, none⟩ 1 1 [.string x1, .int .i64 x2] rfl rfl (fun j u hu => news_two (w3.alloc (.cells #[.string x1, .int .i64 x2] 105)) _ _ _ _ (by simp [hs1]) j u hu) (fun u hu => by simp at hu; rcases hu with rfl | rfl <;> rfl) (by omega) ?_; intro w6 hrow6 hg6)
      have hrg6 := hrg5.kept hg6 (by simp; omega) (by simp; omega)
      have HROW6 : Hid (w6.ownsRow w.heap.size 105 2 (.slice (some ⟨w.heap.size, 0, none⟩) (m + 1) q) (m + 1) (flatF (fs ++ [(x1, x2)]))) := by rw [flatF_snoc]; exact hrow6
      have HM6 : Hid (m + 1 = (fs ++ [(x1, x2)]).length) := by show _ = _; simp [HM.out]
      have HG6 : Hid (w.grownBy w6 none) := HG5.out.andThen hg6 (fun j hj => by cases hj; exact .inl (Nat.le_refl _))
      clear hrow5 hrow6 hg6 hrg5
      go_wp2_with fail
      go_roundw
      case rel => exact ⟨_, cnt1, m + 1, _, by omega, rfl, HM6, hrg6, HCO2, HROW6, HG6⟩
      case measure => rw [hrg6.left_eq, hrg.left_eq]; exact hlt

end Go.Proofs.Ytopdhjnpcpkmlaa
