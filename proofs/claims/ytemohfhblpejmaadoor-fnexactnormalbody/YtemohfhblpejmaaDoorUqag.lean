/- Texts of Tree3, Tree4, L1c. Own work of the verifier. -/
import Derived.Test.YtemohfhblpejmaaDoorUqaf
import Derived.Lib.ConvBytes
import Derived.Test.YtemohfhblpejmaaDoorUqad
import Derived.Deep.Upon
namespace Go.Proofs.YtemohfhblpejmaaDoor
open Go Go.RowKit
set_option linter.unusedVariables false

theorem flat_one (r : RC) : flat [r] = rcV r := by simp [flat]



/-- Behind an append of one cell. -/
theorem ownC_grew {W0 w w' : World} {B g n cap cp : Nat} {p : Option Addr} {cs : List Cel} {rs : List RC} (hn : n = cs.length) (hl : rs.length = cs.length) (hr0 : W0.ownsRow B 36 3 (.slice p n cp) n (flat rs))
    (hf : ∀ i, i < cs.length → Fits W0 B (rs.getD i RC.zero) (cs.getD i Cel.none)) (ha : ApartC p rs) (hb0 : Below W0.heap.size W0 w) (hB : B ≤ W0.heap.size)
    {kd nn : Int} {tp : Option Addr} {tn tc : Nat} {t : List Int} (ht : OwnT w W0.heap.size tp tn tc t)
    (hr : w'.ownsRow B 36 3 (.slice (some ⟨g, 0, none⟩) (n + 1) cap) (n + 1) (flat rs ++ rcV (kd, nn, tp, tn, tc))) (hg : w.grownBy w' (Value.ownBlock (.slice p n cp))) (hat : Value.ownBlock (.slice p n cp) = some g ∨ g = w.heap.size) :
    OwnC w' B (some ⟨g, 0, none⟩) (n + 1) cap (cs ++ [(kd, nn, t)]) := by
  have hown : ∀ k, Value.ownBlock (.slice p n cp) = some k → p = some ⟨k, 0, none⟩ ∧ k < W0.heap.size := fun k hk => by
    rcases hr0.2 with ⟨hv, _⟩ | ⟨g', cap', cur, hv, hb, hg', _⟩
    · simp only [Value.slice.injEq] at hv; rw [hv.1] at hk; simp [Value.ownBlock] at hk
    · simp only [Value.slice.injEq] at hv
      rw [hv.1] at hk ⊢
      simp [Value.ownBlock] at hk
      subst hk
      exact ⟨rfl, (Array.getElem?_eq_some_iff.1 hg').1⟩
  have hold : ∀ i, i < cs.length → OwnT w B (rs.getD i RC.zero).2.2.1 (rs.getD i RC.zero).2.2.2.1 (rs.getD i RC.zero).2.2.2.2 (cs.getD i Cel.none).2.2 := fun i hi => (hf i hi).2.2.below hb0
  have hlow : ∀ i, i < cs.length → 0 < (rs.getD i RC.zero).2.2.2.1 → ∃ k, (rs.getD i RC.zero).2.2.1 = some ⟨k, 0, none⟩ ∧ k < W0.heap.size := fun i hi hp => by
    obtain ⟨k, e, _, hlt, _⟩ := (hf i hi).2.2.2 hp
    exact ⟨k, e, hlt⟩
  have hhigh : 0 < tn → ∃ k, tp = some ⟨k, 0, none⟩ ∧ W0.heap.size ≤ k ∧ k < w.heap.size := fun hp => by
    obtain ⟨k, e, h1, h2, _⟩ := ht.2 hp
    exact ⟨k, e, h1, h2⟩
  have hnewg : g < W0.heap.size ∨ g = w.heap.size := by
    rcases hat with h | h
    · exact .inl (hown g h).2
    · exact .inr h
  refine ⟨by simp; omega, rs ++ [(kd, nn, tp, tn, tc)], by simp; omega, by rw [flat_append, flat_one]; exact hr, fun i hi => ?_, fun i hi hp => ?_, fun i j hi hj hij hpi hpj => ?_⟩
  · have hi' : i ≤ cs.length := by simp at hi; omega
    rw [rs_append_at _ _ _ (by omega), cs_append_at _ _ _ hi']
    by_cases e : i = cs.length
    · rw [if_pos (by omega), if_pos e]
      refine ⟨rfl, rfl, (ht.mono hB).other hg.size (fun k hn0 e' => ?_)⟩
      obtain ⟨k', e'', h1, h2⟩ := hhigh hn0
      have hkk : k = k' := by
        have := e'.symm.trans e''
        exact congrArg Addr.block (Option.some.inj this)
      refine hg.block k (by omega) (fun hk => ?_)
      have := (hown k hk.symm).2
      omega
    · rw [if_neg (by omega), if_neg e]
      refine ⟨(hf i (by omega)).1, (hf i (by omega)).2.1, (hold i (by omega)).other hg.size (fun k hn0 e' => ?_)⟩
      obtain ⟨k', e'', h1⟩ := hlow i (by omega) hn0
      have hkk : k = k' := congrArg Addr.block (Option.some.inj (e'.symm.trans e''))
      refine hg.block k (by have := hb0.size; omega) (fun hk => ?_)
      exact ha.1 i (by omega) hn0 (by rw [e', (hown k hk.symm).1])
  · have hi' : i ≤ rs.length := by simp at hi; omega
    rw [rs_append_at _ _ _ hi'] at hp ⊢
    by_cases e : i = rs.length
    · rw [if_pos e] at hp ⊢
      obtain ⟨k', e'', h1, h2⟩ := hhigh hp
      rw [show ((kd, nn, tp, tn, tc) : RC).2.2.1 = tp from rfl, e'']
      exact ne_block (by omega) hp
    · rw [if_neg e] at hp ⊢
      obtain ⟨k', e'', h1⟩ := hlow i (by omega) hp
      rcases hat with h | h
      · rw [← (hown g h).1]
        exact ha.1 i (by omega) hp
      · rw [e'']
        exact ne_block (by have := hb0.size; omega) hp
  · have hi' : i ≤ rs.length := by simp at hi; omega
    have hj' : j ≤ rs.length := by simp at hj; omega
    rw [rs_append_at _ _ _ hi'] at hpi ⊢
    rw [rs_append_at _ _ _ hj'] at hpj ⊢
    by_cases e : i = rs.length
    · rw [if_pos e] at hpi ⊢
      rw [if_neg (by omega)] at hpj ⊢
      obtain ⟨k', e'', h1, h2⟩ := hhigh hpi
      obtain ⟨k2, e2, h3⟩ := hlow j (by omega) hpj
      rw [show ((kd, nn, tp, tn, tc) : RC).2.2.1 = tp from rfl, e'', e2]
      exact ne_block (by omega) hpi
    · rw [if_neg e] at hpi ⊢
      by_cases e' : j = rs.length
      · rw [if_pos e'] at hpj ⊢
        obtain ⟨k', e'', h1, h2⟩ := hhigh hpj
        obtain ⟨k2, e2, h3⟩ := hlow i (by omega) hpi
        rw [show ((kd, nn, tp, tn, tc) : RC).2.2.1 = tp from rfl, e'', e2]
        exact ne_block (by omega) hpi
      · rw [if_neg e'] at hpj ⊢
        exact ha.2 i j (by omega) (by omega) hij hpi hpj

theorem rcV_one (r : RC) : ∀ u ∈ rcV r, u.oneCell' = true := fun u hu => by
  simp [rcV] at hu
  rcases hu with rfl | rfl | rfl <;> rfl

/-- append of one cell onto a slice of cells of the call's own. -/
theorem app_cell (W0 w : World) {ops : Array Oper} {rest : List Oper} {o : Oper} {a : Act} {Q : Exit → Act → World → Prop} (hgd : o.guard = none) (s x : Operand)
    (ho : o.op = .call { callee := .builtin .append, args := #[s, x], argTypes := #[24, 24] }) (B : Nat) (p : Option Addr) (n c : Nat) (cs : List Cel)
    (hs : a.eval s = .slice p n c) (hown : OwnC W0 B p n c cs) (hb0 : Below W0.heap.size W0 w) (hB : B ≤ W0.heap.size) (ad : Addr) (c' : Nat) (hx : a.eval x = .slice (some ad) 1 c') (kd nn : Int) (tp : Option Addr) (tn tc : Nat) (t : List Int)
    (ht : OwnT w W0.heap.size tp tn tc t) (hnews : ∀ j u, (rcV (kd, nn, tp, tn, tc))[j]? = some u → w.cell? (ad.add j) = some u) (hlen : n + 1 ≤ 1000000000)
    (h : ∀ g n' cap w', OwnC w' B (some ⟨g, 0, none⟩) n' cap (cs ++ [(kd, nn, t)]) → Below B w w' → Hid (n' = n + 1) → wpList Tryd.prog ops Q rest (a.put o.dst (.slice (some ⟨g, 0, none⟩) n' cap)) w') : wpList Tryd.prog ops Q (o :: rest) a w := by
  obtain ⟨i0, hi, hz0, hz1, hz2⟩ := info_parts infoCell
  obtain ⟨hn, rs, hl, hr, hf, ha⟩ := hown
  refine wpList_append_lies w hgd s x 24 ho B 36 i0 (.agg #[.int .i64 0, .int .i64 0, .slice none 0 0]) 3 40 Tryd.underlying24 hi hz0 hz1 hz2 rfl (by decide) (.slice p n c) n (flat rs) hs (row_below hr hb0) ad 1 c' (rcV (kd, nn, tp, tn, tc)) hx rfl hnews (rcV_one _) (by decide) (by unfold maxLen; omega) (by omega) (Nat.le_trans hB hb0.size) w.heap.size rfl ?_
  intro g cap w' hown' hgrow hat hlt
  refine h g _ cap w' (ownC_grew hn hl hr hf ha hb0 hB ht hown' hgrow hat) ((Below.refl _ _).grown hgrow (Nat.le_trans hB hb0.size) (fun k hk => ?_)) rfl
  exact (hr.lt k hk).1

/-- The same at a step of a region that draws its order. -/
theorem step_app_cell (W0 w : World) {ops : Array Oper} {o : Oper} {a : Act} {K : Act → World → Prop} {Q : Exit → Act → World → Prop} {E : Prop} (hgd : o.guard = none) (s x : Operand)
    (ho : o.op = .call { callee := .builtin .append, args := #[s, x], argTypes := #[24, 24] }) (B : Nat) (p : Option Addr) (n c : Nat) (cs : List Cel)
    (hs : a.eval s = .slice p n c) (hown : OwnC W0 B p n c cs) (hb0 : Below W0.heap.size W0 w) (hB : B ≤ W0.heap.size) (ad : Addr) (c' : Nat) (hx : a.eval x = .slice (some ad) 1 c') (kd nn : Int) (tp : Option Addr) (tn tc : Nat) (t : List Int)
    (ht : OwnT w W0.heap.size tp tn tc t) (hnews : ∀ j u, (rcV (kd, nn, tp, tn, tc))[j]? = some u → w.cell? (ad.add j) = some u) (hlen : n + 1 ≤ 1000000000)
    (h : ∀ g n' cap w', OwnC w' B (some ⟨g, 0, none⟩) n' cap (cs ++ [(kd, nn, t)]) → Below B w w' → Hid (n' = n + 1) → K (a.put o.dst (.slice (some ⟨g, 0, none⟩) n' cap)) w') :
    if Region.wanted o (yielded ops a.tmps) = true then Oper.wp Tryd.prog o a w K Q else E := by
  obtain ⟨i0, hi, hz0, hz1, hz2⟩ := info_parts infoCell
  obtain ⟨hn, rs, hl, hr, hf, ha⟩ := hown
  refine step_append_lies w hgd s x 24 ho B 36 i0 (.agg #[.int .i64 0, .int .i64 0, .slice none 0 0]) 3 40 Tryd.underlying24 hi hz0 hz1 hz2 rfl (by decide) (.slice p n c) n (flat rs) hs (row_below hr hb0) ad 1 c' (rcV (kd, nn, tp, tn, tc)) hx rfl hnews (rcV_one _) (by decide) (by unfold maxLen; omega) (by omega) (Nat.le_trans hB hb0.size) w.heap.size rfl ?_
  intro g cap w' hown' hgrow hat hlt
  refine h g _ cap w' (ownC_grew hn hl hr hf ha hb0 hB ht hown' hgrow hat) ((Below.refl _ _).grown hgrow (Nat.le_trans hB hb0.size) (fun k hk => ?_)) rfl
  exact (hr.lt k hk).1

end Go.Proofs.YtemohfhblpejmaaDoor

namespace Go.Proofs.YtemohfhblpejmaaDoor
open Go Go.RowKit
set_option linter.unusedVariables false

/-- What appendCells answers: the cells behind those that were there. -/
def AppOut (w : World) (B : Nat) (cs ds : List Cel) (e : Ending) (w' : World) : Prop :=
  ∃ p n c, e = .returned (.slice p n c) ∧ OwnC w' B p n c (cs ++ ds) ∧ Below B w w'

theorem news_rc {w : World} {d : Nat} {r : RC} (h : Box3 w d (.int .i64 r.1) (.int .i64 r.2.1) (.slice r.2.2.1 r.2.2.2.1 r.2.2.2.2)) : ∀ j u, (rcV r)[j]? = some u → w.cell? ((⟨d, 0, none⟩ : Addr).add j) = some u := fun j u hu => by
  have e : (⟨d, 0, none⟩ : Addr).add j = ⟨d, j, none⟩ := by unfold Addr.add; split <;> simp_all
  rw [e]
  rcases j with _ | _ | _ | j
  · simp only [rcV, List.getElem?_cons_zero, Option.some.injEq] at hu; rw [← hu]; exact h.1
  · simp only [rcV, List.getElem?_cons_succ, List.getElem?_cons_zero, Option.some.injEq] at hu; rw [← hu]; exact h.2.1
  · simp only [rcV, List.getElem?_cons_succ, List.getElem?_cons_zero, Option.some.injEq] at hu; rw [← hu]; exact h.2.2.1
  · simp [rcV] at hu

theorem appVar_any (x : Int) (p : Option Addr) (n c : Nat) (cs : List Cel) (B : Nat) (w : World) (hB : B ≤ w.heap.size) (hn : n ≤ 100000000) (ho : OwnC w B p n c cs) :
    Calls Tryd.prog 115 #[.int .i64 x, .slice p n c] w (AppOut w B cs [(0, x, [])]) := by
  have HO : Hid (OwnC w B p n c cs) := ho
  have hb : Below w.heap.size w (w.alloc (Obj.cells #[Value.int IntKind.i64 0, Value.int IntKind.i64 x, Value.slice none 0 0] 36)) := (Below.refl _ _).alloc (Nat.le_refl _) _
  have HB : Hid _ := hb
  have HX : Hid (Box3 (w.alloc (Obj.cells #[Value.int IntKind.i64 0, Value.int IntKind.i64 x, Value.slice none 0 0] 36)) w.heap.size (.int .i64 0) (.int .i64 x) (.slice none 0 0)) := Box3.of_block (t := 36) (heap_alloc_new _ _)
  clear ho hb
  go_enter Tryd.func115, Tryd.ntmps115
  go_wp2_with (at_builtin; refine app_cell w _ rfl _ _ rfl B p n c cs rfl HO.out HB.out hB ⟨w.heap.size, 0, none⟩ 1 rfl 0 x none 0 0 [] ⟨rfl, fun h => absurd h (Nat.lt_irrefl 0)⟩ (news_rc HX.out) (by omega) ?_; intro g n' cap w1 hown1 hb1 hn1)
  go_ret
  exact ⟨_, _, _, rfl, hown1, ((Below.refl _ _).alloc hB _).trans hb1⟩

theorem appNum_any (x : Int) (p : Option Addr) (n c : Nat) (cs : List Cel) (B : Nat) (w : World) (hB : B ≤ w.heap.size) (hn : n ≤ 100000000) (ho : OwnC w B p n c cs) :
    Calls Tryd.prog 116 #[.int .i64 x, .slice p n c] w (AppOut w B cs [(1, x, [])]) := by
  have HO : Hid (OwnC w B p n c cs) := ho
  have hb : Below w.heap.size w (w.alloc (Obj.cells #[Value.int IntKind.i64 1, Value.int IntKind.i64 x, Value.slice none 0 0] 36)) := (Below.refl _ _).alloc (Nat.le_refl _) _
  have HB : Hid _ := hb
  have HX : Hid (Box3 (w.alloc (Obj.cells #[Value.int IntKind.i64 1, Value.int IntKind.i64 x, Value.slice none 0 0] 36)) w.heap.size (.int .i64 1) (.int .i64 x) (.slice none 0 0)) := Box3.of_block (t := 36) (heap_alloc_new _ _)
  clear ho hb
  go_enter Tryd.func116, Tryd.ntmps116
  go_wp2_with (at_builtin; refine app_cell w _ rfl _ _ rfl B p n c cs rfl HO.out HB.out hB ⟨w.heap.size, 0, none⟩ 1 rfl 1 x none 0 0 [] ⟨rfl, fun h => absurd h (Nat.lt_irrefl 0)⟩ (news_rc HX.out) (by omega) ?_; intro g n' cap w1 hown1 hb1 hn1)
  go_ret
  exact ⟨_, _, _, rfl, hown1, ((Below.refl _ _).alloc hB _).trans hb1⟩

theorem appAtom_any (xs : List Int) (hx : Byte xs) (p : Option Addr) (n c : Nat) (cs : List Cel) (B : Nat) (w : World) (hB : B ≤ w.heap.size) (hn : n ≤ 100000000) (ho : OwnC w B p n c cs) :
    Calls Tryd.prog 113 #[.string (strOfNums xs), .slice p n c] w (AppOut w B cs [(2, 0, xs)]) := by
  have HO : Hid (OwnC w B p n c cs) := ho
  obtain ⟨w1, cap1, hcv, hb1, ht⟩ := conv_bytes w xs hx 82 Tryd.underlying82
  obtain ⟨m, em⟩ : ∃ m, m = xs.length := ⟨_, rfl⟩
  obtain ⟨str, es⟩ : ∃ str, str = strOfNums xs := ⟨_, rfl⟩
  rw [← em] at hcv ht
  rw [← es] at hcv ⊢
  have hs1 := hb1.size
  have hb : Below w1.heap.size w1 (w1.alloc (Obj.cells #[Value.int IntKind.i64 2, Value.int IntKind.i64 0, Value.slice (some ⟨w.heap.size, 0, none⟩) m cap1] 36)) := (Below.refl _ _).alloc (Nat.le_refl _) _
  have HB : Hid (Below w.heap.size w (w1.alloc (Obj.cells #[Value.int IntKind.i64 2, Value.int IntKind.i64 0, Value.slice (some ⟨w.heap.size, 0, none⟩) m cap1] 36))) := Below.on hb1 hb
  have HT : Hid (OwnT (w1.alloc (Obj.cells #[Value.int IntKind.i64 2, Value.int IntKind.i64 0, Value.slice (some ⟨w.heap.size, 0, none⟩) m cap1] 36)) w.heap.size (some ⟨w.heap.size, 0, none⟩) m cap1 xs) := ht.below hb
  have HX : Hid (Box3 (w1.alloc (Obj.cells #[Value.int IntKind.i64 2, Value.int IntKind.i64 0, Value.slice (some ⟨w.heap.size, 0, none⟩) m cap1] 36)) w1.heap.size (.int .i64 2) (.int .i64 0) (.slice (some ⟨w.heap.size, 0, none⟩) m cap1)) := Box3.of_block (t := 36) (heap_alloc_new _ _)
  have HS : Hid (Below B w (w1.alloc (Obj.cells #[Value.int IntKind.i64 2, Value.int IntKind.i64 0, Value.slice (some ⟨w.heap.size, 0, none⟩) m cap1] 36))) := HB.out.mono hB
  clear ho hb hb1 ht em es hx
  go_enter Tryd.func113, Tryd.ntmps113
  go_wp2_with (at_builtin; refine app_cell w _ rfl _ _ rfl B p n c cs rfl HO.out HB.out hB ⟨w1.heap.size, 0, none⟩ 1 rfl 2 0 (some ⟨w.heap.size, 0, none⟩) m cap1 xs HT.out (news_rc HX.out) (by omega) ?_; intro g n' cap w2 hown1 hb2 hn1)
  go_ret
  exact ⟨_, _, _, rfl, hown1, HS.out.trans hb2⟩

end Go.Proofs.YtemohfhblpejmaaDoor

namespace Go.Proofs.YtemohfhblpejmaaDoor
open Go Go.RowKit
set_option linter.unusedVariables false

theorem news_of {w : World} {b o : Nat} {xs : List Int} (hc : ∀ i, i < xs.length → w.cell? ⟨b, o + i, none⟩ = some (.int .u8 (xs.getD i 0))) : ∀ j u, (xs.map (Value.int .u8))[j]? = some u → w.cell? ((⟨b, o, none⟩ : Addr).add j) = some u := fun j u hu => by
  have hj : j < xs.length := by
    rcases Nat.lt_or_ge j xs.length with h | h
    · exact h
    · simp [List.getElem?_eq_none h] at hu
  have e : (⟨b, o, none⟩ : Addr).add j = ⟨b, o + j, none⟩ := by unfold Addr.add; split <;> simp_all
  rw [e, hc j hj, ← hu]
  simp [List.getD, hj]

/-- append of nothing. -/
theorem app_nothing (w : World) {ops : Array Oper} {rest : List Oper} {o : Oper} {a : Act} {Q : Exit → Act → World → Prop} (hgd : o.guard = none) (s x : Operand)
    (ho : o.op = .call { callee := .builtin .append, args := #[s, x], argTypes := #[32, 32] }) (p : Option Addr) (n c : Nat) (hnc : n ≤ c) (hs : a.eval s = .slice p n c) (q : Option Addr) (c' : Nat) (hx : a.eval x = .slice q 0 c')
    (h : wpList Tryd.prog ops Q rest (a.put o.dst (.slice p n c)) w) : wpList Tryd.prog ops Q (o :: rest) a w := by
  obtain ⟨i0, hi, hz0, hz1, hz2⟩ := info_parts infoByte
  refine wpList_plain hgd fun K hK => ?_
  have hsrc : Src Tryd.prog i0.size 32 (.slice q 0 c') 0 [] w := by
    cases q with
    | none => exact Src.ofNil w Tryd.underlying32 c'
    | some ad => exact Src.ofSlice w Tryd.underlying32 ad 0 c' [] (by simp) (fun j u h => by simp at h) (fun u h => by cases h)
  have hr := fun ty => run_append_nothing (P := Tryd.prog) w 32 32 ty 5 i0 Tryd.underlying32 hi p n c hnc _ hsrc
  unfold Oper.wp
  simp [execOp, ho, resolve, invoke, builtin, hs, hx, hr, Result.andThen]
  exact hK _ _ h

theorem l1copy_all (p : Option Addr) (n c : Nat) (xs : List Int) (w : World) (hn : n = xs.length) (hm : n ≤ 10000000) (hc : BIn w p xs) :
    Calls Tryd.prog 61 #[.slice p n c] w fun e w' => ∃ p' n' c', e = .returned (.slice p' n' c') ∧ OwnS w' w.heap.size p' n' c' xs ∧ Below w.heap.size w w' := by
  by_cases h0 : 0 < n
  · obtain ⟨b, o, rfl, hcc⟩ := hc (by omega)
    have HC : Hid (∀ i, i < xs.length → w.cell? ⟨b, o + i, none⟩ = some (.int .u8 (xs.getD i 0))) := hcc
    have HN : Hid (n = xs.length) := hn
    clear hc hn hcc
    go_enter Tryd.func61, Tryd.ntmps61
    go_wp2_with (at_builtin; refine app_bytes _ rfl _ _ rfl w.heap.size none 0 0 [] xs n HN.out rfl (OwnS.nil _ _) _ c rfl (news_of HC.out) h0 (by omega) (Nat.le_refl _) ?_; intro g n' cap w1 hown1 hb1 hn1)
    go_ret
    exact ⟨_, _, _, rfl, hown1, hb1⟩
  · obtain rfl : n = 0 := by omega
    obtain rfl : xs = [] := List.length_eq_zero_iff.1 hn.symm
    clear hc hn
    go_enter Tryd.func61, Tryd.ntmps61
    go_wp2_with (at_builtin; refine app_nothing _ rfl _ _ rfl none 0 0 (Nat.le_refl _) rfl p c rfl ?_)
    go_ret
    exact ⟨_, _, _, rfl, OwnS.nil _ _, Below.refl _ _⟩

end Go.Proofs.YtemohfhblpejmaaDoor

