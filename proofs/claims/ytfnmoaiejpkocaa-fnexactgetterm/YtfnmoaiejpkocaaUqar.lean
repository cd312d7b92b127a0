/- Texts of Tree3, Tree4, BdP. Own work of the verifier. -/
import Derived.Test.YtfnmoaiejpkocaaUqap
import Derived.Lib.ConvBytes
import Derived.Test.YtfnmoaiejpkocaaUqan
import Derived.Test.YtfnmoaiejpkocaaUqai
namespace Go.Proofs.Ytfnmoaiejpkocaa
open Go Go.RowKit
set_option linter.unusedVariables false

theorem flat_one (r : RC) : flat [r] = rcV r := by simp [flat]



/-- Behind an append of one cell. -/
theorem ownC_grew {W0 w w' : World} {B g n cap cp : Nat} {p : Option Addr} {cs : List Cel} {rs : List RC} (hn : n = cs.length) (hl : rs.length = cs.length) (hr0 : W0.ownsRow B 31 3 (.slice p n cp) n (flat rs))
    (hf : ∀ i, i < cs.length → Fits W0 B (rs.getD i RC.zero) (cs.getD i Cel.none)) (ha : ApartC p rs) (hb0 : Below W0.heap.size W0 w) (hB : B ≤ W0.heap.size)
    {kd nn : Int} {tp : Option Addr} {tn tc : Nat} {t : List Int} (ht : OwnT w W0.heap.size tp tn tc t)
    (hr : w'.ownsRow B 31 3 (.slice (some ⟨g, 0, none⟩) (n + 1) cap) (n + 1) (flat rs ++ rcV (kd, nn, tp, tn, tc))) (hg : w.grownBy w' (Value.ownBlock (.slice p n cp))) (hat : Value.ownBlock (.slice p n cp) = some g ∨ g = w.heap.size) :
    OwnC w' B (some ⟨g, 0, none⟩) (n + 1) cap (cs ++ [(kd, nn, t)]) := by
  have hown : ∀ k, Value.ownBlock (.slice p n cp) = some k → p = some ⟨k, 0, none⟩ ∧ k < W0.heap.size := fun k hk => by
    rcases hr0.2 with ⟨hv, _⟩ | ⟨g', cap', cur, hv, hb, hg', _⟩
    · simp only [Value.slice.injEq] at hv; rw [hv.1] at hk; simp [Value.ownBlock] at hk
    · simp only [Value.slice.injEq] at hv
      rw [hv.1] at hk ⊢
      simp [Value.ownBlock] at hk
      subst hk
      exact ⟨rfl, (Array.getElem?_eq_some_iff.1 hg').1⟩
  have hold : ∀ i, i < cs.length → OwnT w B (rs.getD i RC.zero).2.2.1 (rs.getD i RC.zero).2.2.2.1 (rs.getD i RC.zero).2.2.2.2 (cs.getD i Cel.none).2.2 := fun i hi => (hf i hi).2.2.below hb0
  have hlow : ∀ i, i < cs.length → 0 < (rs.getD i RC.zero).2.2.2.1 → ∃ k, (rs.getD i RC.zero).2.2.1 = some ⟨k, 0, none⟩ ∧ k < W0.heap.size := fun i hi hp => by
    obtain ⟨k, e, _, hlt, _⟩ := (hf i hi).2.2.2 hp
    exact ⟨k, e, hlt⟩
  have hhigh : 0 < tn → ∃ k, tp = some ⟨k, 0, none⟩ ∧ W0.heap.size ≤ k ∧ k < w.heap.size := fun hp => by
    obtain ⟨k, e, h1, h2, _⟩ := ht.2 hp
    exact ⟨k, e, h1, h2⟩
  have hnewg : g < W0.heap.size ∨ g = w.heap.size := by
    rcases hat with h | h
    · exact .inl (hown g h).2
    · exact .inr h
  refine ⟨by simp; omega, rs ++ [(kd, nn, tp, tn, tc)], by simp; omega, by rw [flat_append, flat_one]; exact hr, fun i hi => ?_, fun i hi hp => ?_, fun i j hi hj hij hpi hpj => ?_⟩
  · have hi' : i ≤ cs.length := by simp at hi; omega
    rw [rs_append_at _ _ _ (by omega), cs_append_at _ _ _ hi']
    by_cases e : i = cs.length
    · rw [if_pos (by omega), if_pos e]
      refine ⟨rfl, rfl, (ht.mono hB).other hg.size (fun k hn0 e' => ?_)⟩
      obtain ⟨k', e'', h1, h2⟩ := hhigh hn0
      have hkk : k = k' := by
        have := e'.symm.trans e''
        exact congrArg Addr.block (Option.some.inj this)
      refine hg.block k (by omega) (fun hk => ?_)
      have := (hown k hk.symm).2
      omega
    · rw [if_neg (by omega), if_neg e]
      refine ⟨(hf i (by omega)).1, (hf i (by omega)).2.1, (hold i (by omega)).other hg.size (fun k hn0 e' => ?_)⟩
      obtain ⟨k', e'', h1⟩ := hlow i (by omega) hn0
      have hkk : k = k' := congrArg Addr.block (Option.some.inj (e'.symm.trans e''))
      refine hg.block k (by have := hb0.size; omega) (fun hk => ?_)
      exact ha.1 i (by omega) hn0 (by rw [e', (hown k hk.symm).1])
  · have hi' : i ≤ rs.length := by simp at hi; omega
    rw [rs_append_at _ _ _ hi'] at hp ⊢
    by_cases e : i = rs.length
    · rw [if_pos e] at hp ⊢
      obtain ⟨k', e'', h1, h2⟩ := hhigh hp
      rw [show ((kd, nn, tp, tn, tc) : RC).2.2.1 = tp from rfl, e'']
      exact ne_block (by omega) hp
    · rw [if_neg e] at hp ⊢
      obtain ⟨k', e'', h1⟩ := hlow i (by omega) hp
      rcases hat with h | h
      · rw [← (hown g h).1]
        exact ha.1 i (by omega) hp
      · rw [e'']
        exact ne_block (by have := hb0.size; omega) hp
  · have hi' : i ≤ rs.length := by simp at hi; omega
    have hj' : j ≤ rs.length := by simp at hj; omega
    rw [rs_append_at _ _ _ hi'] at hpi ⊢
    rw [rs_append_at _ _ _ hj'] at hpj ⊢
    by_cases e : i = rs.length
    · rw [if_pos e] at hpi ⊢
      rw [if_neg (by omega)] at hpj ⊢
      obtain ⟨k', e'', h1, h2⟩ := hhigh hpi
      obtain ⟨k2, e2, h3⟩ := hlow j (by omega) hpj
      rw [show ((kd, nn, tp, tn, tc) : RC).2.2.1 = tp from rfl, e'', e2]
      exact ne_block (by omega) hpi
    · rw [if_neg e] at hpi ⊢
      by_cases e' : j = rs.length
      · rw [if_pos e'] at hpj ⊢
        obtain ⟨k', e'', h1, h2⟩ := hhigh hpj
        obtain ⟨k2, e2, h3⟩ := hlow i (by omega) hpi
        rw [show ((kd, nn, tp, tn, tc) : RC).2.2.1 = tp from rfl, e'', e2]
        exact ne_block (by omega) hpi
      · rw [if_neg e'] at hpj ⊢
        exact ha.2 i j (by omega) (by omega) hij hpi hpj

theorem rcV_one (r : RC) : ∀ u ∈ rcV r, u.oneCell' = true := fun u hu => by
  simp [rcV] at hu
  rcases hu with rfl | rfl | rfl <;> rfl

/-- append of one cell onto a slice of cells of the call's own. -/
theorem app_cell (W0 w : World) {ops : Array Oper} {rest : List Oper} {o : Oper} {a : Act} {Q : Exit → Act → World → Prop} (hgd : o.guard = none) (s x : Operand)
    (ho : o.op = .call { callee := .builtin .append, args := #[s, x], argTypes := #[34, 34] }) (B : Nat) (p : Option Addr) (n c : Nat) (cs : List Cel)
    (hs : a.eval s = .slice p n c) (hown : OwnC W0 B p n c cs) (hb0 : Below W0.heap.size W0 w) (hB : B ≤ W0.heap.size) (ad : Addr) (c' : Nat) (hx : a.eval x = .slice (some ad) 1 c') (kd nn : Int) (tp : Option Addr) (tn tc : Nat) (t : List Int)
    (ht : OwnT w W0.heap.size tp tn tc t) (hnews : ∀ j u, (rcV (kd, nn, tp, tn, tc))[j]? = some u → w.cell? (ad.add j) = some u) (hlen : n + 1 ≤ 1000000000)
    (h : ∀ g n' cap w', OwnC w' B (some ⟨g, 0, none⟩) n' cap (cs ++ [(kd, nn, t)]) → Below B w w' → Hid (n' = n + 1) → wpList Try.prog ops Q rest (a.put o.dst (.slice (some ⟨g, 0, none⟩) n' cap)) w') : wpList Try.prog ops Q (o :: rest) a w := by
  obtain ⟨i0, hi, hz0, hz1, hz2⟩ := info_parts infoCell
  obtain ⟨hn, rs, hl, hr, hf, ha⟩ := hown
  refine wpList_append_lies w hgd s x 34 ho B 31 i0 (.agg #[.int .i64 0, .int .i64 0, .slice none 0 0]) 3 40 Try.underlying34 hi hz0 hz1 hz2 rfl (by decide) (.slice p n c) n (flat rs) hs (row_below hr hb0) ad 1 c' (rcV (kd, nn, tp, tn, tc)) hx rfl hnews (rcV_one _) (by decide) (by unfold maxLen; omega) (by omega) (Nat.le_trans hB hb0.size) w.heap.size rfl ?_
  intro g cap w' hown' hgrow hat hlt
  refine h g _ cap w' (ownC_grew hn hl hr hf ha hb0 hB ht hown' hgrow hat) ((Below.refl _ _).grown hgrow (Nat.le_trans hB hb0.size) (fun k hk => ?_)) rfl
  exact (hr.lt k hk).1

/-- The same at a step of a region that draws its order. -/
theorem step_app_cell (W0 w : World) {ops : Array Oper} {o : Oper} {a : Act} {K : Act → World → Prop} {Q : Exit → Act → World → Prop} {E : Prop} (hgd : o.guard = none) (s x : Operand)
    (ho : o.op = .call { callee := .builtin .append, args := #[s, x], argTypes := #[34, 34] }) (B : Nat) (p : Option Addr) (n c : Nat) (cs : List Cel)
    (hs : a.eval s = .slice p n c) (hown : OwnC W0 B p n c cs) (hb0 : Below W0.heap.size W0 w) (hB : B ≤ W0.heap.size) (ad : Addr) (c' : Nat) (hx : a.eval x = .slice (some ad) 1 c') (kd nn : Int) (tp : Option Addr) (tn tc : Nat) (t : List Int)
    (ht : OwnT w W0.heap.size tp tn tc t) (hnews : ∀ j u, (rcV (kd, nn, tp, tn, tc))[j]? = some u → w.cell? (ad.add j) = some u) (hlen : n + 1 ≤ 1000000000)
    (h : ∀ g n' cap w', OwnC w' B (some ⟨g, 0, none⟩) n' cap (cs ++ [(kd, nn, t)]) → Below B w w' → Hid (n' = n + 1) → K (a.put o.dst (.slice (some ⟨g, 0, none⟩) n' cap)) w') :
    if Region.wanted o (yielded ops a.tmps) = true then Oper.wp Try.prog o a w K Q else E := by
  obtain ⟨i0, hi, hz0, hz1, hz2⟩ := info_parts infoCell
  obtain ⟨hn, rs, hl, hr, hf, ha⟩ := hown
  refine step_append_lies w hgd s x 34 ho B 31 i0 (.agg #[.int .i64 0, .int .i64 0, .slice none 0 0]) 3 40 Try.underlying34 hi hz0 hz1 hz2 rfl (by decide) (.slice p n c) n (flat rs) hs (row_below hr hb0) ad 1 c' (rcV (kd, nn, tp, tn, tc)) hx rfl hnews (rcV_one _) (by decide) (by unfold maxLen; omega) (by omega) (Nat.le_trans hB hb0.size) w.heap.size rfl ?_
  intro g cap w' hown' hgrow hat hlt
  refine h g _ cap w' (ownC_grew hn hl hr hf ha hb0 hB ht hown' hgrow hat) ((Below.refl _ _).grown hgrow (Nat.le_trans hB hb0.size) (fun k hk => ?_)) rfl
  exact (hr.lt k hk).1

end Go.Proofs.Ytfnmoaiejpkocaa

namespace Go.Proofs.Ytfnmoaiejpkocaa
open Go Go.RowKit
set_option linter.unusedVariables false

/-- What appendCells answers: the cells behind those that were there. -/
def AppOut (w : World) (B : Nat) (cs ds : List Cel) (e : Ending) (w' : World) : Prop :=
  ∃ p n c, e = .returned (.slice p n c) ∧ OwnC w' B p n c (cs ++ ds) ∧ Below B w w'

theorem news_rc {w : World} {d : Nat} {r : RC} (h : Box3 w d (.int .i64 r.1) (.int .i64 r.2.1) (.slice r.2.2.1 r.2.2.2.1 r.2.2.2.2)) : ∀ j u, (rcV r)[j]? = some u → w.cell? ((⟨d, 0, none⟩ : Addr).add j) = some u := fun j u hu => by
  have e : (⟨d, 0, none⟩ : Addr).add j = ⟨d, j, none⟩ := by unfold Addr.add; split <;> simp_all
  rw [e]
  rcases j with _ | _ | _ | j
  · simp only [rcV, List.getElem?_cons_zero, Option.some.injEq] at hu; rw [← hu]; exact h.1
  · simp only [rcV, List.getElem?_cons_succ, List.getElem?_cons_zero, Option.some.injEq] at hu; rw [← hu]; exact h.2.1
  · simp only [rcV, List.getElem?_cons_succ, List.getElem?_cons_zero, Option.some.injEq] at hu; rw [← hu]; exact h.2.2.1
  · simp [rcV] at hu

theorem appVar_any (x : Int) (p : Option Addr) (n c : Nat) (cs : List Cel) (B : Nat) (w : World) (hB : B ≤ w.heap.size) (hn : n ≤ 100000000) (ho : OwnC w B p n c cs) :
    Calls Try.prog 136 #[.int .i64 x, .slice p n c] w (AppOut w B cs [(0, x, [])]) := by
  have HO : Hid (OwnC w B p n c cs) := ho
  have hb : Below w.heap.size w (w.alloc (Obj.cells #[Value.int IntKind.i64 0, Value.int IntKind.i64 x, Value.slice none 0 0] 31)) := (Below.refl _ _).alloc (Nat.le_refl _) _
  have HB : Hid _ := hb
  have HX : Hid (Box3 (w.alloc (Obj.cells #[Value.int IntKind.i64 0, Value.int IntKind.i64 x, Value.slice none 0 0] 31)) w.heap.size (.int .i64 0) (.int .i64 x) (.slice none 0 0)) := Box3.of_block (t := 31) (heap_alloc_new _ _)
  clear ho hb
  go_enter Try.func136, Try.ntmps136
  go_wp2_with (at_builtin; refine app_cell w _ rfl _ _ rfl B p n c cs rfl HO.out HB.out hB ⟨w.heap.size, 0, none⟩ 1 rfl 0 x none 0 0 [] ⟨rfl, fun h => absurd h (Nat.lt_irrefl 0)⟩ (news_rc HX.out) (by omega) ?_; intro g n' cap w1 hown1 hb1 hn1)
  go_ret
  exact ⟨_, _, _, rfl, hown1, ((Below.refl _ _).alloc hB _).trans hb1⟩

theorem appNum_any (x : Int) (p : Option Addr) (n c : Nat) (cs : List Cel) (B : Nat) (w : World) (hB : B ≤ w.heap.size) (hn : n ≤ 100000000) (ho : OwnC w B p n c cs) :
    Calls Try.prog 137 #[.int .i64 x, .slice p n c] w (AppOut w B cs [(1, x, [])]) := by
  have HO : Hid (OwnC w B p n c cs) := ho
  have hb : Below w.heap.size w (w.alloc (Obj.cells #[Value.int IntKind.i64 1, Value.int IntKind.i64 x, Value.slice none 0 0] 31)) := (Below.refl _ _).alloc (Nat.le_refl _) _
  have HB : Hid _ := hb
  have HX : Hid (Box3 (w.alloc (Obj.cells #[Value.int IntKind.i64 1, Value.int IntKind.i64 x, Value.slice none 0 0] 31)) w.heap.size (.int .i64 1) (.int .i64 x) (.slice none 0 0)) := Box3.of_block (t := 31) (heap_alloc_new _ _)
  clear ho hb
  go_enter Try.func137, Try.ntmps137
  go_wp2_with (at_builtin; refine app_cell w _ rfl _ _ rfl B p n c cs rfl HO.out HB.out hB ⟨w.heap.size, 0, none⟩ 1 rfl 1 x none 0 0 [] ⟨rfl, fun h => absurd h (Nat.lt_irrefl 0)⟩ (news_rc HX.out) (by omega) ?_; intro g n' cap w1 hown1 hb1 hn1)
  go_ret
  exact ⟨_, _, _, rfl, hown1, ((Below.refl _ _).alloc hB _).trans hb1⟩

theorem appAtom_any (xs : List Int) (hx : Byte xs) (p : Option Addr) (n c : Nat) (cs : List Cel) (B : Nat) (w : World) (hB : B ≤ w.heap.size) (hn : n ≤ 100000000) (ho : OwnC w B p n c cs) :
    Calls Try.prog 139 #[.string (strOfNums xs), .slice p n c] w (AppOut w B cs [(2, 0, xs)]) := by
  have HO : Hid (OwnC w B p n c cs) := ho
  obtain ⟨w1, cap1, hcv, hb1, ht⟩ := conv_bytes w xs hx 122 Try.underlying122
  obtain ⟨m, em⟩ : ∃ m, m = xs.length := ⟨_, rfl⟩
  obtain ⟨str, es⟩ : ∃ str, str = strOfNums xs := ⟨_, rfl⟩
  rw [← em] at hcv ht
  rw [← es] at hcv ⊢
  have hs1 := hb1.size
  have hb : Below w1.heap.size w1 (w1.alloc (Obj.cells #[Value.int IntKind.i64 2, Value.int IntKind.i64 0, Value.slice (some ⟨w.heap.size, 0, none⟩) m cap1] 31)) := (Below.refl _ _).alloc (Nat.le_refl _) _
  have HB : Hid (Below w.heap.size w (w1.alloc (Obj.cells #[Value.int IntKind.i64 2, Value.int IntKind.i64 0, Value.slice (some ⟨w.heap.size, 0, none⟩) m cap1] 31))) := Below.on hb1 hb
  have HT : Hid (OwnT (w1.alloc (Obj.cells #[Value.int IntKind.i64 2, Value.int IntKind.i64 0, Value.slice (some ⟨w.heap.size, 0, none⟩) m cap1] 31)) w.heap.size (some ⟨w.heap.size, 0, none⟩) m cap1 xs) := ht.below hb
  have HX : Hid (Box3 (w1.alloc (Obj.cells #[Value.int IntKind.i64 2, Value.int IntKind.i64 0, Value.slice (some ⟨w.heap.size, 0, none⟩) m cap1] 31)) w1.heap.size (.int .i64 2) (.int .i64 0) (.slice (some ⟨w.heap.size, 0, none⟩) m cap1)) := Box3.of_block (t := 31) (heap_alloc_new _ _)
  have HS : Hid (Below B w (w1.alloc (Obj.cells #[Value.int IntKind.i64 2, Value.int IntKind.i64 0, Value.slice (some ⟨w.heap.size, 0, none⟩) m cap1] 31))) := HB.out.mono hB
  clear ho hb hb1 ht em es hx
  go_enter Try.func139, Try.ntmps139
  go_wp2_with (at_builtin; refine app_cell w _ rfl _ _ rfl B p n c cs rfl HO.out HB.out hB ⟨w1.heap.size, 0, none⟩ 1 rfl 2 0 (some ⟨w.heap.size, 0, none⟩) m cap1 xs HT.out (news_rc HX.out) (by omega) ?_; intro g n' cap w2 hown1 hb2 hn1)
  go_ret
  exact ⟨_, _, _, rfl, hown1, HS.out.trans hb2⟩

end Go.Proofs.Ytfnmoaiejpkocaa

namespace Go.Proofs.Ytfnmoaiejpkocaa
open Go Go.RowKit
set_option linter.unusedVariables false

/-- y lies right behind the word c. -/
def Beh (xs : List Cel) (c : Cel) (y : Nat) : Prop := fW c.1 c.2.1 ≤ y ∧ (y : Int) < eW xs c.1 c.2.1
/-- The address a lies on a way from the word c. -/
inductive Rch (xs : List Cel) (a : Nat) : Cel → Prop
  | here {c : Cel} (h : Beh xs c a) : Rch xs a c
  | on {c : Cel} {y : Nat} (h : Beh xs c y) (h2 : Rch xs a (xs.getD y Cel.none)) : Rch xs a c

theorem beh_ref {xs : List Cel} {c : Cel} (h0 : c.1 = 0) {y : Nat} : Beh xs c y ↔ (y : Int) = c.2.1 := by
  unfold Beh fW eW
  rw [if_pos h0, if_pos h0]
  omega
theorem beh_str {xs : List Cel} {c : Cel} (h4 : c.1 = 4) {y : Nat} : Beh xs c y ↔ (c.2.1 + 1 ≤ y ∧ (y : Int) < c.2.1 + 1 + numA xs c.2.1.toNat) := by
  unfold Beh fW eW
  have h0 : ¬ c.1 = 0 := by omega
  rw [if_neg h0, if_neg h0, if_pos h4, if_pos h4]
theorem beh_no {xs : List Cel} {c : Cel} (h0 : c.1 ≠ 0) (h4 : c.1 ≠ 4) {y : Nat} : ¬ Beh xs c y := by
  unfold Beh fW eW
  rw [if_neg h0, if_neg h0, if_neg h4, if_neg h4]
  omega
theorem beh_word {xs : List Cel} (g : Shp xs) {c : Cel} (hc : WdC xs c) {y : Nat} (h : Beh xs c y) : y < xs.length ∧ kndA xs y ≠ 3 := by
  by_cases h0 : c.1 = 0
  · obtain ⟨r0, r1, r2⟩ := hc.2.1 h0
    rw [beh_ref h0] at h
    rw [show y = c.2.1.toNat by omega]
    exact ⟨by omega, r2⟩
  · by_cases h4 : c.1 = 4
    · obtain ⟨r0, r1, r2⟩ := hc.2.2 h4
      rw [beh_str h4] at h
      obtain ⟨_, _, f3⟩ := g.funs c.2.1.toNat (by omega) r2
      have := f3 (y - c.2.1.toNat) (by omega) (by omega)
      rw [show c.2.1.toNat + (y - c.2.1.toNat) = y by omega] at this
      exact this
    · exact absurd h (beh_no h0 h4)

/-- Where all that was gone through leads to what was gone through, and never to a, a is on no way. -/
theorem rch_no {xs : List Cel} {a : Nat} {V : Nat → Prop} (hV : ∀ x, V x → ∀ y, Beh xs (xs.getD x Cel.none) y → y ≠ a ∧ (V y ∨ ∀ z, ¬ Beh xs (xs.getD y Cel.none) z)) {c : Cel}
    (hc : ∀ y, Beh xs c y → y ≠ a ∧ (V y ∨ ∀ z, ¬ Beh xs (xs.getD y Cel.none) z)) : ¬ Rch xs a c := by
  intro h
  induction h with
  | here h => exact (hc _ h).1 rfl
  | on h h2 ih =>
    rcases (hc _ h).2 with hv | hl
    · exact ih (hV _ hv)
    · cases h2 with
      | here h3 => exact hl _ h3
      | on h3 _ => exact hl _ h3

theorem rch_drf {xs : List Cel} {a : Nat} (g : Good xs) : ∀ (n : Nat) (c : Cel), rkW xs c ≤ n → WdC xs c → Rch xs a (drf xs c) → Rch xs a c := by
  intro n
  induction n with
  | zero =>
    intro c hr hc h
    have h0 : ¬ c.1 = 0 := fun h0 => by unfold rkW at hr; rw [if_pos h0] at hr; omega
    have hn : onB xs c = false := by simp [onB, h0]
    rw [drf_stop hn] at h
    exact h
  | succ n ih =>
    intro c hr hc h
    cases ho : onB xs c
    · rw [drf_stop ho] at h; exact h
    · obtain ⟨n1, n2⟩ := rk_next g hc ho
      obtain ⟨h0, hv⟩ := on_ref ho
      obtain ⟨r0, r1, r2⟩ := hc.2.1 h0
      rw [drf_step g hc ho] at h
      exact .on ((beh_ref h0).2 (by omega)) (ih _ (by omega) n2 h)
/-- A variable lies on a way from every reference that ends at it. -/
theorem rch_var {xs : List Cel} {a : Nat} (g : Good xs) {c : Cel} (hc : WdC xs c) (h0 : (drf xs c).1 = 0) (hn : (drf xs c).2.1 = a) : Rch xs a c :=
  rch_drf g _ c (Nat.le_refl _) hc (.here ((beh_ref h0).2 hn.symm))
theorem rch_arg {xs : List Cel} {a : Nat} (g : Good xs) {c : Cel} (hc : WdC xs c) (h4 : (drf xs c).1 = 4) {i : Nat} (h1 : 1 ≤ i) (h2 : (i : Int) ≤ numA xs (drf xs c).2.1.toNat) (h : Rch xs a (xs.getD ((drf xs c).2.1.toNat + i) Cel.none)) : Rch xs a c := by
  have hw := (drf_word g hc).1.2.2 h4
  exact rch_drf g _ c (Nat.le_refl _) hc (.on ((beh_str h4).2 (by omega)) h)

/-- A word with which the model's search is done. -/
def DoneW (xs : List Cel) (a : Nat) (S : Nat → Prop) (x : Cel) : Prop := ¬ ((drf xs x).1 = 0 ∧ (drf xs x).2.1 = a) ∧ ((drf xs x).1 = 4 → S (drf xs x).2.1.toNat)
theorem varB_at {xs : List Cel} {n : Int} (h : varB xs n = true) : 0 ≤ n ∧ n < xs.length ∧ kndA xs n.toNat = 0 ∧ numA xs n.toNat = n := by
  unfold varB at h
  simp only [decide_eq_true_eq] at h
  obtain ⟨h1, h2, h3⟩ := h
  exact ⟨h1, h2, h3⟩
theorem done_no {xs : List Cel} {a : Nat} (g : Good xs) (ha : varB xs a = true) {S : Nat → Prop} (hS : ∀ s, S s → ∀ i : Nat, 1 ≤ i → (i : Int) ≤ numA xs s → DoneW xs a S (xs.getD (s + i) Cel.none)) {c : Cel} (hc : WdC xs c) (hd : DoneW xs a S c) : ¬ Rch xs a c := by
  intro h
  have hva : ∀ v : Nat, varB xs v = true → drf xs (xs.getD v Cel.none) = xs.getD v Cel.none ∧ (xs.getD v Cel.none).1 = 0 ∧ (xs.getD v Cel.none).2.1 = v := fun v hv => by
    obtain ⟨v1, v2, v3, v4⟩ := varB_at hv
    simp only [Int.toNat_natCast] at v3 v4
    refine ⟨drf_stop ?_, v3, v4⟩
    have e : (xs.getD v Cel.none).2.1 = v := v4
    unfold onB
    rw [e, hv]
    simp
  have hstr : ∀ {c : Cel} {y : Nat}, WdC xs c → DoneW xs a S c → c.1 = 4 → Beh xs c y → DoneW xs a S (xs.getD y Cel.none) := fun {c y} hc hd h4 hb => by
    have hn : onB xs c = false := by simp [onB, h4]
    have e := drf_stop hn
    have := hd.2
    rw [e] at this
    obtain ⟨r0, r1, r2⟩ := hc.2.2 h4
    rw [beh_str h4] at hb
    have := hS _ (this h4) (y - c.2.1.toNat) (by omega) (by omega)
    rw [show c.2.1.toNat + (y - c.2.1.toNat) = y by omega] at this
    exact this
  induction h with
  | @here c h =>
    by_cases h0 : c.1 = 0
    · have hn := (beh_ref h0).1 h
      have ho : onB xs c = false := by simp [onB, ← hn, ha]
      have := hd.1
      rw [drf_stop ho] at this
      exact this ⟨h0, hn.symm⟩
    · by_cases h4 : c.1 = 4
      · have hd2 := (hstr hc hd h4 h).1
        obtain ⟨e1, e2, e3⟩ := hva a ha
        rw [e1] at hd2
        exact hd2 ⟨e2, e3⟩
      · exact beh_no h0 h4 h
  | @on c y h h2 ih =>
    obtain ⟨hy1, hy2⟩ := beh_word g.shp hc h
    refine ih (g.at hy1 hy2) ?_
    by_cases h0 : c.1 = 0
    · have hn := (beh_ref h0).1 h
      cases ho : onB xs c
      · have hv : varB xs y = true := by
          simp [onB, h0, ← hn] at ho; exact ho
        obtain ⟨e1, e2, e3⟩ := hva y hv
        unfold DoneW at hd ⊢
        rw [drf_stop ho] at hd
        rw [e1]
        refine ⟨fun hh => hd.1 ⟨h0, by omega⟩, fun hh => by omega⟩
      · unfold DoneW at hd ⊢
        rw [drf_step g hc ho, ← hn] at hd
        simpa using hd
    · by_cases h4 : c.1 = 4
      · exact hstr hc hd h4 h
      · exact absurd h (beh_no h0 h4)

open Classical in
/-- What binding the variable a to the word c, which was followed, gives. -/
noncomputable def bndT (xs : List Cel) (tr : List Int) (a : Nat) (c : Cel) : (List Cel × List Int) × Int :=
  if c.1 = 4 ∧ Rch xs a c then (([], []), 5)
  else if 20000 ≤ tr.length then (([], []), 10)
  else if c.1 = 0 ∧ (a : Int) < c.2.1 then ((xs.set c.2.1.toNat (0, a, []), tr ++ [c.2.1]), 0)
  else ((xs.set a c, tr ++ [(a : Int)]), 0)
/-- What BindCell answers. -/
noncomputable def bndA (xs : List Cel) (tr : List Int) (a : Int) (c : Cel) : (List Cel × List Int) × Int :=
  if (vsB xs tr c.1 c.2.1 c.2.2.length && varB xs a) = true then
    (if (drf xs c).1 = 0 ∧ (drf xs c).2.1 = a then (([], []), 1) else bndT xs tr a.toNat (drf xs c))
  else (([], []), 1)

end Go.Proofs.Ytfnmoaiejpkocaa

