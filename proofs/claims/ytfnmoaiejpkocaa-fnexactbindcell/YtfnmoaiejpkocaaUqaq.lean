/- Texts of Tree3, SoI, Tree4. Own work of the verifier. -/
import Derived.Test.YtfnmoaiejpkocaaUqap
import Derived.Lib.ConvBytes
import Derived.Test.YtfnmoaiejpkocaaUqao
import Derived.Test.YtfnmoaiejpkocaaUqaf
import Derived.Test.YtfnmoaiejpkocaaUqam
namespace Go.Proofs.Ytfnmoaiejpkocaa
open Go Go.RowKit
set_option linter.unusedVariables false

theorem flat_one (r : RC) : flat [r] = rcV r := by simp [flat]



/-- Behind an append of one cell. -/
theorem ownC_grew {W0 w w' : World} {B g n cap cp : Nat} {p : Option Addr} {cs : List Cel} {rs : List RC} (hn : n = cs.length) (hl : rs.length = cs.length) (hr0 : W0.ownsRow B 31 3 (.slice p n cp) n (flat rs))
    (hf : ∀ i, i < cs.length → Fits W0 B (rs.getD i RC.zero) (cs.getD i Cel.none)) (ha : ApartC p rs) (hb0 : Below W0.heap.size W0 w) (hB : B ≤ W0.heap.size)
    {kd nn : Int} {tp : Option Addr} {tn tc : Nat} {t : List Int} (ht : OwnT w W0.heap.size tp tn tc t)
    (hr : w'.ownsRow B 31 3 (.slice (some ⟨g, 0, none⟩) (n + 1) cap) (n + 1) (flat rs ++ rcV (kd, nn, tp, tn, tc))) (hg : w.grownBy w' (Value.ownBlock (.slice p n cp))) (hat : Value.ownBlock (.slice p n cp) = some g ∨ g = w.heap.size) :
    OwnC w' B (some ⟨g, 0, none⟩) (n + 1) cap (cs ++ [(kd, nn, t)]) := by
  have hown : ∀ k, Value.ownBlock (.slice p n cp) = some k → p = some ⟨k, 0, none⟩ ∧ k < W0.heap.size := fun k hk => by
    rcases hr0.2 with ⟨hv, _⟩ | ⟨g', cap', cur, hv, hb, hg', _⟩
    · simp only [Value.slice.injEq] at hv; rw [hv.1] at hk; simp [Value.ownBlock] at hk
    · simp only [Value.slice.injEq] at hv
      rw [hv.1] at hk ⊢
      simp [Value.ownBlock] at hk
      subst hk
      exact ⟨rfl, (Array.getElem?_eq_some_iff.1 hg').1⟩
  have hold : ∀ i, i < cs.length → OwnT w B (rs.getD i RC.zero).2.2.1 (rs.getD i RC.zero).2.2.2.1 (rs.getD i RC.zero).2.2.2.2 (cs.getD i Cel.none).2.2 := fun i hi => (hf i hi).2.2.below hb0
  have hlow : ∀ i, i < cs.length → 0 < (rs.getD i RC.zero).2.2.2.1 → ∃ k, (rs.getD i RC.zero).2.2.1 = some ⟨k, 0, none⟩ ∧ k < W0.heap.size := fun i hi hp => by
    obtain ⟨k, e, _, hlt, _⟩ := (hf i hi).2.2.2 hp
    exact ⟨k, e, hlt⟩
  have hhigh : 0 < tn → ∃ k, tp = some ⟨k, 0, none⟩ ∧ W0.heap.size ≤ k ∧ k < w.heap.size := fun hp => by
    obtain ⟨k, e, h1, h2, _⟩ := ht.2 hp
    exact ⟨k, e, h1, h2⟩
  have hnewg : g < W0.heap.size ∨ g = w.heap.size := by
    rcases hat with h | h
    · exact .inl (hown g h).2
    · exact .inr h
  refine ⟨by simp; omega, rs ++ [(kd, nn, tp, tn, tc)], by simp; omega, by rw [flat_append, flat_one]; exact hr, fun i hi => ?_, fun i hi hp => ?_, fun i j hi hj hij hpi hpj => ?_⟩
  · have hi' : i ≤ cs.length := by simp at hi; omega
    rw [rs_append_at _ _ _ (by omega), cs_append_at _ _ _ hi']
    by_cases e : i = cs.length
    · rw [if_pos (by omega), if_pos e]
      refine ⟨rfl, rfl, (ht.mono hB).other hg.size (fun k hn0 e' => ?_)⟩
      obtain ⟨k', e'', h1, h2⟩ := hhigh hn0
      have hkk : k = k' := by
        have := e'.symm.trans e''
        exact congrArg Addr.block (Option.some.inj this)
      refine hg.block k (by omega) (fun hk => ?_)
      have := (hown k hk.symm).2
      omega
    · rw [if_neg (by omega), if_neg e]
      refine ⟨(hf i (by omega)).1, (hf i (by omega)).2.1, (hold i (by omega)).other hg.size (fun k hn0 e' => ?_)⟩
      obtain ⟨k', e'', h1⟩ := hlow i (by omega) hn0
      have hkk : k = k' := congrArg Addr.block (Option.some.inj (e'.symm.trans e''))
      refine hg.block k (by have := hb0.size; omega) (fun hk => ?_)
      exact ha.1 i (by omega) hn0 (by rw [e', (hown k hk.symm).1])
  · have hi' : i ≤ rs.length := by simp at hi; omega
    rw [rs_append_at _ _ _ hi'] at hp ⊢
    by_cases e : i = rs.length
    · rw [if_pos e] at hp ⊢
      obtain ⟨k', e'', h1, h2⟩ := hhigh hp
      rw [show ((kd, nn, tp, tn, tc) : RC).2.2.1 = tp from rfl, e'']
      exact ne_block (by omega) hp
    · rw [if_neg e] at hp ⊢
      obtain ⟨k', e'', h1⟩ := hlow i (by omega) hp
      rcases hat with h | h
      · rw [← (hown g h).1]
        exact ha.1 i (by omega) hp
      · rw [e'']
        exact ne_block (by have := hb0.size; omega) hp
  · have hi' : i ≤ rs.length := by simp at hi; omega
    have hj' : j ≤ rs.length := by simp at hj; omega
    rw [rs_append_at _ _ _ hi'] at hpi ⊢
    rw [rs_append_at _ _ _ hj'] at hpj ⊢
    by_cases e : i = rs.length
    · rw [if_pos e] at hpi ⊢
      rw [if_neg (by omega)] at hpj ⊢
      obtain ⟨k', e'', h1, h2⟩ := hhigh hpi
      obtain ⟨k2, e2, h3⟩ := hlow j (by omega) hpj
      rw [show ((kd, nn, tp, tn, tc) : RC).2.2.1 = tp from rfl, e'', e2]
      exact ne_block (by omega) hpi
    · rw [if_neg e] at hpi ⊢
      by_cases e' : j = rs.length
      · rw [if_pos e'] at hpj ⊢
        obtain ⟨k', e'', h1, h2⟩ := hhigh hpj
        obtain ⟨k2, e2, h3⟩ := hlow i (by omega) hpi
        rw [show ((kd, nn, tp, tn, tc) : RC).2.2.1 = tp from rfl, e'', e2]
        exact ne_block (by omega) hpi
      · rw [if_neg e'] at hpj ⊢
        exact ha.2 i j (by omega) (by omega) hij hpi hpj

theorem rcV_one (r : RC) : ∀ u ∈ rcV r, u.oneCell' = true := fun u hu => by
  simp [rcV] at hu
  rcases hu with rfl | rfl | rfl <;> rfl

/-- append of one cell onto a slice of cells of the call's own. -/
theorem app_cell (W0 w : World) {ops : Array Oper} {rest : List Oper} {o : Oper} {a : Act} {Q : Exit → Act → World → Prop} (hgd : o.guard = none) (s x : Operand)
    (ho : o.op = .call { callee := .builtin .append, args := #[s, x], argTypes := #[34, 34] }) (B : Nat) (p : Option Addr) (n c : Nat) (cs : List Cel)
    (hs : a.eval s = .slice p n c) (hown : OwnC W0 B p n c cs) (hb0 : Below W0.heap.size W0 w) (hB : B ≤ W0.heap.size) (ad : Addr) (c' : Nat) (hx : a.eval x = .slice (some ad) 1 c') (kd nn : Int) (tp : Option Addr) (tn tc : Nat) (t : List Int)
    (ht : OwnT w W0.heap.size tp tn tc t) (hnews : ∀ j u, (rcV (kd, nn, tp, tn, tc))[j]? = some u → w.cell? (ad.add j) = some u) (hlen : n + 1 ≤ 1000000000)
    (h : ∀ g n' cap w', OwnC w' B (some ⟨g, 0, none⟩) n' cap (cs ++ [(kd, nn, t)]) → Below B w w' → Hid (n' = n + 1) → wpList Try.prog ops Q rest (a.put o.dst (.slice (some ⟨g, 0, none⟩) n' cap)) w') : wpList Try.prog ops Q (o :: rest) a w := by
  obtain ⟨i0, hi, hz0, hz1, hz2⟩ := info_parts infoCell
  obtain ⟨hn, rs, hl, hr, hf, ha⟩ := hown
  refine wpList_append_lies w hgd s x 34 ho B 31 i0 (.agg #[.int .i64 0, .int .i64 0, .slice none 0 0]) 3 40 Try.underlying34 hi hz0 hz1 hz2 rfl (by decide) (.slice p n c) n (flat rs) hs (row_below hr hb0) ad 1 c' (rcV (kd, nn, tp, tn, tc)) hx rfl hnews (rcV_one _) (by decide) (by unfold maxLen; omega) (by omega) (Nat.le_trans hB hb0.size) w.heap.size rfl ?_
  intro g cap w' hown' hgrow hat hlt
  refine h g _ cap w' (ownC_grew hn hl hr hf ha hb0 hB ht hown' hgrow hat) ((Below.refl _ _).grown hgrow (Nat.le_trans hB hb0.size) (fun k hk => ?_)) rfl
  exact (hr.lt k hk).1

/-- The same at a step of a region that draws its order. -/
theorem step_app_cell (W0 w : World) {ops : Array Oper} {o : Oper} {a : Act} {K : Act → World → Prop} {Q : Exit → Act → World → Prop} {E : Prop} (hgd : o.guard = none) (s x : Operand)
    (ho : o.op = .call { callee := .builtin .append, args := #[s, x], argTypes := #[34, 34] }) (B : Nat) (p : Option Addr) (n c : Nat) (cs : List Cel)
    (hs : a.eval s = .slice p n c) (hown : OwnC W0 B p n c cs) (hb0 : Below W0.heap.size W0 w) (hB : B ≤ W0.heap.size) (ad : Addr) (c' : Nat) (hx : a.eval x = .slice (some ad) 1 c') (kd nn : Int) (tp : Option Addr) (tn tc : Nat) (t : List Int)
    (ht : OwnT w W0.heap.size tp tn tc t) (hnews : ∀ j u, (rcV (kd, nn, tp, tn, tc))[j]? = some u → w.cell? (ad.add j) = some u) (hlen : n + 1 ≤ 1000000000)
    (h : ∀ g n' cap w', OwnC w' B (some ⟨g, 0, none⟩) n' cap (cs ++ [(kd, nn, t)]) → Below B w w' → Hid (n' = n + 1) → K (a.put o.dst (.slice (some ⟨g, 0, none⟩) n' cap)) w') :
    if Region.wanted o (yielded ops a.tmps) = true then Oper.wp Try.prog o a w K Q else E := by
  obtain ⟨i0, hi, hz0, hz1, hz2⟩ := info_parts infoCell
  obtain ⟨hn, rs, hl, hr, hf, ha⟩ := hown
  refine step_append_lies w hgd s x 34 ho B 31 i0 (.agg #[.int .i64 0, .int .i64 0, .slice none 0 0]) 3 40 Try.underlying34 hi hz0 hz1 hz2 rfl (by decide) (.slice p n c) n (flat rs) hs (row_below hr hb0) ad 1 c' (rcV (kd, nn, tp, tn, tc)) hx rfl hnews (rcV_one _) (by decide) (by unfold maxLen; omega) (by omega) (Nat.le_trans hB hb0.size) w.heap.size rfl ?_
  intro g cap w' hown' hgrow hat hlt
  refine h g _ cap w' (ownC_grew hn hl hr hf ha hb0 hB ht hown' hgrow hat) ((Below.refl _ _).grown hgrow (Nat.le_trans hB hb0.size) (fun k hk => ?_)) rfl
  exact (hr.lt k hk).1

end Go.Proofs.Ytfnmoaiejpkocaa

namespace Go.Proofs.Ytfnmoaiejpkocaa
open Go Go.RowKit Go.Maps
set_option linter.unusedVariables false

theorem news_ints {w : World} {b o : Nat} {ys : List Int} (hc : ∀ i, i < ys.length → w.cell? ⟨b, o + i, none⟩ = some (.int .i64 (ys.getD i 0))) : ∀ j u, (ys.map (Value.int .i64))[j]? = some u → w.cell? ((⟨b, o, none⟩ : Addr).add j) = some u := fun j u hj => by
  simp only [List.getElem?_map] at hj
  cases hy : ys[j]? with
  | none => rw [hy] at hj; cases hj
  | some y =>
    rw [hy] at hj
    have hlt : j < ys.length := (List.getElem?_eq_some_iff.1 hy).1
    have := hc j hlt
    rw [show (⟨b, o, none⟩ : Addr).add j = ⟨b, o + j, none⟩ from WideShapes.add_plain _ _ _, this]
    simp [List.getD, hy] at hj ⊢
    exact hj
set_option maxRecDepth 100000 in
theorem cloneI_any (q : Option Addr) (c : Nat) (ys : List Int) (w : World) (hl : ys.length ≤ 20000) (hin : IIn w q ys) :
    Calls Try.prog 86 #[.slice q ys.length c] w fun e w' => ∃ q' c', e = .returned (.slice q' ys.length c') ∧ OwnI w' w.heap.size 3 q' ys.length c' ys ∧ Below w.heap.size w w' := by
  have hnil : ∀ (w : World) (a : Option Addr) (n c n' c' : Nat), (binOp .eql 90 (.slice a n c) (.slice none n' c')).run Try.prog w = .ok (.bool a.isNone) w := fun w a n c n' c' => Lib.run_eql_slice_nil w _ _ a n c n' c' Try.underlying90
  cases q with
  | none =>
    obtain rfl : ys = [] := by
      cases ys with
      | nil => rfl
      | cons a r => obtain ⟨b, o, e, _⟩ := hin (by simp); cases e
    clear hin
    go_enter Try.func86, Try.ntmps86
    go_wp2
    go_ret
    exact ⟨none, 0, by simp, OwnI.nil _ _ _, Below.refl _ _⟩
  | some ad =>
    obtain ⟨i0, hi, hz0, hz1, hz2⟩ := info_parts infoInt
    have hb0 := (Below.refl w.heap.size w).alloc (Nat.le_refl _) (.cells #[] 3)
    have hown0 : (w.alloc (.cells #[] 3)).ownsRow w.heap.size 3 1 (.slice (some ⟨w.heap.size, 0, none⟩) 0 0) 0 [] := World.ownsRow_lit w #[] 0 (Nat.le_refl _) (Nat.zero_le _) rfl
    have HR : ∃ q' c' w', (Builtin.append_ #[90, 90] 90 #[.slice (some ⟨w.heap.size, 0, none⟩) 0 0, .slice (some ad) ys.length c]).run Try.prog (w.alloc (.cells #[] 3)) = .ok (.slice q' ys.length c') w' ∧ OwnI w' w.heap.size 3 q' ys.length c' ys ∧ Below w.heap.size w w' := by
      by_cases hn : 0 < ys.length
      · obtain ⟨g, o, e, hc⟩ := (hin.below hb0) hn
        obtain rfl := Option.some.inj e
        obtain ⟨g', cap, w', hr, h2, h3, _, _⟩ := run_append_lies (P := Try.prog) _ 90 90 w.heap.size 3 i0 (.int .i64 0) 1 8 Try.underlying90 hi hz0 hz1 hz2 rfl (by decide) (.slice (some ⟨w.heap.size, 0, none⟩) 0 0) 0 [] hown0 ⟨g, o, none⟩ ys.length c (ys.map (Value.int .i64)) (by simp) (news_ints hc) (ints_oneCell .i64 ys) hn (by unfold maxLen; omega) (by omega) (by simp) _ rfl
        simp only [Nat.zero_add, List.nil_append] at hr h2
        exact ⟨_, _, w', hr, ⟨rfl, h2⟩, hb0.grown h3 (by simp) (fun k hk => by simp [Value.ownBlock] at hk; omega)⟩
      · obtain rfl : ys = [] := by cases ys with | nil => rfl | cons a r => simp at hn
        have hs : Src Try.prog i0.size 90 (.slice (some ad) 0 c) 0 [] (w.alloc (.cells #[] 3)) := Src.ofSlice _ Try.underlying90 ad 0 c [] (by simp) (fun j u h => by simp at h) (fun u h => by cases h)
        exact ⟨some ⟨w.heap.size, 0, none⟩, 0, _, run_append_nothing _ 90 90 90 3 i0 Try.underlying90 hi (some ⟨w.heap.size, 0, none⟩) 0 0 (Nat.le_refl _) _ hs, ⟨rfl, hown0⟩, hb0⟩
    obtain ⟨q', c', w', hr, ho, hb⟩ := HR
    have HO : Hid (OwnI w' w.heap.size 3 q' ys.length c' ys ∧ Below w.heap.size w w') := ⟨ho, hb⟩
    clear hin hb0 hown0 ho hb
    go_enter Try.func86, Try.ntmps86
    go_wp2_with (at_builtin; refine wpList_app_run rfl _ _ _ _ rfl _ _ _ _ _ rfl rfl hr ?_)
    go_ret
    exact ⟨_, _, rfl, HO.out.1, HO.out.2⟩

/-- What a word is as a cell. -/
def CellOut (c : Cel) (W : World) (e : Ending) (w' : World) : Prop := ∃ p m cp, e = .returned (.agg #[.int .i64 c.1, .int .i64 c.2.1, .slice p m cp]) ∧ OwnT w' W.heap.size p m cp c.2.2 ∧ Below W.heap.size W w'
set_option maxRecDepth 100000 in
theorem funCell_any (n : Int) (t : List Int) (w : World) (hx : Byte t) : Calls Try.prog 143 #[.agg #[.string (strOfNums t), .int .i64 n]] w (CellOut (3, n, t) w) := by
  obtain ⟨W0, eW0⟩ : ∃ W0, W0 = (w.alloc (.cells #[.string (strOfNums t), .int .i64 n] 131)).alloc (.cells #[.int .i64 0, .int .i64 0, .slice none 0 0] 31) := ⟨_, rfl⟩
  have hb0 : Below w.heap.size w W0 := by rw [eW0]; exact ((Below.refl _ _).alloc (Nat.le_refl _) _).alloc (by simp) _
  have hz0 : W0.heap.size = w.heap.size + 1 + 1 := by rw [eW0]; simp
  have k0 : W0.heap[w.heap.size]? = some (.cells #[.string (strOfNums t), .int .i64 n] 131) := by
    rw [eW0, Below.heap_alloc _ _ _ (by simp)]; exact heap_alloc_new _ _
  have k1 : W0.heap[w.heap.size + 1]? = some (.cells #[.int .i64 0, .int .i64 0, .slice none 0 0] 31) := by
    rw [eW0]
    have := heap_alloc_new (w.alloc (.cells #[.string (strOfNums t), .int .i64 n] 131)) (.cells #[.int .i64 0, .int .i64 0, .slice none 0 0] 31)
    simpa using this
  obtain ⟨w1, cap, hcv, hb1, ho1⟩ := conv_bytes W0 t hx 9 Try.underlying9
  have j1 := (hb1.block (w.heap.size + 1) (by omega)).trans k1
  obtain ⟨c0, c1, c2, f1⟩ := Box3.of_block j1
  have HD : Hid _ := box3_set c0 c1 c2 (.int .i64 3) (.int .i64 n) (.slice (some ⟨w.heap.size + 1 + 1, 0, none⟩) t.length cap)
  rw [hz0] at hcv ho1
  have HO : Hid (OwnT w1 (w.heap.size + 1 + 1) (some ⟨w.heap.size + 1 + 1, 0, none⟩) t.length cap t) := ho1
  have HB : Hid (Below w.heap.size w w1) := Below.on hb0 hb1
  have s0 : W0.cell? ⟨w.heap.size, 0, none⟩ = some (.string (strOfNums t)) := by simp [World.cell?, k0]
  have s1 : W0.cell? ⟨w.heap.size, 1, none⟩ = some (.int .i64 n) := by simp [World.cell?, k0]
  rw [eW0] at s0 s1 hcv
  clear hx hb0 hz0 k0 k1 hb1 ho1 j1 eW0
  go_enter Try.func143, Try.ntmps143
  go_wp2
  obtain ⟨d0, d1, d2⟩ := HD.out
  refine bodyPost_ret (v := .agg #[.int .i64 3, .int .i64 n, .slice (some ⟨w.heap.size + 1 + 1, 0, none⟩) t.length cap]) (by simp [results, Try.results143, go_sem, d0, d1, d2]) rfl ⟨_, _, _, rfl, ?_, ?_⟩
  · exact (((HO.out.setCell (a := ⟨w.heap.size + 1, 0, none⟩) (fun _ => by simp) _).setCell (a := ⟨w.heap.size + 1, 1, none⟩) (fun _ => by simp) _).setCell (a := ⟨w.heap.size + 1, 2, none⟩) (fun _ => by simp) _).mono (by omega)
  · exact ((HB.out.setCell (p := ⟨_, _, none⟩) (by simp) _).setCell (p := ⟨_, _, none⟩) (by simp) _).setCell (p := ⟨_, _, none⟩) (by simp) _
theorem CellOut.of {c : Cel} {W : World} {e : Ending} {w' : World} (h : e = .returned (.agg #[.int .i64 c.1, .int .i64 c.2.1, .slice none 0 0]) ∧ Below W.heap.size W w') (ht : c.2.2 = []) : CellOut c W e w' := ⟨none, 0, 0, h.1, by rw [ht]; exact ⟨rfl, fun h => absurd h (Nat.lt_irrefl 0)⟩, h.2⟩

/-- The store that is being filled: its box, its cells, its trail. -/
def SFill (w0 w : World) (bs : Nat) (cs : List Cel) (tr : List Int) (pt : Option Addr) (ct : Nat) : Prop :=
  ∃ pc cc, (w.cell? ⟨bs, 0, none⟩ = some (.slice pc cs.length cc) ∧ w.cell? ⟨bs, 1, none⟩ = some (.slice pt tr.length ct)) ∧ (∀ j, w.frozen? ⟨bs, j, none⟩ = false) ∧ OwnC w (bs + 1) pc cs.length cc cs ∧ OwnIU w w0.heap.size bs pt tr.length ct tr ∧ Below w0.heap.size w0 w ∧ w0.heap.size ≤ bs

end Go.Proofs.Ytfnmoaiejpkocaa

namespace Go.Proofs.Ytfnmoaiejpkocaa
open Go Go.RowKit
set_option linter.unusedVariables false

/-- What appendCells answers: the cells behind those that were there. -/
def AppOut (w : World) (B : Nat) (cs ds : List Cel) (e : Ending) (w' : World) : Prop :=
  ∃ p n c, e = .returned (.slice p n c) ∧ OwnC w' B p n c (cs ++ ds) ∧ Below B w w'

theorem news_rc {w : World} {d : Nat} {r : RC} (h : Box3 w d (.int .i64 r.1) (.int .i64 r.2.1) (.slice r.2.2.1 r.2.2.2.1 r.2.2.2.2)) : ∀ j u, (rcV r)[j]? = some u → w.cell? ((⟨d, 0, none⟩ : Addr).add j) = some u := fun j u hu => by
  have e : (⟨d, 0, none⟩ : Addr).add j = ⟨d, j, none⟩ := by unfold Addr.add; split <;> simp_all
  rw [e]
  rcases j with _ | _ | _ | j
  · simp only [rcV, List.getElem?_cons_zero, Option.some.injEq] at hu; rw [← hu]; exact h.1
  · simp only [rcV, List.getElem?_cons_succ, List.getElem?_cons_zero, Option.some.injEq] at hu; rw [← hu]; exact h.2.1
  · simp only [rcV, List.getElem?_cons_succ, List.getElem?_cons_zero, Option.some.injEq] at hu; rw [← hu]; exact h.2.2.1
  · simp [rcV] at hu

theorem appVar_any (x : Int) (p : Option Addr) (n c : Nat) (cs : List Cel) (B : Nat) (w : World) (hB : B ≤ w.heap.size) (hn : n ≤ 100000000) (ho : OwnC w B p n c cs) :
    Calls Try.prog 136 #[.int .i64 x, .slice p n c] w (AppOut w B cs [(0, x, [])]) := by
  have HO : Hid (OwnC w B p n c cs) := ho
  have hb : Below w.heap.size w (w.alloc (Obj.cells #[Value.int IntKind.i64 0, Value.int IntKind.i64 x, Value.slice none 0 0] 31)) := (Below.refl _ _).alloc (Nat.le_refl _) _
  have HB : Hid _ := hb
  have HX : Hid (Box3 (w.alloc (Obj.cells #[Value.int IntKind.i64 0, Value.int IntKind.i64 x, Value.slice none 0 0] 31)) w.heap.size (.int .i64 0) (.int .i64 x) (.slice none 0 0)) := Box3.of_block (t := 31) (heap_alloc_new _ _)
  clear ho hb
  go_enter Try.func136, Try.ntmps136
  go_wp2_with (at_builtin; refine app_cell w _ rfl _ _ rfl B p n c cs rfl HO.out HB.out hB ⟨w.heap.size, 0, none⟩ 1 rfl 0 x none 0 0 [] ⟨rfl, fun h => absurd h (Nat.lt_irrefl 0)⟩ (news_rc HX.out) (by omega) ?_; intro g n' cap w1 hown1 hb1 hn1)
  go_ret
  exact ⟨_, _, _, rfl, hown1, ((Below.refl _ _).alloc hB _).trans hb1⟩

theorem appNum_any (x : Int) (p : Option Addr) (n c : Nat) (cs : List Cel) (B : Nat) (w : World) (hB : B ≤ w.heap.size) (hn : n ≤ 100000000) (ho : OwnC w B p n c cs) :
    Calls Try.prog 137 #[.int .i64 x, .slice p n c] w (AppOut w B cs [(1, x, [])]) := by
  have HO : Hid (OwnC w B p n c cs) := ho
  have hb : Below w.heap.size w (w.alloc (Obj.cells #[Value.int IntKind.i64 1, Value.int IntKind.i64 x, Value.slice none 0 0] 31)) := (Below.refl _ _).alloc (Nat.le_refl _) _
  have HB : Hid _ := hb
  have HX : Hid (Box3 (w.alloc (Obj.cells #[Value.int IntKind.i64 1, Value.int IntKind.i64 x, Value.slice none 0 0] 31)) w.heap.size (.int .i64 1) (.int .i64 x) (.slice none 0 0)) := Box3.of_block (t := 31) (heap_alloc_new _ _)
  clear ho hb
  go_enter Try.func137, Try.ntmps137
  go_wp2_with (at_builtin; refine app_cell w _ rfl _ _ rfl B p n c cs rfl HO.out HB.out hB ⟨w.heap.size, 0, none⟩ 1 rfl 1 x none 0 0 [] ⟨rfl, fun h => absurd h (Nat.lt_irrefl 0)⟩ (news_rc HX.out) (by omega) ?_; intro g n' cap w1 hown1 hb1 hn1)
  go_ret
  exact ⟨_, _, _, rfl, hown1, ((Below.refl _ _).alloc hB _).trans hb1⟩

theorem appAtom_any (xs : List Int) (hx : Byte xs) (p : Option Addr) (n c : Nat) (cs : List Cel) (B : Nat) (w : World) (hB : B ≤ w.heap.size) (hn : n ≤ 100000000) (ho : OwnC w B p n c cs) :
    Calls Try.prog 139 #[.string (strOfNums xs), .slice p n c] w (AppOut w B cs [(2, 0, xs)]) := by
  have HO : Hid (OwnC w B p n c cs) := ho
  obtain ⟨w1, cap1, hcv, hb1, ht⟩ := conv_bytes w xs hx 122 Try.underlying122
  obtain ⟨m, em⟩ : ∃ m, m = xs.length := ⟨_, rfl⟩
  obtain ⟨str, es⟩ : ∃ str, str = strOfNums xs := ⟨_, rfl⟩
  rw [← em] at hcv ht
  rw [← es] at hcv ⊢
  have hs1 := hb1.size
  have hb : Below w1.heap.size w1 (w1.alloc (Obj.cells #[Value.int IntKind.i64 2, Value.int IntKind.i64 0, Value.slice (some ⟨w.heap.size, 0, none⟩) m cap1] 31)) := (Below.refl _ _).alloc (Nat.le_refl _) _
  have HB : Hid (Below w.heap.size w (w1.alloc (Obj.cells #[Value.int IntKind.i64 2, Value.int IntKind.i64 0, Value.slice (some ⟨w.heap.size, 0, none⟩) m cap1] 31))) := Below.on hb1 hb
  have HT : Hid (OwnT (w1.alloc (Obj.cells #[Value.int IntKind.i64 2, Value.int IntKind.i64 0, Value.slice (some ⟨w.heap.size, 0, none⟩) m cap1] 31)) w.heap.size (some ⟨w.heap.size, 0, none⟩) m cap1 xs) := ht.below hb
  have HX : Hid (Box3 (w1.alloc (Obj.cells #[Value.int IntKind.i64 2, Value.int IntKind.i64 0, Value.slice (some ⟨w.heap.size, 0, none⟩) m cap1] 31)) w1.heap.size (.int .i64 2) (.int .i64 0) (.slice (some ⟨w.heap.size, 0, none⟩) m cap1)) := Box3.of_block (t := 31) (heap_alloc_new _ _)
  have HS : Hid (Below B w (w1.alloc (Obj.cells #[Value.int IntKind.i64 2, Value.int IntKind.i64 0, Value.slice (some ⟨w.heap.size, 0, none⟩) m cap1] 31))) := HB.out.mono hB
  clear ho hb hb1 ht em es hx
  go_enter Try.func139, Try.ntmps139
  go_wp2_with (at_builtin; refine app_cell w _ rfl _ _ rfl B p n c cs rfl HO.out HB.out hB ⟨w1.heap.size, 0, none⟩ 1 rfl 2 0 (some ⟨w.heap.size, 0, none⟩) m cap1 xs HT.out (news_rc HX.out) (by omega) ?_; intro g n' cap w2 hown1 hb2 hn1)
  go_ret
  exact ⟨_, _, _, rfl, hown1, HS.out.trans hb2⟩

end Go.Proofs.Ytfnmoaiejpkocaa

