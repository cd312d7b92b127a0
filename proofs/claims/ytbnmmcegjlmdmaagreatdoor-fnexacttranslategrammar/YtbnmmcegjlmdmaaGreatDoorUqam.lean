/- Texts of NbB, NbI, GrN, GrO. Own work of the verifier. -/
import Derived.Test.YtbnmmcegjlmdmaaGreatDoorUqal
import Derived.Test.YtbnmmcegjlmdmaaGreatDoorUqad
import Derived.Test.YtbnmmcegjlmdmaaGreatDoorUqag
namespace Go.Proofs.YtbnmmcegjlmdmaaGreatDoor
open Go Go.RowKit
set_option linter.unusedVariables false
def NbRes (w : World) (r : List Cel × Int) (e : Ending) (w' : World) : Prop :=
  ∃ q m c2, e = .returned (.tuple #[.slice q m c2, .int .i64 r.2]) ∧ OwnC w' w.heap.size q m c2 r.1 ∧ Below w.heap.size w w'
theorem codeOf_fail (a : Addr) (w : World) (hg : w.cell? ⟨1, 0, none⟩ = some (efV a)) : Calls Tryz.prog 44 #[efV a] w fun e w' => e = .returned (.int .i64 4) ∧ w' = w := by
  have HI := fun W => is_same a W
  go_enter Tryz.func44, Tryz.ntmps44
  go_wp2_with (go_at_call 53; refine (HI _).mono ?_; rintro e w' ⟨rfl, rfl⟩)
  go_ret
  exact ⟨rfl, rfl⟩
theorem codeOf_limit (a a2 : Addr) (ca cb : Array Value) (ta tb : TypeId) (w : World) (hne : a2 ≠ a) (hg : w.cell? ⟨1, 0, none⟩ = some (efV a)) (ha : w.heap[a2.block]? = some (.cells ca ta (0, 0))) (hb : w.heap[a.block]? = some (.cells cb tb (0, 0))) : Calls Tryz.prog 44 #[efV a2] w fun e w' => e = .returned (.int .i64 3) ∧ w' = w := by
  have HI := is_other a2 a ca cb ta tb w hne ha hb
  clear ha hb hne
  go_enter Tryz.func44, Tryz.ntmps44
  go_wp2_with (go_at_call 53; refine HI.mono ?_; rintro e w' ⟨rfl, rfl⟩)
  go_ret
  exact ⟨rfl, rfl⟩
end Go.Proofs.YtbnmmcegjlmdmaaGreatDoor

namespace Go.Proofs.YtbnmmcegjlmdmaaGreatDoor
open Go Go.RowKit
set_option linter.unusedVariables false
structure ErrAt (w : World) (a a2 : Addr) : Prop where
  fail : w.cell? ⟨1, 0, none⟩ = some (efV a)
  beyond : w.cell? ⟨0, 0, none⟩ = some (efV a2)
  ne : a2 ≠ a
  ba : ∃ ca ta, w.heap[a.block]? = some (.cells ca ta (0, 0))
  bb : ∃ ca ta, w.heap[a2.block]? = some (.cells ca ta (0, 0))
theorem lt_of_block {w : World} {b : Nat} {o : Obj} (h : w.heap[b]? = some o) : b < w.heap.size := by
  rcases Nat.lt_or_ge b w.heap.size with h1 | h1
  · exact h1
  · rw [Array.getElem?_eq_none h1] at h; cases h
theorem ErrAt.below {w w' : World} {a a2 : Addr} (h : ErrAt w a a2) (hb : Below w.heap.size w w') : ErrAt w' a a2 := by
  obtain ⟨ca, ta, h3⟩ := h.ba
  obtain ⟨cb, tb, h4⟩ := h.bb
  exact ⟨(hb.cell (World.block_lt_of_cell? _ _ h.fail)).trans h.fail, (hb.cell (World.block_lt_of_cell? _ _ h.beyond)).trans h.beyond, h.ne, ⟨ca, ta, (hb.block _ (lt_of_block h3)).trans h3⟩, ⟨cb, tb, (hb.block _ (lt_of_block h4)).trans h4⟩⟩
theorem codeBeyond {w : World} {a a2 : Addr} (h : ErrAt w a a2) : Calls Tryz.prog 44 #[efV a2] w fun e w' => e = .returned (.int .i64 3) ∧ w' = w := by
  obtain ⟨ca, ta, h3⟩ := h.ba
  obtain ⟨cb, tb, h4⟩ := h.bb
  exact codeOf_limit a a2 cb ca tb ta w h.ne h.fail h4 h3
theorem answered_err (a a2 : Addr) (ev : Value) (v : Value) (w : World) (he : ErrAt w a a2) (b : Bool) (hev : ev = if b then efV a else efV a2) (hv : v = .nilIface ∨ ∃ t x, v = .iface t x) :
    Calls Tryz.prog 26 #[v, ev] w fun e w' => e = .returned (.tuple #[.slice none 0 0, .int .i64 (if b then 4 else 3)]) ∧ w' = w := by
  cases b with
  | true =>
    simp only [if_true] at hev ⊢
    subst hev
    have HC := codeOf_fail a w he.fail
    clear he
    rcases hv with rfl | ⟨t, x, rfl⟩
    all_goals
      go_enter Tryz.func26, Tryz.ntmps26
      go_wp2_with fail
      refine HC.mono ?_
      rintro e w' ⟨rfl, rfl⟩
      go_wp2_with fail
      go_ret2
      exact ⟨rfl, rfl⟩
  | false =>
    simp only [Bool.false_eq_true, if_false] at hev ⊢
    subst hev
    have HC := codeBeyond he
    clear he
    rcases hv with rfl | ⟨t, x, rfl⟩
    all_goals
      go_enter Tryz.func26, Tryz.ntmps26
      go_wp2_with fail
      refine HC.mono ?_
      rintro e w' ⟨rfl, rfl⟩
      go_wp2_with fail
      go_ret2
      exact ⟨rfl, rfl⟩
theorem NbRes.on {w w1 : World} {r : List Cel × Int} {e : Ending} {w' : World} (h : NbRes w1 r e w') (hb : Below w.heap.size w w1) : NbRes w r e w' := by
  obtain ⟨q, m, c2, h1, h2, h3⟩ := h
  exact ⟨q, m, c2, h1, h2.mono hb.size, Below.on hb h3⟩
end Go.Proofs.YtbnmmcegjlmdmaaGreatDoor

namespace Go.Proofs.YtbnmmcegjlmdmaaGreatDoor
open Go Go.RowKit Go.Maps Go.Shelf
set_option linter.unusedVariables false
set_option linter.unusedSimpArgs false
abbrev ptrV (b : Nat) : Value := .pointer (some ⟨b, 0, none⟩)
theorem newG2_any (s : ByteArray) (gp : Nat) (w : World) : Calls Tryz.prog 55 #[.string s, ptrV gp] w fun e w' => e = .returned (.func (.func 56) #[] #[ptrV gp, ptrV w.heap.size]) ∧ w' = w.alloc (.cells #[.string s] 9) := by
  go_enter Tryz.func55, Tryz.ntmps55
  go_wp2_with fail
  go_ret
  exact ⟨rfl, rfl⟩
noncomputable def gOps : Array Oper := match Tryz.f46.body with
  | some (.seq _ (.seq _ (.seq _ (.seq (.region _ ops _) _)))) => ops
  | _ => #[]
def gKey : Nat → Fun
  | 0 => (⟨#[44]⟩, 2)
  | 1 => (⟨#[45, 62]⟩, 2)
  | 2 => (⟨#[59]⟩, 2)
  | 3 => (⟨#[92, 43]⟩, 1)
  | 4 => (⟨#[33]⟩, 0)
  | 5 => (⟨#[123, 125]⟩, 1)
  | _ => (⟨#[]⟩, 0)
def gKeyV (j : Nat) : Value := .agg #[.string (gKey j).1, .int .i64 (gKey j).2]
def gIns : Nat → Nat
  | 0 => 5
  | 1 => 9
  | 2 => 12
  | 3 => 15
  | 4 => 17
  | 5 => 19
  | _ => 99
def gVal (gp s1 s2 : Nat) : Nat → Value
  | 0 => .func (.func 56) #[] #[ptrV gp, ptrV s1]
  | 1 => .func (.func 56) #[] #[ptrV gp, ptrV s2]
  | 2 => .func (.func 59) #[] #[ptrV gp]
  | 3 => .func (.func 60) #[] #[ptrV gp]
  | 4 => .func (.func 62) #[] #[]
  | 5 => .func (.func 63) #[] #[]
  | _ => .nilFunc
theorem gKey_inj : ∀ i, i < 6 → ∀ j, j < 6 → gKey i = gKey j → i = j := by
  intro i hi j hj e
  have h : ∀ i, i < 6 → ∀ j, j < 6 → ((gKey i).1.data.toList, (gKey i).2) = ((gKey j).1.data.toList, (gKey j).2) → i = j := by decide
  exact h i hi j hj (by rw [e])
theorem gKey_ok : ∀ j, j < 6 → okN (gKey j)
  | 0, _ => ⟨by decide, by decide⟩
  | 1, _ => ⟨by decide, by decide⟩
  | 2, _ => ⟨by decide, by decide⟩
  | 3, _ => ⟨by decide, by decide⟩
  | 4, _ => ⟨by decide, by decide⟩
  | 5, _ => ⟨by decide, by decide⟩
  | j + 6, h => by omega
def insG (gp s1 s2 : Nat) (l : Nat → Bool) (f : Fun) : Option Value := ((List.range 6).find? fun j => decide (gKey j = f) && l (gIns j)).map (gVal gp s1 s2)
def ruTab (gp s1 s2 : Nat) (f : Fun) : Option Value := ((List.range 6).find? fun j => decide (gKey j = f)).map (gVal gp s1 s2)
theorem insG_none {gp s1 s2 : Nat} {l : Nat → Bool} (h : ∀ j, j < 6 → l (gIns j) = false) : insG gp s1 s2 l = fun _ => none := by
  funext f
  unfold insG
  rw [List.find?_eq_none.2 (fun j hj => by simp [h j (List.mem_range.1 hj)])]
  rfl
theorem find_cong {α : Type} {p q : α → Bool} : ∀ l : List α, (∀ j ∈ l, p j = q j) → l.find? p = l.find? q
  | [], _ => rfl
  | a :: r, h => by
    rw [List.find?_cons, List.find?_cons, h a (by simp), find_cong r (fun j hj => h j (by simp [hj]))]
theorem insG_all {gp s1 s2 : Nat} {l : Nat → Bool} (h : ∀ j, j < 6 → l (gIns j) = true) : insG gp s1 s2 l = ruTab gp s1 s2 := by
  funext f
  unfold insG ruTab
  rw [find_cong _ (fun j hj => by rw [h j (List.mem_range.1 hj), Bool.and_true])]
theorem insG_same {gp s1 s2 : Nat} {l l' : Nat → Bool} (h : ∀ j, j < 6 → l' (gIns j) = l (gIns j)) : insG gp s1 s2 l' = insG gp s1 s2 l := by
  funext f
  unfold insG
  rw [find_cong _ (fun j hj => by rw [h j (List.mem_range.1 hj)])]
theorem insG_val {gp s1 s2 t1 t2 : Nat} {l : Nat → Bool} (h : ∀ j, j < 6 → l (gIns j) = true → gVal gp s1 s2 j = gVal gp t1 t2 j) : insG gp s1 s2 l = insG gp t1 t2 l := by
  funext f
  unfold insG
  cases e : (List.range 6).find? fun j => decide (gKey j = f) && l (gIns j) with
  | none => rfl
  | some j =>
    have h1 := List.find?_some e
    have h2 := List.mem_of_find?_eq_some e
    simp only [Bool.and_eq_true] at h1
    show some _ = some _
    rw [h j (List.mem_range.1 h2) h1.2]
theorem gIns_inj : ∀ i, i < 6 → ∀ j, j < 6 → gIns i = gIns j → i = j := by decide
theorem insG_put {gp s1 s2 : Nat} {l l' : Nat → Bool} {j : Nat} (hj : j < 6) (hl : ∀ x, l' x = (decide (x = gIns j) || l x)) : insG gp s1 s2 l' = fun f => if f = gKey j then some (gVal gp s1 s2 j) else insG gp s1 s2 l f := by
  funext f
  by_cases e : f = gKey j
  · subst e
    rw [if_pos rfl]
    have : ((List.range 6).find? fun i => decide (gKey i = gKey j) && l' (gIns i)) = some j := by
      rw [List.find?_eq_some_iff_getElem]
      refine ⟨?_, j, by simpa using hj, by simp, fun i hi => ?_⟩
      · simp [hl]
      · have hne : gKey i ≠ gKey j := fun e => by have := gKey_inj i (by omega) j hj e; omega
        simp [hne]
    unfold insG
    rw [this]
    rfl
  · rw [if_neg e]
    unfold insG
    rw [find_cong (q := fun i => decide (gKey i = f) && l (gIns i)) _ (fun i hi => ?_)]
    by_cases h1 : gKey i = f
    · have hne : i ≠ j := fun e' => e (by rw [← h1, e'])
      have hne2 : gIns i ≠ gIns j := fun e' => hne (gIns_inj i (List.mem_range.1 hi) j hj e')
      rw [hl]; simp [hne2]
    · simp [h1]
def gT (i : Nat) : Nat := [9, 10, 11, 12, 13, 0, 14, 15, 16, 0, 17, 18, 0, 19, 20, 0, 21, 0, 22, 0, 23, 24, 25, 0].getD i 0
def gV (gp gb s1 s2 b : Nat) : Nat → Option Value
  | 0 => some (ptrV gb)
  | 1 => some (.map (some b))
  | 2 => some (gKeyV 0)
  | 6 => some (gKeyV 1)
  | 10 => some (gKeyV 2)
  | 13 => some (gKeyV 3)
  | 16 => some (gKeyV 4)
  | 18 => some (gKeyV 5)
  | 3 => some (.func (.func 55) #[] #[ptrV gp])
  | 7 => some (.func (.func 55) #[] #[ptrV gp])
  | 4 => some (gVal gp s1 s2 0)
  | 8 => some (gVal gp s1 s2 1)
  | 11 => some (gVal gp s1 s2 2)
  | 14 => some (gVal gp s1 s2 3)
  | 20 => some (.map (some b))
  | 21 => some (ptrV gb)
  | 22 => some (.pointer (some ⟨gb, 1, none⟩))
  | _ => none
theorem gV_lt {gp gb s1 s2 b i : Nat} {v : Value} (h : gV gp gb s1 s2 b i = some v) : i < 24 ∧ 9 ≤ gT i ∧ gT i < 27 := by
  unfold gV at h
  split at h <;> first | exact (by decide) | cases h
theorem gT_inj : ∀ i, i < 24 → ∀ j, j < 24 → 9 ≤ gT i → gT i = gT j → i = j := by decide
structure GW (w0 : World) (gp gb s1 s2 b : Nat) (l : Nat → Bool) (u : Nat) (w : World) : Prop where
  fr : w0.grownBy w (some gb)
  str1 : l 4 = true → w0.heap.size ≤ s1 ∧ w.cell? ⟨s1, 0, none⟩ = some (.string ⟨#[44]⟩)
  str2 : l 8 = true → w0.heap.size ≤ s2 ∧ w.cell? ⟨s2, 0, none⟩ = some (.string ⟨#[45, 62]⟩)
  tab : l 1 = true → w0.heap.size ≤ b ∧ ∃ N, N + u ≤ 24 ∧ RuIn w b N (insG gp s1 s2 l)
  d1 : ∀ j, j < 6 → l (gIns j) = true → l 1 = true
  d4 : l 5 = true → l 4 = true
  d8 : l 9 = true → l 8 = true
  d20 : l 20 = true → l 1 = true ∧ l 4 = true ∧ l 8 = true ∧ ∀ j, j < 6 → l (gIns j) = true
  fin : l 23 = true → w.cell? ⟨gb, 1, none⟩ = some (.map (some b)) ∧ l 20 = true
  oth : ∀ o, o ≠ 1 → w.cell? ⟨gb, o, none⟩ = w0.cell? ⟨gb, o, none⟩
  one : (w.cell? ⟨gb, 1, none⟩).isSome = true
  frz : ∀ o, w.frozen? ⟨gb, o, none⟩ = false
structure GI (w0 : World) (gp gb s1 s2 b : Nat) (L : Array Bool) (a : Act) (w : World) : Prop where
  lsz : L.size = 24
  tsz : a.tmps.size = 27
  dfs : a.defers = []
  t3 : a.tmps[3]? = some (ptrV gp)
  t4 : a.tmps[4]? = some (.func (.func 55) #[] #[ptrV gp])
  val : ∀ i v, gV gp gb s1 s2 b i = some v → L.getD i false = true → a.tmps[gT i]? = some v
  gw : GW w0 gp gb s1 s2 b (fun x => L.getD x false) (unl L) w
theorem set_l {L : Array Bool} {i : Nat} (h : i < L.size) : (fun x => (L.setIfInBounds i true).getD x false) = fun x => decide (x = i) || L.getD x false := by
  funext x
  by_cases e : x = i
  · subst e; rw [set_self h]; simp
  · rw [getD_set_ne false (fun h => e h.symm)]; simp [e]
theorem GI.put {w0 : World} {gp gb s1 s2 b t1 t2 b' : Nat} {L : Array Bool} {a : Act} {w w' : World} (I : GI w0 gp gb s1 s2 b L a w) {i : Nat} {v : Value} (hv : gV gp gb t1 t2 b' i = some v) (hn : L.getD i true = false)
    (hsame : ∀ k, k ≠ i → L.getD k false = true → gV gp gb t1 t2 b' k = gV gp gb s1 s2 b k)
    (hw : GW w0 gp gb t1 t2 b' (fun x => decide (x = i) || L.getD x false) (unl L - 1) w') : GI w0 gp gb t1 t2 b' (L.setIfInBounds i true) (a.put (some (gT i)) v) w' := by
  obtain ⟨hi, h9, h27⟩ := gV_lt hv
  have hu := unl_set hn
  refine ⟨by simpa using I.lsz, by rw [put_size]; exact I.tsz, by rw [put_defs]; exact I.dfs, by rw [put_other (by omega)]; exact I.t3, by rw [put_other (by omega)]; exact I.t4, fun k u hk hl => ?_, ?_⟩
  · obtain ⟨hk24, hk9, _⟩ := gV_lt hk
    by_cases e : k = i
    · subst e
      rw [hv] at hk
      cases hk
      exact put_same (by rw [I.tsz]; exact h27)
    · have hl' := set_at hl (fun h => e h.symm)
      rw [hsame k e hl'] at hk
      rw [put_other (fun h => e (gT_inj k hk24 i hi hk9 h.symm))]
      exact I.val k u hk hl'
  · rw [set_l (by rw [I.lsz]; exact hi), show unl (L.setIfInBounds i true) = unl L - 1 from by omega]
    exact hw
theorem GI.none {w0 : World} {gp gb s1 s2 b : Nat} {L : Array Bool} {a : Act} {w w' : World} (I : GI w0 gp gb s1 s2 b L a w) {i : Nat} (hi : i < 24) (hn : L.getD i true = false) (hv : gV gp gb s1 s2 b i = .none)
    (hw : GW w0 gp gb s1 s2 b (fun x => decide (x = i) || L.getD x false) (unl L - 1) w') : GI w0 gp gb s1 s2 b (L.setIfInBounds i true) a w' := by
  have hu := unl_set hn
  refine ⟨by simpa using I.lsz, I.tsz, I.dfs, I.t3, I.t4, fun k u hk hl => ?_, ?_⟩
  · have e : k ≠ i := fun e => by subst e; rw [hv] at hk; cases hk
    exact I.val k u hk (set_at hl (fun h => e h.symm))
  · rw [set_l (by rw [I.lsz]; exact hi), show unl (L.setIfInBounds i true) = unl L - 1 from by omega]
    exact hw
theorem GW.keep {w0 : World} {gp gb s1 s2 b : Nat} {l : Nat → Bool} {u : Nat} {w : World} (G : GW w0 gp gb s1 s2 b l u w) (i : Nat) (h : i ≠ 1 ∧ i ≠ 4 ∧ i ≠ 8 ∧ i ≠ 20 ∧ i ≠ 23 ∧ i ≠ 5 ∧ i ≠ 9 ∧ ∀ j, j < 6 → gIns j ≠ i) : GW w0 gp gb s1 s2 b (fun x => decide (x = i) || l x) (u - 1) w := by
  obtain ⟨h1, h4, h8, h20, h23, h5, h9, hI⟩ := h
  have e : ∀ k, k ≠ i → (decide (k = i) || l k) = l k := fun k hk => by simp [hk]
  refine ⟨G.fr, fun h => ?_, fun h => ?_, fun h => ?_, fun j hj h => ?_, fun h => ?_, fun h => ?_, fun h => ?_, fun h => ?_, G.oth, G.one, G.frz⟩
  · exact G.str1 ((e 4 h4.symm).symm.trans h)
  · exact G.str2 ((e 8 h8.symm).symm.trans h)
  · obtain ⟨h2, N, h3, h6⟩ := G.tab ((e 1 h1.symm).symm.trans h)
    exact ⟨h2, N, by omega, by rw [insG_same (fun j hj => e _ (hI j hj))]; exact h6⟩
  · exact (e 1 h1.symm).trans (G.d1 j hj ((e _ (hI j hj)).symm.trans h))
  · exact (e 4 h4.symm).trans (G.d4 ((e 5 h5.symm).symm.trans h))
  · exact (e 8 h8.symm).trans (G.d8 ((e 9 h9.symm).symm.trans h))
  · obtain ⟨a1, a2, a3, a4⟩ := G.d20 ((e 20 h20.symm).symm.trans h)
    exact ⟨(e 1 h1.symm).trans a1, (e 4 h4.symm).trans a2, (e 8 h8.symm).trans a3, fun j hj => (e _ (hI j hj)).trans (a4 j hj)⟩
  · exact ⟨(G.fin ((e 23 h23.symm).symm.trans h)).1, (e 20 h20.symm).trans (G.fin ((e 23 h23.symm).symm.trans h)).2⟩
theorem gop0 : ∃ o, gOps[0]? = some o ∧ o.guard = none ∧ o.dst = some 9 ∧ o.op = .load 82 (.tmp 3) ∧ (([] : List Nat).all fun i => o.after.toList.any fun e => (e.on == i) && Region.binds .any e) = true := ⟨_, rfl, rfl, rfl, rfl, by kernel_rfl⟩
theorem gop1 : ∃ o, gOps[1]? = some o ∧ o.guard = none ∧ o.dst = some 10 ∧ o.op = .makeMap 88 none ∧ (([] : List Nat).all fun i => o.after.toList.any fun e => (e.on == i) && Region.binds .any e) = true := ⟨_, rfl, rfl, rfl, rfl, by kernel_rfl⟩
theorem gop2 : ∃ o, gOps[2]? = some o ∧ o.guard = none ∧ o.dst = some 11 ∧ o.op = .build 52 #[(0, .const (.string ⟨#[44]⟩)), (1, .const (.int .i64 2))] ∧ (([] : List Nat).all fun i => o.after.toList.any fun e => (e.on == i) && Region.binds .any e) = true := ⟨_, rfl, rfl, rfl, rfl, by kernel_rfl⟩
theorem gop3 : ∃ o, gOps[3]? = some o ∧ o.guard = none ∧ o.dst = some 12 ∧ o.op = .move (.tmp 4) ∧ (([] : List Nat).all fun i => o.after.toList.any fun e => (e.on == i) && Region.binds .any e) = true := ⟨_, rfl, rfl, rfl, rfl, by kernel_rfl⟩
theorem gop4 : ∃ o, gOps[4]? = some o ∧ o.guard = none ∧ o.dst = some 13 ∧ o.op = .call { callee := .value (.tmp 12), args := #[.const (.string ⟨#[44]⟩)], argTypes := #[9] } ∧ (([3] : List Nat).all fun i => o.after.toList.any fun e => (e.on == i) && Region.binds .any e) = true := ⟨_, rfl, rfl, rfl, rfl, by kernel_rfl⟩
theorem gop5 : ∃ o, gOps[5]? = some o ∧ o.guard = none ∧ o.dst = none ∧ o.op = .insert 88 (.tmp 10) (.tmp 11) (.tmp 13) ∧ (([1, 2, 4] : List Nat).all fun i => o.after.toList.any fun e => (e.on == i) && Region.binds .any e) = true := ⟨_, rfl, rfl, rfl, rfl, by kernel_rfl⟩
theorem gop6 : ∃ o, gOps[6]? = some o ∧ o.guard = none ∧ o.dst = some 14 ∧ o.op = .build 52 #[(0, .const (.string ⟨#[45, 62]⟩)), (1, .const (.int .i64 2))] ∧ (([] : List Nat).all fun i => o.after.toList.any fun e => (e.on == i) && Region.binds .any e) = true := ⟨_, rfl, rfl, rfl, rfl, by kernel_rfl⟩
theorem gop7 : ∃ o, gOps[7]? = some o ∧ o.guard = none ∧ o.dst = some 15 ∧ o.op = .move (.tmp 4) ∧ (([] : List Nat).all fun i => o.after.toList.any fun e => (e.on == i) && Region.binds .any e) = true := ⟨_, rfl, rfl, rfl, rfl, by kernel_rfl⟩
theorem gop8 : ∃ o, gOps[8]? = some o ∧ o.guard = none ∧ o.dst = some 16 ∧ o.op = .call { callee := .value (.tmp 15), args := #[.const (.string ⟨#[45, 62]⟩)], argTypes := #[9] } ∧ (([7] : List Nat).all fun i => o.after.toList.any fun e => (e.on == i) && Region.binds .any e) = true := ⟨_, rfl, rfl, rfl, rfl, by kernel_rfl⟩
theorem gop9 : ∃ o, gOps[9]? = some o ∧ o.guard = none ∧ o.dst = none ∧ o.op = .insert 88 (.tmp 10) (.tmp 14) (.tmp 16) ∧ (([1, 6, 8] : List Nat).all fun i => o.after.toList.any fun e => (e.on == i) && Region.binds .any e) = true := ⟨_, rfl, rfl, rfl, rfl, by kernel_rfl⟩
theorem gop10 : ∃ o, gOps[10]? = some o ∧ o.guard = none ∧ o.dst = some 17 ∧ o.op = .build 52 #[(0, .const (.string ⟨#[59]⟩)), (1, .const (.int .i64 2))] ∧ (([] : List Nat).all fun i => o.after.toList.any fun e => (e.on == i) && Region.binds .any e) = true := ⟨_, rfl, rfl, rfl, rfl, by kernel_rfl⟩
theorem gop11 : ∃ o, gOps[11]? = some o ∧ o.guard = none ∧ o.dst = some 18 ∧ o.op = .makeFunc (.func 59) #[] #[.tmp 3] ∧ (([] : List Nat).all fun i => o.after.toList.any fun e => (e.on == i) && Region.binds .any e) = true := ⟨_, rfl, rfl, rfl, rfl, by kernel_rfl⟩
theorem gop12 : ∃ o, gOps[12]? = some o ∧ o.guard = none ∧ o.dst = none ∧ o.op = .insert 88 (.tmp 10) (.tmp 17) (.tmp 18) ∧ (([1, 10, 11] : List Nat).all fun i => o.after.toList.any fun e => (e.on == i) && Region.binds .any e) = true := ⟨_, rfl, rfl, rfl, rfl, by kernel_rfl⟩
theorem gop13 : ∃ o, gOps[13]? = some o ∧ o.guard = none ∧ o.dst = some 19 ∧ o.op = .build 52 #[(0, .const (.string ⟨#[92, 43]⟩)), (1, .const (.int .i64 1))] ∧ (([] : List Nat).all fun i => o.after.toList.any fun e => (e.on == i) && Region.binds .any e) = true := ⟨_, rfl, rfl, rfl, rfl, by kernel_rfl⟩
theorem gop14 : ∃ o, gOps[14]? = some o ∧ o.guard = none ∧ o.dst = some 20 ∧ o.op = .makeFunc (.func 60) #[] #[.tmp 3] ∧ (([] : List Nat).all fun i => o.after.toList.any fun e => (e.on == i) && Region.binds .any e) = true := ⟨_, rfl, rfl, rfl, rfl, by kernel_rfl⟩
theorem gop15 : ∃ o, gOps[15]? = some o ∧ o.guard = none ∧ o.dst = none ∧ o.op = .insert 88 (.tmp 10) (.tmp 19) (.tmp 20) ∧ (([1, 13, 14] : List Nat).all fun i => o.after.toList.any fun e => (e.on == i) && Region.binds .any e) = true := ⟨_, rfl, rfl, rfl, rfl, by kernel_rfl⟩
theorem gop16 : ∃ o, gOps[16]? = some o ∧ o.guard = none ∧ o.dst = some 21 ∧ o.op = .build 52 #[(0, .const (.string ⟨#[33]⟩)), (1, .const (.int .i64 0))] ∧ (([] : List Nat).all fun i => o.after.toList.any fun e => (e.on == i) && Region.binds .any e) = true := ⟨_, rfl, rfl, rfl, rfl, by kernel_rfl⟩
theorem gop17 : ∃ o, gOps[17]? = some o ∧ o.guard = none ∧ o.dst = none ∧ o.op = .insert 88 (.tmp 10) (.tmp 21) (.func 62) ∧ (([1, 16] : List Nat).all fun i => o.after.toList.any fun e => (e.on == i) && Region.binds .any e) = true := ⟨_, rfl, rfl, rfl, rfl, by kernel_rfl⟩
theorem gop18 : ∃ o, gOps[18]? = some o ∧ o.guard = none ∧ o.dst = some 22 ∧ o.op = .build 52 #[(0, .const (.string ⟨#[123, 125]⟩)), (1, .const (.int .i64 1))] ∧ (([] : List Nat).all fun i => o.after.toList.any fun e => (e.on == i) && Region.binds .any e) = true := ⟨_, rfl, rfl, rfl, rfl, by kernel_rfl⟩
theorem gop19 : ∃ o, gOps[19]? = some o ∧ o.guard = none ∧ o.dst = none ∧ o.op = .insert 88 (.tmp 10) (.tmp 22) (.func 63) ∧ (([1, 18] : List Nat).all fun i => o.after.toList.any fun e => (e.on == i) && Region.binds .any e) = true := ⟨_, rfl, rfl, rfl, rfl, by kernel_rfl⟩
theorem gop20 : ∃ o, gOps[20]? = some o ∧ o.guard = none ∧ o.dst = some 23 ∧ o.op = .move (.tmp 10) ∧ (([1, 2, 3, 4, 5, 6, 7, 8, 9, 10, 11, 12, 13, 14, 15, 16, 17, 18, 19] : List Nat).all fun i => o.after.toList.any fun e => (e.on == i) && Region.binds .any e) = true := ⟨_, rfl, rfl, rfl, rfl, by kernel_rfl⟩
theorem gop21 : ∃ o, gOps[21]? = some o ∧ o.guard = none ∧ o.dst = some 24 ∧ o.op = .nilCheck (.tmp 9) ∧ (([0] : List Nat).all fun i => o.after.toList.any fun e => (e.on == i) && Region.binds .any e) = true := ⟨_, rfl, rfl, rfl, rfl, by kernel_rfl⟩
theorem gop22 : ∃ o, gOps[22]? = some o ∧ o.guard = none ∧ o.dst = some 25 ∧ o.op = .fieldAddr 90 (.tmp 24) 1 ∧ (([21] : List Nat).all fun i => o.after.toList.any fun e => (e.on == i) && Region.binds .any e) = true := ⟨_, rfl, rfl, rfl, rfl, by kernel_rfl⟩
theorem gop23 : ∃ o, gOps[23]? = some o ∧ o.guard = none ∧ o.dst = none ∧ o.op = .store 88 (.tmp 25) (.tmp 23) ∧ (([22, 20] : List Nat).all fun i => o.after.toList.any fun e => (e.on == i) && Region.binds .any e) = true := ⟨_, rfl, rfl, rfl, rfl, by kernel_rfl⟩
theorem gsize_ops : gOps.size = 24 := rfl
theorem gback_only : ((List.range 24).all fun i => (gOps[i]?).all fun o => o.after.toList.all fun e => decide (e.on < i)) = true := by kernel_rfl
end Go.Proofs.YtbnmmcegjlmdmaaGreatDoor

namespace Go.Proofs.YtbnmmcegjlmdmaaGreatDoor
open Go Go.RowKit Go.Maps Go.Shelf
set_option linter.unusedVariables false
set_option linter.unusedSimpArgs false
theorem RuIn.nocell {w : World} {b N : Nat} {T : Fun → Option Value} (h : RuIn w b N T) (o : Nat) : w.cell? ⟨b, o, none⟩ = none := by
  obtain ⟨D, ⟨es, clock, h1, r⟩, h2⟩ := h
  simp [World.cell?, h1]
theorem gV_b {gp gb s1 s2 b b' : Nat} : ∀ k, k ≠ 1 → k ≠ 20 → gV gp gb s1 s2 b' k = gV gp gb s1 s2 b k
  | 0, h1, h20 => rfl
  | 1, h1, h20 => absurd rfl h1
  | 2, h1, h20 => rfl
  | 3, h1, h20 => rfl
  | 4, h1, h20 => rfl
  | 5, h1, h20 => rfl
  | 6, h1, h20 => rfl
  | 7, h1, h20 => rfl
  | 8, h1, h20 => rfl
  | 9, h1, h20 => rfl
  | 10, h1, h20 => rfl
  | 11, h1, h20 => rfl
  | 12, h1, h20 => rfl
  | 13, h1, h20 => rfl
  | 14, h1, h20 => rfl
  | 15, h1, h20 => rfl
  | 16, h1, h20 => rfl
  | 17, h1, h20 => rfl
  | 18, h1, h20 => rfl
  | 19, h1, h20 => rfl
  | 20, h1, h20 => absurd rfl h20
  | 21, h1, h20 => rfl
  | 22, h1, h20 => rfl
  | 23, h1, h20 => rfl
  | k + 24, _, _ => rfl
theorem gV_s1 {gp gb s1 t1 s2 b : Nat} : ∀ k, k ≠ 4 → gV gp gb t1 s2 b k = gV gp gb s1 s2 b k
  | 0, h => rfl
  | 1, h => rfl
  | 2, h => rfl
  | 3, h => rfl
  | 4, h => absurd rfl h
  | 5, h => rfl
  | 6, h => rfl
  | 7, h => rfl
  | 8, h => rfl
  | 9, h => rfl
  | 10, h => rfl
  | 11, h => rfl
  | 12, h => rfl
  | 13, h => rfl
  | 14, h => rfl
  | 15, h => rfl
  | 16, h => rfl
  | 17, h => rfl
  | 18, h => rfl
  | 19, h => rfl
  | 20, h => rfl
  | 21, h => rfl
  | 22, h => rfl
  | 23, h => rfl
  | k + 24, _ => rfl
theorem gV_s2 {gp gb s1 s2 t2 b : Nat} : ∀ k, k ≠ 8 → gV gp gb s1 t2 b k = gV gp gb s1 s2 b k
  | 0, h => rfl
  | 1, h => rfl
  | 2, h => rfl
  | 3, h => rfl
  | 4, h => rfl
  | 5, h => rfl
  | 6, h => rfl
  | 7, h => rfl
  | 8, h => absurd rfl h
  | 9, h => rfl
  | 10, h => rfl
  | 11, h => rfl
  | 12, h => rfl
  | 13, h => rfl
  | 14, h => rfl
  | 15, h => rfl
  | 16, h => rfl
  | 17, h => rfl
  | 18, h => rfl
  | 19, h => rfl
  | 20, h => rfl
  | 21, h => rfl
  | 22, h => rfl
  | 23, h => rfl
  | k + 24, _ => rfl
theorem gVal_s1 {gp s1 t1 s2 : Nat} : ∀ j, j < 6 → j ≠ 0 → gVal gp t1 s2 j = gVal gp s1 s2 j
  | 0, _, h => absurd rfl h
  | 1, _, _ => rfl
  | 2, _, _ => rfl
  | 3, _, _ => rfl
  | 4, _, _ => rfl
  | 5, _, _ => rfl
  | j + 6, h, _ => by omega
theorem gVal_s2 {gp s1 s2 t2 : Nat} : ∀ j, j < 6 → j ≠ 1 → gVal gp s1 t2 j = gVal gp s1 s2 j
  | 0, _, _ => rfl
  | 1, _, h => absurd rfl h
  | 2, _, _ => rfl
  | 3, _, _ => rfl
  | 4, _, _ => rfl
  | 5, _, _ => rfl
  | j + 6, h, _ => by omega
section
variable {w0 : World} {gp gb s1 s2 b : Nat} {l : Nat → Bool} {u : Nat} {w : World}
theorem GW.below (G : GW w0 gp gb s1 s2 b l u w) (hgb : gb < w0.heap.size) {w' : World} (hb : Below w.heap.size w w') : GW w0 gp gb s1 s2 b l u w' := by
  have hlt : gb < w.heap.size := Nat.lt_of_lt_of_le hgb G.fr.size
  have hc : ∀ p v, w.cell? p = some v → w'.cell? p = some v := fun p v h => (hb.cell (World.block_lt_of_cell? _ _ h)).trans h
  have hg : w.grownBy w' (some gb) := ⟨hb.os, hb.tape, hb.output, hb.size, fun k hk _ => hb.block k hk⟩
  refine ⟨G.fr.trans hg, fun h => ⟨(G.str1 h).1, hc _ _ (G.str1 h).2⟩, fun h => ⟨(G.str2 h).1, hc _ _ (G.str2 h).2⟩, fun h => ?_, G.d1, G.d4, G.d8, G.d20, fun h => ⟨hc _ _ (G.fin h).1, (G.fin h).2⟩, fun o ho => (hb.cell (p := ⟨gb, o, none⟩) hlt).trans (G.oth o ho), ?_, fun o => (hb.frozen (p := ⟨gb, o, none⟩) hlt).trans (G.frz o)⟩
  · obtain ⟨h1, N, h2, h3⟩ := G.tab h
    exact ⟨h1, N, h2, h3.below hb⟩
  · rw [hb.cell (p := ⟨gb, 1, none⟩) hlt]; exact G.one
theorem GW.mk1 (G : GW w0 gp gb s1 s2 b l u w) (hl : l 1 = false) {b' : Nat} (hb : w0.heap.size ≤ b') (hr : RuIn w b' 0 (fun _ => none)) (hu : u ≤ 24) : GW w0 gp gb s1 s2 b' (fun x => decide (x = 1) || l x) (u - 1) w := by
  have hno : ∀ j, j < 6 → l (gIns j) = false := fun j hj => by
    cases h : l (gIns j) with
    | false => rfl
    | true => have := G.d1 j hj h; rw [hl] at this; cases this
  have h20 : l 20 = false := by
    cases h : l 20 with
    | false => rfl
    | true => have := (G.d20 h).1; rw [hl] at this; cases this
  have hI1 : ∀ j, j < 6 → gIns j ≠ 1 := by decide
  refine ⟨G.fr, fun h => G.str1 (by simpa using h), fun h => G.str2 (by simpa using h), fun _ => ⟨hb, 0, by omega, ?_⟩, fun j hj h => by simp, fun h => ?_, fun h => ?_, fun h => ?_, fun h => ?_, G.oth, G.one, G.frz⟩
  · rw [insG_none (fun j hj => by simp [hno j hj, hI1 j hj])]; exact hr
  · have := G.d4 (by simpa using h); simpa using this
  · have := G.d8 (by simpa using h); simpa using this
  · have : l 20 = true := by simpa using h
    rw [h20] at this; cases this
  · have := (G.fin (by simpa using h)).2
    rw [h20] at this; cases this
theorem GW.mk4 (G : GW w0 gp gb s1 s2 b l u w) (hl : l 4 = false) {t1 : Nat} (hs : w0.heap.size ≤ t1) (hc : w.cell? ⟨t1, 0, none⟩ = some (.string ⟨#[44]⟩)) : GW w0 gp gb t1 s2 b (fun x => decide (x = 4) || l x) (u - 1) w := by
  have h5 : l 5 = false := by
    cases h : l 5 with
    | false => rfl
    | true => have := G.d4 h; rw [hl] at this; cases this
  have h20 : l 20 = false := by
    cases h : l 20 with
    | false => rfl
    | true => have := (G.d20 h).2.1; rw [hl] at this; cases this
  have hI : ∀ j, j < 6 → gIns j ≠ 4 := by decide
  refine ⟨G.fr, fun h => ?_, fun h => ?_, fun h => ?_, fun j hj h => ?_, fun h => ?_, fun h => ?_, fun h => ?_, fun h => ?_, G.oth, G.one, G.frz⟩
  · exact ⟨hs, hc⟩
  · exact G.str2 (by simpa using h)
  · obtain ⟨h1, N, h2, h3⟩ := G.tab (by simpa using h)
    refine ⟨h1, N, by omega, ?_⟩
    rw [insG_same (l := l) (fun j hj => by simp [hI j hj]), insG_val (t1 := s1) (t2 := s2) (fun j hj hlj => gVal_s1 j hj (fun e => by subst e; rw [show gIns 0 = 5 from rfl, h5] at hlj; cases hlj))]
    exact h3
  · have := G.d1 j hj (by simpa [hI j hj] using h); simpa using this
  · simp
  · have := G.d8 (by simpa using h); simpa using this
  · have : l 20 = true := by simpa using h
    rw [h20] at this; cases this
  · have := (G.fin (by simpa using h)).2
    rw [h20] at this; cases this
theorem GW.mk8 (G : GW w0 gp gb s1 s2 b l u w) (hl : l 8 = false) {t2 : Nat} (hs : w0.heap.size ≤ t2) (hc : w.cell? ⟨t2, 0, none⟩ = some (.string ⟨#[45, 62]⟩)) : GW w0 gp gb s1 t2 b (fun x => decide (x = 8) || l x) (u - 1) w := by
  have h5 : l 9 = false := by
    cases h : l 9 with
    | false => rfl
    | true => have := G.d8 h; rw [hl] at this; cases this
  have h20 : l 20 = false := by
    cases h : l 20 with
    | false => rfl
    | true => have := (G.d20 h).2.2.1; rw [hl] at this; cases this
  have hI : ∀ j, j < 6 → gIns j ≠ 8 := by decide
  refine ⟨G.fr, fun h => ?_, fun h => ?_, fun h => ?_, fun j hj h => ?_, fun h => ?_, fun h => ?_, fun h => ?_, fun h => ?_, G.oth, G.one, G.frz⟩
  · exact G.str1 (by simpa using h)
  · exact ⟨hs, hc⟩
  · obtain ⟨h1, N, h2, h3⟩ := G.tab (by simpa using h)
    refine ⟨h1, N, by omega, ?_⟩
    rw [insG_same (l := l) (fun j hj => by simp [hI j hj]), insG_val (t1 := s1) (t2 := s2) (fun j hj hlj => gVal_s2 j hj (fun e => by subst e; rw [show gIns 1 = 9 from rfl, h5] at hlj; cases hlj))]
    exact h3
  · have := G.d1 j hj (by simpa [hI j hj] using h); simpa using this
  · have := G.d4 (by simpa using h); simpa using this
  · simp
  · have : l 20 = true := by simpa using h
    rw [h20] at this; cases this
  · have := (G.fin (by simpa using h)).2
    rw [h20] at this; cases this
theorem GW.mkI (G : GW w0 gp gb s1 s2 b l u w) (hgb : gb < w0.heap.size) {j : Nat} (hj : j < 6) (h1 : l 1 = true) (h4 : j = 0 → l 4 = true) (h8 : j = 1 → l 8 = true) (hf : l (gIns j) = false) (hu : 1 ≤ u) : ∃ w', (Instr.mapUpdate 88 (.map (some b)) (gKeyV j) (gVal gp s1 s2 j)).run Tryz.prog w = .ok () w' ∧ GW w0 gp gb s1 s2 b (fun x => decide (x = gIns j) || l x) (u - 1) w' := by
  obtain ⟨hb1, N, hN, hr⟩ := G.tab h1
  obtain ⟨w', hrun, hT', hgr⟩ := hr.put (by omega) (gKey j) (gKey_ok j hj) (gVal gp s1 s2 j)
  have hlt : gb < w.heap.size := Nat.lt_of_lt_of_le hgb G.fr.size
  have hne : gb ≠ b := by omega
  have hc : ∀ q o v, w.cell? ⟨q, o, none⟩ = some v → w'.cell? ⟨q, o, none⟩ = some v := fun q o v h => hgr.cell h (fun e => by
    have e := Option.some.inj e
    simp only at e
    subst e
    rw [hr.nocell] at h; cases h)
  have hbk : w'.heap[gb]? = w.heap[gb]? := hgr.block gb hlt (fun e => hne (Option.some.inj e))
  have hI : ∀ j, j < 6 → gIns j ≠ 1 ∧ gIns j ≠ 4 ∧ gIns j ≠ 8 ∧ gIns j ≠ 20 ∧ gIns j ≠ 23 := by decide
  have hI5 : ∀ j, j < 6 → gIns j = 5 → j = 0 := by decide
  have hI9 : ∀ j, j < 6 → gIns j = 9 → j = 1 := by decide
  obtain ⟨i1, i4, i8, i20, i23⟩ := hI j hj
  have e1 : (decide (1 = gIns j) || l 1) = l 1 := by simp [Ne.symm i1]
  have e4 : (decide (4 = gIns j) || l 4) = l 4 := by simp [Ne.symm i4]
  have e8 : (decide (8 = gIns j) || l 8) = l 8 := by simp [Ne.symm i8]
  have e20 : (decide (20 = gIns j) || l 20) = l 20 := by simp [Ne.symm i20]
  have e23 : (decide (23 = gIns j) || l 23) = l 23 := by simp [Ne.symm i23]
  have n20 : l 20 = false := by
    cases h : l 20 with
    | false => rfl
    | true => have := (G.d20 h).2.2.2 j hj; rw [hf] at this; cases this
  refine ⟨w', hrun, ⟨?_, fun h => ?_, fun h => ?_, fun h => ⟨hb1, N + 1, by omega, ?_⟩, fun j' hj' h => e1.trans h1, fun h => ?_, fun h => ?_, fun h => ?_, fun h => ?_, fun o ho => (World.cell?_of_block (a := ⟨gb, o, none⟩) hbk).trans (G.oth o ho), ?_, fun o => (World.frozen?_of_block (a := ⟨gb, o, none⟩) hbk).trans (G.frz o)⟩⟩
  · exact ⟨hgr.os.trans G.fr.os, hgr.tape.trans G.fr.tape, hgr.output.trans G.fr.output, Nat.le_trans G.fr.size hgr.size, fun k hk hn => (hgr.block k (Nat.lt_of_lt_of_le hk G.fr.size) (fun e => by have := Option.some.inj e; omega)).trans (G.fr.block k hk hn)⟩
  · have := G.str1 (e4.symm.trans h); exact ⟨this.1, hc _ _ _ this.2⟩
  · have := G.str2 (e8.symm.trans h); exact ⟨this.1, hc _ _ _ this.2⟩
  · rw [insG_put hj (fun x => rfl)]; exact hT'
  · by_cases e : 5 = gIns j
    · exact e4.trans (h4 (hI5 j hj e.symm))
    · exact e4.trans (G.d4 (by simpa [e] using h))
  · by_cases e : 9 = gIns j
    · exact e8.trans (h8 (hI9 j hj e.symm))
    · exact e8.trans (G.d8 (by simpa [e] using h))
  · have := e20.symm.trans h; rw [n20] at this; cases this
  · have := (G.fin (e23.symm.trans h)).2; rw [n20] at this; cases this
  · rw [World.cell?_of_block (a := ⟨gb, 1, none⟩) hbk]; exact G.one
theorem GW.mk20 (G : GW w0 gp gb s1 s2 b l u w) (h : ∀ k, 1 ≤ k → k < 20 → l k = true) : GW w0 gp gb s1 s2 b (fun x => decide (x = 20) || l x) (u - 1) w := by
  have hI : ∀ j, j < 6 → 1 ≤ gIns j ∧ gIns j < 20 := by decide
  have hn : ∀ k, 1 ≤ k → k < 20 → (decide (k = 20) || l k) = true := fun k h1 h2 => by rw [h k h1 h2]; simp
  refine ⟨G.fr, fun _ => G.str1 (h 4 (by decide) (by decide)), fun _ => G.str2 (h 8 (by decide) (by decide)), fun _ => ?_, fun j hj _ => hn 1 (by decide) (by decide), fun _ => hn 4 (by decide) (by decide), fun _ => hn 8 (by decide) (by decide), fun _ => ⟨hn 1 (by decide) (by decide), hn 4 (by decide) (by decide), hn 8 (by decide) (by decide), fun j hj => hn _ (hI j hj).1 (hI j hj).2⟩, fun h' => ⟨(G.fin (by simpa using h')).1, by simp⟩, G.oth, G.one, G.frz⟩
  obtain ⟨h1, N, h2, h3⟩ := G.tab (h 1 (by decide) (by decide))
  refine ⟨h1, N, by omega, ?_⟩
  rw [insG_same (l := l) (fun j hj => by have := (hI j hj).2; simp [show gIns j ≠ 20 from by omega])]
  exact h3
theorem GW.mk23 (G : GW w0 gp gb s1 s2 b l u w) (hgb : gb < w0.heap.size) (h20 : l 20 = true) : GW w0 gp gb s1 s2 b (fun x => decide (x = 23) || l x) (u - 1) (w.setCell ⟨gb, 1, none⟩ (.map (some b))) := by
  have hI : ∀ j, j < 6 → gIns j ≠ 23 := by decide
  have hc : ∀ q o v, q ≠ gb → w.cell? ⟨q, o, none⟩ = some v → (w.setCell ⟨gb, 1, none⟩ (.map (some b))).cell? ⟨q, o, none⟩ = some v := fun q o v hq h => (World.cell?_setCell_other _ _ _ _ (fun e => hq (by simpa using (congrArg Addr.block e).symm))).trans h
  refine ⟨G.fr.trans ⟨rfl, rfl, rfl, by simp, fun k hk hne => Below.heap_setCell _ _ _ _ (fun e => hne (by rw [e]))⟩, fun h => ?_, fun h => ?_, fun h => ?_, fun j hj h => ?_, fun h => ?_, fun h => ?_, fun h => ?_, fun h => ⟨World.cell?_setCell_same' _ _ _ G.one, by simp [h20]⟩, fun o ho => ?_, ?_, fun o => by rw [World.frozen?_setCell]; exact G.frz o⟩
  · have := G.str1 (by simpa using h); exact ⟨this.1, hc _ _ _ (by omega) this.2⟩
  · have := G.str2 (by simpa using h); exact ⟨this.1, hc _ _ _ (by omega) this.2⟩
  · obtain ⟨h1, N, h2, h3⟩ := G.tab (by simpa using h)
    refine ⟨h1, N, by omega, ?_⟩
    rw [insG_same (l := l) (fun j hj => by simp [hI j hj])]
    exact h3.of (Below.heap_setCell _ _ _ _ (by show b ≠ gb; omega))
  · have := G.d1 j hj (by simpa [hI j hj] using h); simpa using this
  · have := G.d4 (by simpa using h); simpa using this
  · have := G.d8 (by simpa using h); simpa using this
  · obtain ⟨a1, a2, a3, a4⟩ := G.d20 h20
    exact ⟨by simp [a1], by simp [a2], by simp [a3], fun j hj => by simp [a4 j hj]⟩
  · rw [World.cell?_setCell_other _ _ _ _ (fun e => ho (by simpa using (congrArg Addr.off e).symm))]; exact G.oth o ho
  · rw [World.cell?_setCell_same' _ _ _ G.one]; rfl
end
theorem one_newG (w : World) (v : Value) (t : TypeId) : (w.alloc (.cells #[v] t)).cell? ⟨w.heap.size, 0, none⟩ = some v := by
  unfold World.cell?
  rw [show (w.alloc (.cells #[v] t)).heap[w.heap.size]? = some (.cells #[v] t) from heap_alloc_new w _]
  rfl
theorem in19 : ∀ k, k < 20 → 1 ≤ k → k ∈ ([1, 2, 3, 4, 5, 6, 7, 8, 9, 10, 11, 12, 13, 14, 15, 16, 17, 18, 19] : List Nat) := by decide
theorem op_skipG {P : Program} {ops : Array Oper} {Q : Exit → Act → World → Prop} {i : Nat} {o : Oper} {a : Act} {w w' : World} {K : Act → World → Prop} (hi : ops[i]? = some o) (hg : o.guard = none) (hd : o.dst = none) (hr : (execOp a.eval o).run P w = .ok .skip w') (h : K a w') : wpOp P ops Q i K a w :=
  op_skip hi hg hr (by rw [hd]; exact h)
theorem op_callG {P : Program} {ops : Array Oper} {Q : Exit → Act → World → Prop} {i : Nat} {o : Oper} {a : Act} {w : World} {K : Act → World → Prop} {f : FuncId} {args : Array Value} {v : Value} {w' : World} (hi : ops[i]? = some o) (hg : o.guard = none) (hr : (execOp a.eval o).run P w = .ok (.enter f args) w) (hc : Calls P f args w fun e w2 => e = .returned v ∧ w2 = w')
    (h : K (a.put o.dst v) w') : wpOp P ops Q i K a w := by
  unfold wpOp
  simp only [hi, Region.wanted, hg, if_true, Oper.wp, hr, Oper.upon]
  refine .inl (hc.mono fun e w2 he => ?_)
  obtain ⟨rfl, rfl⟩ := he
  exact h
set_option maxRecDepth 100000 in
set_option maxHeartbeats 4000000 in
theorem gnew_step {Q : Exit → Act → World → Prop} (w0 : World) (gp gb : Nat) (hgp : w0.cell? ⟨gp, 0, none⟩ = some (ptrV gb)) (hne : gp ≠ gb) (hgb : gb < w0.heap.size) (L : Array Bool) (a : Act) (w : World) (I0 : ∃ s1 s2 b, GI w0 gp gb s1 s2 b L a w) (i : Nat) (hi : i ∈ Region.ready .any gOps L) : wpOp Tryz.prog gOps Q i (fun a' w' => ∃ s1 s2 b, GI w0 gp gb s1 s2 b (L.setIfInBounds i true) a' w') a w := by
  obtain ⟨s1, s2, b, I⟩ := I0
  obtain ⟨hn, o, ho, haft⟩ := mem_ready.1 hi
  have hi24 : i < 24 := by
    rw [← gsize_ops]
    exact (Array.getElem?_eq_some_iff.1 ho).1
  have hLs : L.size = 24 := I.lsz
  have hnf : L.getD i false = false := getD_false hn
  have hu := unl_set hn
  have hul := unl_le L
  have hp0 : w.cell? ⟨gp, 0, none⟩ = some (ptrV gb) := I.gw.fr.cell hgp (fun e => hne (Option.some.inj e))
  have t3 := I.t3
  have t4 := I.t4
  have hfz := I.gw.frz 1
  have hone := I.gw.one
  have hbA : ∀ ob, Below w.heap.size w (w.alloc ob) := fun ob => (Below.refl _ _).alloc (Nat.le_refl _) _
  have hcase : i = 0 ∨ i = 1 ∨ i = 2 ∨ i = 3 ∨ i = 4 ∨ i = 5 ∨ i = 6 ∨ i = 7 ∨ i = 8 ∨ i = 9 ∨ i = 10 ∨ i = 11 ∨ i = 12 ∨ i = 13 ∨ i = 14 ∨ i = 15 ∨ i = 16 ∨ i = 17 ∨ i = 18 ∨ i = 19 ∨ i = 20 ∨ i = 21 ∨ i = 22 ∨ i = 23 := by omega
  rcases hcase with rfl | rfl | rfl | rfl | rfl | rfl | rfl | rfl | rfl | rfl | rfl | rfl | rfl | rfl | rfl | rfl | rfl | rfl | rfl | rfl | rfl | rfl | rfl | rfl
  · obtain ⟨o', ho', hg, hd, hop, hall⟩ := gop0
    obtain rfl := Option.some.inj (ho.symm.trans ho')
    refine op_value (v := ptrV gb) (w' := w) ho hg (by simp [execOp, hop, go_sem, Act.eval, t3, hp0]) ?_
    rw [hd]
    exact ⟨s1, s2, b, I.put (i := 0) rfl hn (fun _ _ _ => rfl) (I.gw.keep 0 (by decide))⟩
  · obtain ⟨o', ho', hg, hd, hop, hall⟩ := gop1
    obtain rfl := Option.some.inj (ho.symm.trans ho')
    refine op_value (v := .map (some w.heap.size)) (w' := w.alloc (.map #[] 0)) ho hg (by simp [execOp, hop, go_sem, run_makeMap, Result.andThen]) ?_
    rw [hd]
    refine ⟨s1, s2, w.heap.size, I.put (i := 1) rfl hn (fun k hk hl => gV_b k hk (fun e => ?_)) ((I.gw.below hgb (hbA _)).mk1 hnf I.gw.fr.size (RuIn.made w) (by omega))⟩
    subst e
    have := (I.gw.d20 hl).1
    rw [hnf] at this
    cases this
  · obtain ⟨o', ho', hg, hd, hop, hall⟩ := gop2
    obtain rfl := Option.some.inj (ho.symm.trans ho')
    refine op_value (v := gKeyV 0) (w' := w) ho hg (by simp [execOp, hop, go_sem, Act.eval, gKeyV, gKey]) ?_
    rw [hd]
    exact ⟨s1, s2, b, I.put (i := 2) rfl hn (fun _ _ _ => rfl) (I.gw.keep 2 (by decide))⟩
  · obtain ⟨o', ho', hg, hd, hop, hall⟩ := gop3
    obtain rfl := Option.some.inj (ho.symm.trans ho')
    refine op_value (v := .func (.func 55) #[] #[ptrV gp]) (w' := w) ho hg (by simp [execOp, hop, go_sem, Act.eval, t4]) ?_
    rw [hd]
    exact ⟨s1, s2, b, I.put (i := 3) rfl hn (fun _ _ _ => rfl) (I.gw.keep 3 (by decide))⟩
  · obtain ⟨o', ho', hg, hd, hop, hall⟩ := gop4
    obtain rfl := Option.some.inj (ho.symm.trans ho')
    have hdep : ∀ p, p ∈ ([3] : List Nat) → L.getD p false = true := fun p hp => dep_of (List.all_eq_true.1 hall p hp) haft
    have x := I.val 3 _ rfl (hdep 3 (by decide))
    simp only [show gT 3 = 12 from rfl] at x
    refine op_callG (f := 55) (args := #[.string ⟨#[44]⟩, ptrV gp]) ho hg ?_ (newG2_any ⟨#[44]⟩ gp w) ?_
    · simp [execOp, hop, go_sem, Act.eval, x]
    · rw [hd]
      exact ⟨w.heap.size, s2, b, I.put (i := 4) rfl hn (fun k hk _ => gV_s1 k hk) ((I.gw.below hgb (hbA _)).mk4 hnf I.gw.fr.size (one_newG w _ _))⟩
  · obtain ⟨o', ho', hg, hd, hop, hall⟩ := gop5
    obtain rfl := Option.some.inj (ho.symm.trans ho')
    have hdep : ∀ p, p ∈ ([1, 2, 4] : List Nat) → L.getD p false = true := fun p hp => dep_of (List.all_eq_true.1 hall p hp) haft
    have x1 := I.val 1 _ rfl (hdep 1 (by decide))
    have xk := I.val 2 _ rfl (hdep 2 (by decide))
    simp only [show gT 1 = 10 from rfl, show gT 2 = 11 from rfl] at x1 xk
    have xv := I.val 4 _ rfl (hdep 4 (by decide))
    simp only [show gT 4 = 13 from rfl] at xv
    obtain ⟨w', hrun, hG⟩ := I.gw.mkI hgb (j := 0) (by decide) (hdep 1 (by decide)) (fun h => hdep 4 (by decide)) (fun h => absurd h (by decide)) hnf (by omega)
    unfold wpOp
    simp only [ho, Region.wanted, hg, if_true]
    left
    unfold Oper.wp
    simp [execOp, hop, eval_tmp x1, eval_tmp xk, eval_tmp xv, hrun, Result.andThen, Oper.upon]
    rw [hd]
    exact ⟨s1, s2, b, I.none (by decide) hn rfl hG⟩
  · obtain ⟨o', ho', hg, hd, hop, hall⟩ := gop6
    obtain rfl := Option.some.inj (ho.symm.trans ho')
    refine op_value (v := gKeyV 1) (w' := w) ho hg (by simp [execOp, hop, go_sem, Act.eval, gKeyV, gKey]) ?_
    rw [hd]
    exact ⟨s1, s2, b, I.put (i := 6) rfl hn (fun _ _ _ => rfl) (I.gw.keep 6 (by decide))⟩
  · obtain ⟨o', ho', hg, hd, hop, hall⟩ := gop7
    obtain rfl := Option.some.inj (ho.symm.trans ho')
    refine op_value (v := .func (.func 55) #[] #[ptrV gp]) (w' := w) ho hg (by simp [execOp, hop, go_sem, Act.eval, t4]) ?_
    rw [hd]
    exact ⟨s1, s2, b, I.put (i := 7) rfl hn (fun _ _ _ => rfl) (I.gw.keep 7 (by decide))⟩
  · obtain ⟨o', ho', hg, hd, hop, hall⟩ := gop8
    obtain rfl := Option.some.inj (ho.symm.trans ho')
    have hdep : ∀ p, p ∈ ([7] : List Nat) → L.getD p false = true := fun p hp => dep_of (List.all_eq_true.1 hall p hp) haft
    have x := I.val 7 _ rfl (hdep 7 (by decide))
    simp only [show gT 7 = 15 from rfl] at x
    refine op_callG (f := 55) (args := #[.string ⟨#[45, 62]⟩, ptrV gp]) ho hg ?_ (newG2_any ⟨#[45, 62]⟩ gp w) ?_
    · simp [execOp, hop, go_sem, Act.eval, x]
    · rw [hd]
      exact ⟨s1, w.heap.size, b, I.put (i := 8) rfl hn (fun k hk _ => gV_s2 k hk) ((I.gw.below hgb (hbA _)).mk8 hnf I.gw.fr.size (one_newG w _ _))⟩
  · obtain ⟨o', ho', hg, hd, hop, hall⟩ := gop9
    obtain rfl := Option.some.inj (ho.symm.trans ho')
    have hdep : ∀ p, p ∈ ([1, 6, 8] : List Nat) → L.getD p false = true := fun p hp => dep_of (List.all_eq_true.1 hall p hp) haft
    have x1 := I.val 1 _ rfl (hdep 1 (by decide))
    have xk := I.val 6 _ rfl (hdep 6 (by decide))
    simp only [show gT 1 = 10 from rfl, show gT 6 = 14 from rfl] at x1 xk
    have xv := I.val 8 _ rfl (hdep 8 (by decide))
    simp only [show gT 8 = 16 from rfl] at xv
    obtain ⟨w', hrun, hG⟩ := I.gw.mkI hgb (j := 1) (by decide) (hdep 1 (by decide)) (fun h => absurd h (by decide)) (fun h => hdep 8 (by decide)) hnf (by omega)
    unfold wpOp
    simp only [ho, Region.wanted, hg, if_true]
    left
    unfold Oper.wp
    simp [execOp, hop, eval_tmp x1, eval_tmp xk, eval_tmp xv, hrun, Result.andThen, Oper.upon]
    rw [hd]
    exact ⟨s1, s2, b, I.none (by decide) hn rfl hG⟩
  · obtain ⟨o', ho', hg, hd, hop, hall⟩ := gop10
    obtain rfl := Option.some.inj (ho.symm.trans ho')
    refine op_value (v := gKeyV 2) (w' := w) ho hg (by simp [execOp, hop, go_sem, Act.eval, gKeyV, gKey]) ?_
    rw [hd]
    exact ⟨s1, s2, b, I.put (i := 10) rfl hn (fun _ _ _ => rfl) (I.gw.keep 10 (by decide))⟩
  · obtain ⟨o', ho', hg, hd, hop, hall⟩ := gop11
    obtain rfl := Option.some.inj (ho.symm.trans ho')
    refine op_value (v := gVal gp s1 s2 2) (w' := w) ho hg (by simp [execOp, hop, go_sem, Act.eval, t3, gVal]) ?_
    rw [hd]
    exact ⟨s1, s2, b, I.put (i := 11) rfl hn (fun _ _ _ => rfl) (I.gw.keep 11 (by decide))⟩
  · obtain ⟨o', ho', hg, hd, hop, hall⟩ := gop12
    obtain rfl := Option.some.inj (ho.symm.trans ho')
    have hdep : ∀ p, p ∈ ([1, 10, 11] : List Nat) → L.getD p false = true := fun p hp => dep_of (List.all_eq_true.1 hall p hp) haft
    have x1 := I.val 1 _ rfl (hdep 1 (by decide))
    have xk := I.val 10 _ rfl (hdep 10 (by decide))
    simp only [show gT 1 = 10 from rfl, show gT 10 = 17 from rfl] at x1 xk
    have xv := I.val 11 _ rfl (hdep 11 (by decide))
    simp only [show gT 11 = 18 from rfl] at xv
    obtain ⟨w', hrun, hG⟩ := I.gw.mkI hgb (j := 2) (by decide) (hdep 1 (by decide)) (fun h => absurd h (by decide)) (fun h => absurd h (by decide)) hnf (by omega)
    unfold wpOp
    simp only [ho, Region.wanted, hg, if_true]
    left
    unfold Oper.wp
    simp [execOp, hop, eval_tmp x1, eval_tmp xk, eval_tmp xv, hrun, Result.andThen, Oper.upon]
    rw [hd]
    exact ⟨s1, s2, b, I.none (by decide) hn rfl hG⟩
  · obtain ⟨o', ho', hg, hd, hop, hall⟩ := gop13
    obtain rfl := Option.some.inj (ho.symm.trans ho')
    refine op_value (v := gKeyV 3) (w' := w) ho hg (by simp [execOp, hop, go_sem, Act.eval, gKeyV, gKey]) ?_
    rw [hd]
    exact ⟨s1, s2, b, I.put (i := 13) rfl hn (fun _ _ _ => rfl) (I.gw.keep 13 (by decide))⟩
  · obtain ⟨o', ho', hg, hd, hop, hall⟩ := gop14
    obtain rfl := Option.some.inj (ho.symm.trans ho')
    refine op_value (v := gVal gp s1 s2 3) (w' := w) ho hg (by simp [execOp, hop, go_sem, Act.eval, t3, gVal]) ?_
    rw [hd]
    exact ⟨s1, s2, b, I.put (i := 14) rfl hn (fun _ _ _ => rfl) (I.gw.keep 14 (by decide))⟩
  · obtain ⟨o', ho', hg, hd, hop, hall⟩ := gop15
    obtain rfl := Option.some.inj (ho.symm.trans ho')
    have hdep : ∀ p, p ∈ ([1, 13, 14] : List Nat) → L.getD p false = true := fun p hp => dep_of (List.all_eq_true.1 hall p hp) haft
    have x1 := I.val 1 _ rfl (hdep 1 (by decide))
    have xk := I.val 13 _ rfl (hdep 13 (by decide))
    simp only [show gT 1 = 10 from rfl, show gT 13 = 19 from rfl] at x1 xk
    have xv := I.val 14 _ rfl (hdep 14 (by decide))
    simp only [show gT 14 = 20 from rfl] at xv
    obtain ⟨w', hrun, hG⟩ := I.gw.mkI hgb (j := 3) (by decide) (hdep 1 (by decide)) (fun h => absurd h (by decide)) (fun h => absurd h (by decide)) hnf (by omega)
    unfold wpOp
    simp only [ho, Region.wanted, hg, if_true]
    left
    unfold Oper.wp
    simp [execOp, hop, eval_tmp x1, eval_tmp xk, eval_tmp xv, hrun, Result.andThen, Oper.upon]
    rw [hd]
    exact ⟨s1, s2, b, I.none (by decide) hn rfl hG⟩
  · obtain ⟨o', ho', hg, hd, hop, hall⟩ := gop16
    obtain rfl := Option.some.inj (ho.symm.trans ho')
    refine op_value (v := gKeyV 4) (w' := w) ho hg (by simp [execOp, hop, go_sem, Act.eval, gKeyV, gKey]) ?_
    rw [hd]
    exact ⟨s1, s2, b, I.put (i := 16) rfl hn (fun _ _ _ => rfl) (I.gw.keep 16 (by decide))⟩
  · obtain ⟨o', ho', hg, hd, hop, hall⟩ := gop17
    obtain rfl := Option.some.inj (ho.symm.trans ho')
    have hdep : ∀ p, p ∈ ([1, 16] : List Nat) → L.getD p false = true := fun p hp => dep_of (List.all_eq_true.1 hall p hp) haft
    have x1 := I.val 1 _ rfl (hdep 1 (by decide))
    have xk := I.val 16 _ rfl (hdep 16 (by decide))
    simp only [show gT 1 = 10 from rfl, show gT 16 = 21 from rfl] at x1 xk
    have xv : a.eval (.func 62) = gVal gp s1 s2 4 := rfl
    obtain ⟨w', hrun, hG⟩ := I.gw.mkI hgb (j := 4) (by decide) (hdep 1 (by decide)) (fun h => absurd h (by decide)) (fun h => absurd h (by decide)) hnf (by omega)
    unfold wpOp
    simp only [ho, Region.wanted, hg, if_true]
    left
    unfold Oper.wp
    simp [execOp, hop, eval_tmp x1, eval_tmp xk, xv, hrun, Result.andThen, Oper.upon]
    rw [hd]
    exact ⟨s1, s2, b, I.none (by decide) hn rfl hG⟩
  · obtain ⟨o', ho', hg, hd, hop, hall⟩ := gop18
    obtain rfl := Option.some.inj (ho.symm.trans ho')
    refine op_value (v := gKeyV 5) (w' := w) ho hg (by simp [execOp, hop, go_sem, Act.eval, gKeyV, gKey]) ?_
    rw [hd]
    exact ⟨s1, s2, b, I.put (i := 18) rfl hn (fun _ _ _ => rfl) (I.gw.keep 18 (by decide))⟩
  · obtain ⟨o', ho', hg, hd, hop, hall⟩ := gop19
    obtain rfl := Option.some.inj (ho.symm.trans ho')
    have hdep : ∀ p, p ∈ ([1, 18] : List Nat) → L.getD p false = true := fun p hp => dep_of (List.all_eq_true.1 hall p hp) haft
    have x1 := I.val 1 _ rfl (hdep 1 (by decide))
    have xk := I.val 18 _ rfl (hdep 18 (by decide))
    simp only [show gT 1 = 10 from rfl, show gT 18 = 22 from rfl] at x1 xk
    have xv : a.eval (.func 63) = gVal gp s1 s2 5 := rfl
    obtain ⟨w', hrun, hG⟩ := I.gw.mkI hgb (j := 5) (by decide) (hdep 1 (by decide)) (fun h => absurd h (by decide)) (fun h => absurd h (by decide)) hnf (by omega)
    unfold wpOp
    simp only [ho, Region.wanted, hg, if_true]
    left
    unfold Oper.wp
    simp [execOp, hop, eval_tmp x1, eval_tmp xk, xv, hrun, Result.andThen, Oper.upon]
    rw [hd]
    exact ⟨s1, s2, b, I.none (by decide) hn rfl hG⟩
  · obtain ⟨o', ho', hg, hd, hop, hall⟩ := gop20
    obtain rfl := Option.some.inj (ho.symm.trans ho')
    have hdep : ∀ p, p ∈ ([1, 2, 3, 4, 5, 6, 7, 8, 9, 10, 11, 12, 13, 14, 15, 16, 17, 18, 19] : List Nat) → L.getD p false = true := fun p hp => dep_of (List.all_eq_true.1 hall p hp) haft
    have x := I.val 1 _ rfl (hdep 1 (by decide))
    simp only [show gT 1 = 10 from rfl] at x
    refine op_value (v := .map (some b)) (w' := w) ho hg (by simp [execOp, hop, go_sem, Act.eval, x]) ?_
    rw [hd]
    exact ⟨s1, s2, b, I.put (i := 20) rfl hn (fun _ _ _ => rfl) (I.gw.mk20 (fun k h1 h2 => hdep k (in19 k h2 h1)))⟩
  · obtain ⟨o', ho', hg, hd, hop, hall⟩ := gop21
    obtain rfl := Option.some.inj (ho.symm.trans ho')
    have hdep : ∀ p, p ∈ ([0] : List Nat) → L.getD p false = true := fun p hp => dep_of (List.all_eq_true.1 hall p hp) haft
    have x := I.val 0 _ rfl (hdep 0 (by decide))
    simp only [show gT 0 = 9 from rfl] at x
    refine op_value (v := ptrV gb) (w' := w) ho hg (by simp [execOp, hop, go_sem, Act.eval, x]) ?_
    rw [hd]
    exact ⟨s1, s2, b, I.put (i := 21) rfl hn (fun _ _ _ => rfl) (I.gw.keep 21 (by decide))⟩
  · obtain ⟨o', ho', hg, hd, hop, hall⟩ := gop22
    obtain rfl := Option.some.inj (ho.symm.trans ho')
    have hdep : ∀ p, p ∈ ([21] : List Nat) → L.getD p false = true := fun p hp => dep_of (List.all_eq_true.1 hall p hp) haft
    have x := I.val 21 _ rfl (hdep 21 (by decide))
    simp only [show gT 21 = 24 from rfl] at x
    refine op_value (v := .pointer (some ⟨gb, 1, none⟩)) (w' := w) ho hg (by simp [execOp, hop, go_sem, Act.eval, x]) ?_
    rw [hd]
    exact ⟨s1, s2, b, I.put (i := 22) rfl hn (fun _ _ _ => rfl) (I.gw.keep 22 (by decide))⟩
  · obtain ⟨o', ho', hg, hd, hop, hall⟩ := gop23
    obtain rfl := Option.some.inj (ho.symm.trans ho')
    have hdep : ∀ p, p ∈ ([22, 20] : List Nat) → L.getD p false = true := fun p hp => dep_of (List.all_eq_true.1 hall p hp) haft
    have x := I.val 22 _ rfl (hdep 22 (by decide))
    have y := I.val 20 _ rfl (hdep 20 (by decide))
    simp only [show gT 22 = 25 from rfl, show gT 20 = 23 from rfl] at x y
    obtain ⟨u1, hu1⟩ := Option.isSome_iff_exists.1 hone
    refine op_skipG (w' := w.setCell ⟨gb, 1, none⟩ (.map (some b))) ho hg hd (by simp [execOp, hop, go_sem, Act.eval, x, y, hu1, hfz]) ?_
    exact ⟨s1, s2, b, I.none (by decide) hn rfl (I.gw.mk23 hgb (hdep 20 (by decide)))⟩
end Go.Proofs.YtbnmmcegjlmdmaaGreatDoor

