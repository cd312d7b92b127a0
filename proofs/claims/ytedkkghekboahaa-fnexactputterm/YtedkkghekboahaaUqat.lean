/- Texts of DrI, L1c, DrM. Own work of the verifier. -/
import Derived.Test.YtedkkghekboahaaUqar
import Derived.Test.YtedkkghekboahaaUqad
import Derived.Deep.Upon
import Derived.Test.YtedkkghekboahaaUqas
import Derived.Test.YtedkkghekboahaaUqai
namespace Go.Proofs.Ytedkkghekboahaa
open Go Go.RowKit Go.Maps
set_option linter.unusedVariables false

/-- What Deref answers: the word, or what is not a word, and the code. -/
noncomputable def derA (xs : List Cel) (tr : List Int) (c : Cel) : Cel × Int := if vsB xs tr c.1 c.2.1 c.2.2.length = true then (drf xs c, 0) else ((0, 0, []), 1)
theorem vsB_parts {xs : List Cel} {tr : List Int} {c : Cel} (h : vsB xs tr c.1 c.2.1 c.2.2.length = true) : Good xs ∧ WdC xs c ∧ (∀ a, a < xs.length → okW (xs.getD a Cel.none).1 (xs.getD a Cel.none).2.1 (xs.getD a Cel.none).2.2.length = true) ∧ okW c.1 c.2.1 c.2.2.length = true ∧ tr.length ≤ 20000 := by
  unfold vsB at h
  rw [Bool.and_eq_true] at h
  obtain ⟨hs, hw⟩ := h
  obtain ⟨_, p2, p3, _, p5⟩ := storeB_parts hs
  have hw' := hw
  unfold wordB at hw'
  rw [Bool.and_eq_true] at hw'
  exact ⟨⟨p3, p5⟩, WdC.of_word hw, storeB_ok hs, hw'.1, p2⟩
/-- What a word that was followed is. -/
theorem drf_facts {xs : List Cel} {c : Cel} (g : Good xs) (hc : WdC xs c) (ho : ∀ a, a < xs.length → okW (xs.getD a Cel.none).1 (xs.getD a Cel.none).2.1 (xs.getD a Cel.none).2.2.length = true) (hoc : okW c.1 c.2.1 c.2.2.length = true) (hb : ∀ a, a < xs.length → Byte (xs.getD a Cel.none).2.2) (hbc : Byte c.2.2) :
    (drf xs c).1 = 0 ∧ (drf xs c).2.2 = [] ∨ (drf xs c).1 = 1 ∧ (drf xs c).2.2 = [] ∨ (drf xs c).1 = 2 ∧ (drf xs c).2.1 = 0 ∧ Byte (drf xs c).2.2 ∨ (drf xs c).1 = 4 ∧ (drf xs c).2.2 = [] := by
  obtain ⟨⟨h1, h2⟩, hw, _⟩ := drf_ind g (P := fun c => okW c.1 c.2.1 c.2.2.length = true ∧ Byte c.2.2) (fun a ha _ => ⟨ho a ha, hb a ha⟩) _ c (Nat.le_refl _) hc ⟨hoc, hbc⟩
  rcases hw.1 with k | k | k | k
  · exact .inl ⟨k, okW_text h1 (by omega) (by omega)⟩
  · exact .inr (.inl ⟨k, okW_text h1 (by omega) (by omega)⟩)
  · refine .inr (.inr (.inl ⟨k, ?_, h2⟩))
    rw [k] at h1
    generalize (drf xs c).2.2.length = m at h1
    simp only [okW, cellB] at h1
    simp at h1
    omega
  · exact .inr (.inr (.inr ⟨k, okW_text h1 (by omega) (by omega)⟩))

set_option maxHeartbeats 1000000 in
set_option maxRecDepth 100000 in
theorem implDeref_any (p q pt : Option Addr) (c1 c2 cap : Nat) (c : Cel) (xs : List Cel) (tr : List Int) (w : World) (hx : xs.length ≤ 1000000000) (hy : tr.length ≤ 1000000000) (hbx : ∀ a, a < xs.length → Byte (xs.getD a Cel.none).2.2) (hbc : Byte c.2.2) (hc : CIn w p xs) (hi : IIn w q tr) (hin : BIn w pt c.2.2) :
    Calls Try.prog 14 #[.agg #[.slice p xs.length c1, .slice q tr.length c2], .agg #[.int .i64 c.1, .int .i64 c.2.1, .slice pt c.2.2.length cap]] w fun e w' => ∃ pp cc, e = .returned (.tuple #[.agg #[.int .i64 (derA xs tr c).1.1, .int .i64 (derA xs tr c).1.2.1, .slice pp (derA xs tr c).1.2.2.length cc], .int .i64 (derA xs tr c).2]) ∧ OwnT w' w.heap.size pp (derA xs tr c).1.2.2.length cc (derA xs tr c).1.2.2 ∧ Below w.heap.size w w' := by
  obtain ⟨k, n, t⟩ := c
  obtain ⟨W0, eW0⟩ : ∃ W0, W0 = ((w.alloc (.cells #[.slice p xs.length c1, .slice q tr.length c2] 36)).alloc (.cells #[.int .i64 k, .int .i64 n, .slice pt t.length cap] 31)).alloc (.cells #[.int .i64 0, .int .i64 0, .slice none 0 0] 31) := ⟨_, rfl⟩
  have HB0 : Hid (Below w.heap.size w W0) := by
    show Below _ _ _
    rw [eW0]; exact (((Below.refl _ _).alloc (Nat.le_refl _) _).alloc (by simp) _).alloc (by simp; omega) _
  have k2 : W0.heap[w.heap.size + 1 + 1]? = some (.cells #[.int .i64 0, .int .i64 0, .slice none 0 0] 31) := by
    rw [eW0]
    exact (heap_three w _ _ _).2
  have hz0 : W0.heap.size = w.heap.size + 1 + 1 + 1 := by rw [eW0]; simp
  -- the box of the answer, filled
  have HBX2 : Hid (∀ W v0 v1 v2, Below W0.heap.size W0 W → (Box3 W (w.heap.size + 1 + 1) (.int .i64 0) (.int .i64 0) (.slice none 0 0)) ∧ ((((W.setCell ⟨w.heap.size + 1 + 1, 0, none⟩ v0).setCell ⟨w.heap.size + 1 + 1, 1, none⟩ v1).setCell ⟨w.heap.size + 1 + 1, 2, none⟩ v2).cell? ⟨w.heap.size + 1 + 1, 0, none⟩ = some v0 ∧ (((W.setCell ⟨w.heap.size + 1 + 1, 0, none⟩ v0).setCell ⟨w.heap.size + 1 + 1, 1, none⟩ v1).setCell ⟨w.heap.size + 1 + 1, 2, none⟩ v2).cell? ⟨w.heap.size + 1 + 1, 1, none⟩ = some v1 ∧ (((W.setCell ⟨w.heap.size + 1 + 1, 0, none⟩ v0).setCell ⟨w.heap.size + 1 + 1, 1, none⟩ v1).setCell ⟨w.heap.size + 1 + 1, 2, none⟩ v2).cell? ⟨w.heap.size + 1 + 1, 2, none⟩ = some v2) ∧ Below w.heap.size w (((W.setCell ⟨w.heap.size + 1 + 1, 0, none⟩ v0).setCell ⟨w.heap.size + 1 + 1, 1, none⟩ v1).setCell ⟨w.heap.size + 1 + 1, 2, none⟩ v2)) := fun W v0 v1 v2 hW => by
    have b := Box3.of_block (t := 31) ((hW.block (w.heap.size + 1 + 1) (by omega)).trans k2)
    exact ⟨b, box3_set b.1 b.2.1 b.2.2.1 v0 v1 v2, (((Below.on HB0.out hW).setCell (p := ⟨_, _, none⟩) (by simp; omega) _).setCell (p := ⟨_, _, none⟩) (by simp; omega) _).setCell (p := ⟨_, _, none⟩) (by simp; omega) _⟩
  have HO := heapWith_any p q pt c1 c2 cap k n t xs tr W0 hx hy (hc.below HB0.out) (hi.below HB0.out) (hin.below HB0.out)
  have HBX : Hid _ := hbx
  have HBC : Hid (Byte t) := hbc
  have HE0 : Hid _ := eW0
  have HZ0 : Hid _ := hz0
  clear hc hi hin hbx hbc k2 hz0
  cases hv : vsB xs tr k n t.length
  · have HE : Hid (derA xs tr (k, n, t) = ((0, 0, []), 1)) := by show _ = _; unfold derA; rw [if_neg (by simp [hv])]
    rw [HE.out]
    unfold WithOut at HO
    rw [hv, eW0] at HO
    clear hv HE HBX HBC eW0
    go_enter Try.func14, Try.ntmps14
    go_wp2_with fail
    refine HO.mono ?_
    rintro e w1 ⟨v, u, rfl, hb, _⟩
    rw [← HE0.out] at hb
    have HX : Hid _ := HBX2.out w1 (.int .i64 0) (.int .i64 0) (.slice none 0 0) hb
    obtain ⟨b0, b1, b2, b3⟩ := HX.out.1
    clear hb HO HBX2
    go_wp2
    obtain ⟨_, ⟨d0, d1, d2⟩, hbb⟩ := HX.out
    exact bodyPost_ret (v := .tuple #[.agg #[.int .i64 0, .int .i64 0, .slice none 0 0], .int .i64 1]) (by simp [results, Try.results14, go_sem, d0, d1, d2]) rfl ⟨none, 0, rfl, ⟨rfl, fun h => absurd h (Nat.lt_irrefl 0)⟩, hbb⟩
  · have HE : Hid (derA xs tr (k, n, t) = (drf xs (k, n, t), 0)) := by show _ = _; unfold derA; rw [if_pos hv]
    rw [HE.out]
    unfold WithOut at HO
    rw [hv, eW0] at HO
    obtain ⟨g, hw, ho, hoc, _⟩ := vsB_parts (c := (k, n, t)) hv
    have HF := drf_facts g hw ho hoc HBX.out HBC.out
    have HD : Hid (∀ h W, HeapAt W h xs tr → Calls Try.prog 45 #[.pointer (some ⟨h, 0, none⟩), wv (k, n, t)] W fun e w' => e = .returned (wv (drf xs (k, n, t))) ∧ Below W.heap.size W w') := fun h W H => deref_any h _ xs tr W g hw H
    clear hv HE HBX HBC ho hoc g hw eW0
    generalize drf xs (k, n, t) = d at HF HD ⊢
    obtain ⟨dk, dn, dt⟩ := d
    simp only at HF ⊢
    go_enter Try.func14, Try.ntmps14
    go_wp2_with fail
    refine HO.mono ?_
    rintro e w1 ⟨v, u, rfl, hb, hh⟩
    obtain ⟨h, rfl, rfl, hat⟩ := hh (by trivial)
    rw [← HE0.out] at hb
    have HB1 : Hid (Below W0.heap.size W0 w1) := hb
    have HDD : Hid _ := HD.out h w1 hat
    clear hb HO hat hh HD
    rcases HF with ⟨rfl, rfl⟩ | ⟨rfl, rfl⟩ | ⟨rfl, rfl, hbt⟩ | ⟨rfl, rfl⟩
    · have e : wv (0, dn, []) = .iface 100 (.int .i64 dn) := rfl
      rw [e] at HDD
      go_wp2_with fail
      refine Calls.mono HDD.out ?_
      rintro e w2 ⟨rfl, hb2⟩
      have HB2 : Hid (Below W0.heap.size W0 w2) := Below.on HB1.out hb2
      have HR := refCell_any dn w2
      clear hb2 HDD
      go_wp2_with (go_at_call 135; refine HR.mono ?_; rintro e w3 ⟨rfl, hb3⟩; have HX : Hid _ := HBX2.out w3 (.int .i64 0) (.int .i64 dn) (.slice none 0 0) (Below.on HB2.out hb3); obtain ⟨b0, b1, b2, b3⟩ := HX.out.1; clear hb3)
      obtain ⟨_, ⟨d0, d1, d2⟩, hbb⟩ := HX.out
      exact bodyPost_ret (v := .tuple #[.agg #[.int .i64 0, .int .i64 dn, .slice none 0 0], .int .i64 0]) (by simp [results, Try.results14, go_sem, d0, d1, d2]) rfl ⟨none, 0, rfl, ⟨rfl, fun h => absurd h (Nat.lt_irrefl 0)⟩, hbb⟩
    · have e : wv (1, dn, []) = .iface 121 (.int .i64 dn) := rfl
      rw [e] at HDD
      go_wp2_with fail
      refine Calls.mono HDD.out ?_
      rintro e w2 ⟨rfl, hb2⟩
      have HB2 : Hid (Below W0.heap.size W0 w2) := Below.on HB1.out hb2
      have HR := numCell_any dn w2
      clear hb2 HDD
      go_wp2_with (go_at_call 138; refine HR.mono ?_; rintro e w3 ⟨rfl, hb3⟩; have HX : Hid _ := HBX2.out w3 (.int .i64 1) (.int .i64 dn) (.slice none 0 0) (Below.on HB2.out hb3); obtain ⟨b0, b1, b2, b3⟩ := HX.out.1; clear hb3)
      obtain ⟨_, ⟨d0, d1, d2⟩, hbb⟩ := HX.out
      exact bodyPost_ret (v := .tuple #[.agg #[.int .i64 1, .int .i64 dn, .slice none 0 0], .int .i64 0]) (by simp [results, Try.results14, go_sem, d0, d1, d2]) rfl ⟨none, 0, rfl, ⟨rfl, fun h => absurd h (Nat.lt_irrefl 0)⟩, hbb⟩
    · have e : wv (2, 0, dt) = .iface 122 (.string (strOfNums dt)) := rfl
      rw [e] at HDD
      go_wp2_with fail
      refine Calls.mono HDD.out ?_
      rintro e w2 ⟨rfl, hb2⟩
      have HB2 : Hid (Below W0.heap.size W0 w2) := Below.on HB1.out hb2
      have HR := atomCell_any dt w2 hbt
      clear hb2 HDD hbt
      go_wp2_with (go_at_call 140; refine HR.mono ?_; rintro e w3 ⟨pp, cc, rfl, ho3, hb3⟩; have HX : Hid _ := HBX2.out w3 (.int .i64 2) (.int .i64 0) (.slice pp dt.length cc) (Below.on HB2.out hb3); obtain ⟨b0, b1, b2, b3⟩ := HX.out.1; have HO3 : Hid (OwnT w3 w.heap.size pp dt.length cc dt) := ho3.mono (Nat.le_trans HB0.out.size HB2.out.size); have HNE : Hid (0 < dt.length → pp ≠ some ⟨w.heap.size + 1 + 1, 0, none⟩) := fun hp => by { obtain ⟨g, rfl, hg, _⟩ := ho3.2 hp; intro e; have := congrArg Addr.block (Option.some.inj e); have hz := HZ0.out; have hs := HB2.out.size; simp at this; omega }; clear hb3 ho3)
      obtain ⟨_, ⟨d0, d1, d2⟩, hbb⟩ := HX.out
      exact bodyPost_ret (v := .tuple #[.agg #[.int .i64 2, .int .i64 0, .slice pp dt.length cc], .int .i64 0]) (by simp [results, Try.results14, go_sem, d0, d1, d2]) rfl ⟨pp, cc, rfl, ((HO3.out.setCell (a := ⟨_, 0, none⟩) (fun hp => HNE.out hp) _).setCell (a := ⟨_, 1, none⟩) (fun hp => HNE.out hp) _).setCell (a := ⟨_, 2, none⟩) (fun hp => HNE.out hp) _, hbb⟩
    · have e : wv (4, dn, []) = .iface 123 (.int .i64 dn) := rfl
      rw [e] at HDD
      go_wp2_with fail
      refine Calls.mono HDD.out ?_
      rintro e w2 ⟨rfl, hb2⟩
      have HB2 : Hid (Below W0.heap.size W0 w2) := Below.on HB1.out hb2
      have HR := strCell_any dn w2
      clear hb2 HDD
      go_wp2_with (go_at_call 141; refine HR.mono ?_; rintro e w3 ⟨rfl, hb3⟩; have HX : Hid _ := HBX2.out w3 (.int .i64 4) (.int .i64 dn) (.slice none 0 0) (Below.on HB2.out hb3); obtain ⟨b0, b1, b2, b3⟩ := HX.out.1; clear hb3)
      obtain ⟨_, ⟨d0, d1, d2⟩, hbb⟩ := HX.out
      exact bodyPost_ret (v := .tuple #[.agg #[.int .i64 4, .int .i64 dn, .slice none 0 0], .int .i64 0]) (by simp [results, Try.results14, go_sem, d0, d1, d2]) rfl ⟨none, 0, rfl, ⟨rfl, fun h => absurd h (Nat.lt_irrefl 0)⟩, hbb⟩

end Go.Proofs.Ytedkkghekboahaa

namespace Go.Proofs.Ytedkkghekboahaa
open Go Go.RowKit
set_option linter.unusedVariables false

theorem news_of {w : World} {b o : Nat} {xs : List Int} (hc : ∀ i, i < xs.length → w.cell? ⟨b, o + i, none⟩ = some (.int .u8 (xs.getD i 0))) : ∀ j u, (xs.map (Value.int .u8))[j]? = some u → w.cell? ((⟨b, o, none⟩ : Addr).add j) = some u := fun j u hu => by
  have hj : j < xs.length := by
    rcases Nat.lt_or_ge j xs.length with h | h
    · exact h
    · simp [List.getElem?_eq_none h] at hu
  have e : (⟨b, o, none⟩ : Addr).add j = ⟨b, o + j, none⟩ := by unfold Addr.add; split <;> simp_all
  rw [e, hc j hj, ← hu]
  simp [List.getD, hj]

/-- append of nothing. -/
theorem app_nothing (w : World) {ops : Array Oper} {rest : List Oper} {o : Oper} {a : Act} {Q : Exit → Act → World → Prop} (hgd : o.guard = none) (s x : Operand)
    (ho : o.op = .call { callee := .builtin .append, args := #[s, x], argTypes := #[26, 26] }) (p : Option Addr) (n c : Nat) (hnc : n ≤ c) (hs : a.eval s = .slice p n c) (q : Option Addr) (c' : Nat) (hx : a.eval x = .slice q 0 c')
    (h : wpList Try.prog ops Q rest (a.put o.dst (.slice p n c)) w) : wpList Try.prog ops Q (o :: rest) a w := by
  obtain ⟨i0, hi, hz0, hz1, hz2⟩ := info_parts infoByte
  refine wpList_plain hgd fun K hK => ?_
  have hsrc : Src Try.prog i0.size 26 (.slice q 0 c') 0 [] w := by
    cases q with
    | none => exact Src.ofNil w Try.underlying26 c'
    | some ad => exact Src.ofSlice w Try.underlying26 ad 0 c' [] (by simp) (fun j u h => by simp at h) (fun u h => by cases h)
  have hr := fun ty => run_append_nothing (P := Try.prog) w 26 26 ty 5 i0 Try.underlying26 hi p n c hnc _ hsrc
  unfold Oper.wp
  simp [execOp, ho, resolve, invoke, builtin, hs, hx, hr, Result.andThen]
  exact hK _ _ h

theorem l1copy_all (p : Option Addr) (n c : Nat) (xs : List Int) (w : World) (hn : n = xs.length) (hm : n ≤ 10000000) (hc : BIn w p xs) :
    Calls Try.prog 41 #[.slice p n c] w fun e w' => ∃ p' n' c', e = .returned (.slice p' n' c') ∧ OwnS w' w.heap.size p' n' c' xs ∧ Below w.heap.size w w' := by
  by_cases h0 : 0 < n
  · obtain ⟨b, o, rfl, hcc⟩ := hc (by omega)
    have HC : Hid (∀ i, i < xs.length → w.cell? ⟨b, o + i, none⟩ = some (.int .u8 (xs.getD i 0))) := hcc
    have HN : Hid (n = xs.length) := hn
    clear hc hn hcc
    go_enter Try.func41, Try.ntmps41
    go_wp2_with (at_builtin; refine app_bytes _ rfl _ _ rfl w.heap.size none 0 0 [] xs n HN.out rfl (OwnS.nil _ _) _ c rfl (news_of HC.out) h0 (by omega) (Nat.le_refl _) ?_; intro g n' cap w1 hown1 hb1 hn1)
    go_ret
    exact ⟨_, _, _, rfl, hown1, hb1⟩
  · obtain rfl : n = 0 := by omega
    obtain rfl : xs = [] := List.length_eq_zero_iff.1 hn.symm
    clear hc hn
    go_enter Try.func41, Try.ntmps41
    go_wp2_with (at_builtin; refine app_nothing _ rfl _ _ rfl none 0 0 (Nat.le_refl _) rfl p c rfl ?_)
    go_ret
    exact ⟨_, _, _, rfl, OwnS.nil _ _, Below.refl _ _⟩

end Go.Proofs.Ytedkkghekboahaa

namespace Go.Proofs.Ytedkkghekboahaa
open Go Go.RowKit Go.Maps
set_option linter.unusedVariables false

/-- How many references may be followed from the word in a box. -/
noncomputable def rkB (xs : List Cel) (b : Nat) (w : World) : Nat :=
  match w.cell? ⟨b, 0, none⟩, w.cell? ⟨b, 1, none⟩ with
  | some (.int _ k), some (.int _ n) => if k = 0 then rk xs n.toNat + 1 else 0
  | _, _ => 0
theorem rkB_box {xs : List Cel} {b : Nat} {w : World} {c : Cel} {v : Value} (h : Box3 w b (.int .i64 c.1) (.int .i64 c.2.1) v) : rkB xs b w = rkW xs c := by
  unfold rkB
  rw [h.1, h.2.1]
  rfl
/-- The boxes of l10deref: the word at hand, and the answer's. -/
def DSt (W0 w0 w : World) (xs : List Cel) (h : Nat) (tr : List Int) (k : Int) (c' : Cel) (q : Option Addr) (cq : Nat) : Prop :=
  Box3 w w0.heap.size (.int .i64 c'.1) (.int .i64 c'.2.1) (.slice q c'.2.2.length cq) ∧ Box3 w (w0.heap.size + 1) (.int .i64 0) (.int .i64 0) (.slice none 0 0) ∧ BIn W0 q c'.2.2 ∧ Below w0.heap.size w0 w ∧ w0.heap.size + 1 + 1 ≤ w.heap.size

set_option maxHeartbeats 1000000 in
set_option maxRecDepth 100000 in
theorem l10deref_any (W0 : World) (h : Nat) (p : Option Addr) (cp : Nat) (c : Cel) (xs : List Cel) (tr : List Int) (kk : Int) (w : World) (g : Good xs) (hc : WdC xs c) (hp : BIn W0 p c.2.2) (H : SHp W0 w h xs tr kk) :
    Calls Try.prog 39 #[.pointer (some ⟨h, 0, none⟩), .agg #[.int .i64 c.1, .int .i64 c.2.1, .slice p c.2.2.length cp]] w fun e w' => ∃ p' cp', e = .returned (.agg #[.int .i64 (drf xs c).1, .int .i64 (drf xs c).2.1, .slice p' (drf xs c).2.2.length cp']) ∧ BIn W0 p' (drf xs c).2.2 ∧ Below w.heap.size w w' := by
  have HH : Hid (SHp W0 w h xs tr kk) := H
  have HG : Hid (Good xs) := g
  have HC : Hid (WdC xs c) := hc
  have hl := g.shp.len
  have HS0 : Hid (DSt W0 w ((w.alloc (.cells #[.int .i64 c.1, .int .i64 c.2.1, .slice p c.2.2.length cp] 31)).alloc (.cells #[.int .i64 0, .int .i64 0, .slice none 0 0] 31)) xs h tr kk c p cp) := by
    refine ⟨Box3.of_block (t := 31) ?_, Box3.of_block (t := 31) ?_, hp, ((Below.refl _ _).alloc (Nat.le_refl _) _).alloc (by simp) _, by simp⟩
    · rw [Below.heap_alloc _ _ _ (by simp)]; exact heap_alloc_new _ _
    · have := heap_alloc_new (w.alloc (.cells #[.int .i64 c.1, .int .i64 c.2.1, .slice p c.2.2.length cp] 31)) (.cells #[.int .i64 0, .int .i64 0, .slice none 0 0] 31)
      simpa using this
  -- the end: the word at hand is the answer
  have HEND : Hid (∀ (wr : World) (c' : Cel) (q : Option Addr) (cq : Nat), DSt W0 w wr xs h tr kk c' q cq → drf xs c' = drf xs c → onB xs c' = false → ∀ v0 v1 v2, v0 = .int .i64 c'.1 → v1 = .int .i64 c'.2.1 → v2 = .slice q c'.2.2.length cq →
      ((((wr.setCell ⟨w.heap.size + 1, 0, none⟩ v0).setCell ⟨w.heap.size + 1, 1, none⟩ v1).setCell ⟨w.heap.size + 1, 2, none⟩ v2).cell? ⟨w.heap.size + 1, 0, none⟩ = some v0 ∧ (((wr.setCell ⟨w.heap.size + 1, 0, none⟩ v0).setCell ⟨w.heap.size + 1, 1, none⟩ v1).setCell ⟨w.heap.size + 1, 2, none⟩ v2).cell? ⟨w.heap.size + 1, 1, none⟩ = some v1 ∧ (((wr.setCell ⟨w.heap.size + 1, 0, none⟩ v0).setCell ⟨w.heap.size + 1, 1, none⟩ v1).setCell ⟨w.heap.size + 1, 2, none⟩ v2).cell? ⟨w.heap.size + 1, 2, none⟩ = some v2) ∧
      ∃ p' cp', Ending.returned (.agg #[v0, v1, v2]) = .returned (.agg #[.int .i64 (drf xs c).1, .int .i64 (drf xs c).2.1, .slice p' (drf xs c).2.2.length cp']) ∧ BIn W0 p' (drf xs c).2.2 ∧ Below w.heap.size w (((wr.setCell ⟨w.heap.size + 1, 0, none⟩ v0).setCell ⟨w.heap.size + 1, 1, none⟩ v1).setCell ⟨w.heap.size + 1, 2, none⟩ v2)) := fun wr c' q cq hs hd ho v0 v1 v2 e0 e1 e2 => by
    have e : c' = drf xs c := by rw [← hd, drf_stop ho]
    subst e0 e1 e2
    refine ⟨box3_set hs.2.1.1 hs.2.1.2.1 hs.2.1.2.2.1 _ _ _, q, cq, by rw [← e], by rw [← e]; exact hs.2.2.1, ((hs.2.2.2.1.setCell (p := ⟨_, _, none⟩) (by simp) _).setCell (p := ⟨_, _, none⟩) (by simp) _).setCell (p := ⟨_, _, none⟩) (by simp) _⟩
  clear H g hc hp
  go_enter Try.func39, Try.ntmps39
  go_wp2
  go_loopw [] (fun wr => ∃ c' q cq, Hid (WdC xs c') ∧ Hid (drf xs c' = drf xs c) ∧ Hid (DSt W0 w wr xs h tr kk c' q cq)) (fun wr => rkB xs w.heap.size wr)
  case atStart => exact ⟨c, p, cp, HC, rfl, HS0⟩
  case round =>
    obtain ⟨c', q, cq, HW, HD, HS⟩ := hrel
    obtain ⟨⟨b0, b1, b2, b3⟩, ⟨r0, r1, r2, r3⟩, _, _, hsz⟩ := HS.out
    have HM : Hid (rkB xs w.heap.size wr = rkW xs c') := rkB_box HS.out.1
    by_cases k0 : c'.1 = 0
    · obtain ⟨n0, n1, n2⟩ := HW.out.2.1 k0
      obtain ⟨j, ej⟩ : ∃ j : Nat, c'.2.1 = j := ⟨c'.2.1.toNat, by omega⟩
      have hj : j < xs.length := by omega
      have HHr : Hid (SHp W0 wr h xs tr kk) := HH.out.below HS.out.2.2.2.1
      obtain ⟨pc, cc, pt, ct, hh, hrow, _, _, _⟩ := HHr.out
      obtain ⟨gg, qx, cx, rfl, hg1, hg2, d0, d1, d2, hbx⟩ := hrow.at j hj
      have h0 : wr.cell? ⟨h, 0, none⟩ = some (.slice (some ⟨gg, 0, none⟩) xs.length cc) := by simp [World.cell?, hh]
      rw [k0] at b0
      rw [ej] at b1
      obtain ⟨y0, ey0⟩ : ∃ x, x = (xs.getD j Cel.none).1 := ⟨_, rfl⟩
      obtain ⟨y1, ey1⟩ : ∃ x, x = (xs.getD j Cel.none).2.1 := ⟨_, rfl⟩
      obtain ⟨y2, ey2⟩ : ∃ x, x = (xs.getD j Cel.none).2.2.length := ⟨_, rfl⟩
      rw [← ey0] at d0
      rw [← ey1] at d1
      rw [← ey2] at d2
      have HY : Hid (y0 = (xs.getD j Cel.none).1 ∧ y1 = (xs.getD j Cel.none).2.1 ∧ y2 = (xs.getD j Cel.none).2.2.length ∧ BIn W0 qx (xs.getD j Cel.none).2.2) := ⟨ey0, ey1, ey2, hbx⟩
      have HJ : Hid (c'.1 = 0 ∧ c'.2.1 = j) := ⟨k0, ej⟩
      have hlh := World.block_lt_of_cell? _ _ h0
      have HVB : Hid (varB xs j = (decide (y0 = 0) && decide (y1 = j))) := by
        show _ = _
        rw [Bool.eq_iff_iff]
        simp [varB, kndA, numA, hj, ey0, ey1]
      obtain ⟨m2, em2⟩ : ∃ m, m = c'.2.2.length := ⟨_, rfl⟩
      rw [← em2] at b2
      have HM2 : Hid (m2 = c'.2.2.length) := em2
      clear n0 n1 n2 ej k0 hrow hbx ey0 ey1 ey2 em2 hh
      have hw1 : w.heap.size < wr.heap.size := by omega
      have hw2 : w.heap.size + 1 < wr.heap.size := by omega
      go_wp2
      go_region_held3 (fun W => W.cell? ⟨h, 0, none⟩ = some (.slice (some ⟨gg, 0, none⟩) xs.length cc) ∧ W.cell? ⟨w.heap.size, 1, none⟩ = some (.int .i64 j) ∧ W.cell? ⟨gg, j * 3, none⟩ = some (.int .i64 y0) ∧ W.cell? ⟨gg, j * 3 + 1, none⟩ = some (.int .i64 y1) ∧ W.cell? ⟨gg, j * 3 + 2, none⟩ = some (.slice qx y2 cx)) (go_keep) (fail)
      have HSA : Hid (DSt W0 w (wr.alloc (.cells #[.int .i64 y0, .int .i64 y1, .slice qx y2 cx] 31)).drew xs h tr kk c' q cq ∧ Box3 (wr.alloc (.cells #[.int .i64 y0, .int .i64 y1, .slice qx y2 cx] 31)).drew wr.heap.size (.int .i64 y0) (.int .i64 y1) (.slice qx y2 cx)) := by
        have hbA : Below wr.heap.size wr (wr.alloc (.cells #[.int .i64 y0, .int .i64 y1, .slice qx y2 cx] 31)).drew := ((Below.refl _ _).alloc (Nat.le_refl _) _).drew
        obtain ⟨s0, s1, s2, s3, s4⟩ := HS.out
        exact ⟨⟨s0.below hbA (by omega), s1.below hbA (by omega), s2, Below.on s3 hbA, by have := hbA.size; omega⟩, Box3.of_block (t := 31) (heap_alloc_new wr _)⟩
      generalize (wr.alloc (.cells #[.int .i64 y0, .int .i64 y1, .slice qx y2 cx] 31)).drew = wA at HSA ⊢
      rename_i hheld
      clear hheld
      clear b0 b1 b2 b3 r0 r1 r2 r3 h0 d0 d1 d2
      obtain ⟨⟨b0, b1, b2, b3⟩, ⟨r0, r1, r2, r3⟩, _, _, hszA⟩ := HSA.out.1
      obtain ⟨x0, x1, x2, x3⟩ := HSA.out.2
      rw [HJ.out.1] at b0
      rw [HJ.out.2] at b1
      rw [← HM2.out] at b2
      have HNX : Hid (DSt W0 w (((wA.setCell ⟨w.heap.size, 0, none⟩ (.int .i64 y0)).setCell ⟨w.heap.size, 1, none⟩ (.int .i64 y1)).setCell ⟨w.heap.size, 2, none⟩ (.slice qx y2 cx)) xs h tr kk (xs.getD j Cel.none) qx cx) := by
        obtain ⟨s0, s1, s2, s3, s4⟩ := HSA.out.1
        obtain ⟨e0, e1, e2⟩ := box3_set s0.1 s0.2.1 s0.2.2.1 (.int .i64 y0) (.int .i64 y1) (.slice qx y2 cx)
        obtain ⟨z0, z1, z2, z3⟩ := HY.out
        refine ⟨⟨by rw [← z0]; exact e0, by rw [← z1]; exact e1, by rw [← z2]; exact e2, fun i => by rw [World.frozen?_setCell, World.frozen?_setCell, World.frozen?_setCell]; exact s0.2.2.2 i⟩, ((s1.setCell (a := ⟨_, _, none⟩) (by simp) _).setCell (a := ⟨_, _, none⟩) (by simp) _).setCell (a := ⟨_, _, none⟩) (by simp) _, z3, ((s3.setCell (p := ⟨_, _, none⟩) (Nat.le_refl _) _).setCell (p := ⟨_, _, none⟩) (Nat.le_refl _) _).setCell (p := ⟨_, _, none⟩) (Nat.le_refl _) _, by simpa using s4⟩
      have HRE : Hid (varB xs j = false → (WdC xs (xs.getD j Cel.none) ∧ drf xs (xs.getD j Cel.none) = drf xs c) ∧ rkW xs (xs.getD j Cel.none) < rkW xs c') := fun hv => by
        have ho : onB xs c' = true := by simp [onB, HJ.out.1, HJ.out.2, hv]
        have hn := rk_next HG.out HW.out ho
        have hs := drf_step HG.out HW.out ho
        have e1 : c'.2.1.toNat = j := by rw [HJ.out.2]; rfl
        rw [e1] at hn hs
        exact ⟨⟨hn.2, hs.symm.trans HD.out⟩, hn.1⟩
      by_cases q0 : y0 = 0
      · by_cases q1 : y1 = j
        · have hv : varB xs j = true := by rw [HVB.out, q0, q1]; simp
          have HO : Hid (onB xs c' = false) := by show _ = _; simp [onB, HJ.out.1, HJ.out.2, hv]
          have e0 : (y0 == 0) = true := by simp [q0]
          have e1 : (y1 == (j : Int)) = true := by simp [q1]
          clear q0 q1 hv HNX HRE
          go_wp2
          obtain ⟨⟨e0, e1, e2⟩, hfin⟩ := HEND.out wA c' q cq HSA.out.1 HD.out HO.out (.int .i64 0) (.int .i64 j) (.slice q m2 cq) (by rw [HJ.out.1]) (by rw [HJ.out.2]) (by rw [HM2.out])
          exact bodyPost_ret (v := .agg #[.int .i64 0, .int .i64 j, .slice q m2 cq]) (by simp [results, Try.results39, go_sem, e0, e1, e2]) rfl hfin
        · have hv : varB xs j = false := by rw [HVB.out]; simp [q1]
          have HR : Hid _ := HRE.out hv
          have e0 : (y0 == 0) = true := by simp [q0]
          have e1 : (y1 == (j : Int)) = false := by simp [q1]
          clear q0 q1 hv HRE
          go_wp2
          go_roundw
          case rel => exact ⟨xs.getD j Cel.none, qx, cx, HR.out.1.1, HR.out.1.2, HNX⟩
          case measure => rw [HM.out, rkB_box HNX.out.1]; exact HR.out.2
      · have hv : varB xs j = false := by rw [HVB.out]; simp [q0]
        have HR : Hid _ := HRE.out hv
        have e0 : (y0 == 0) = false := by simp [q0]
        clear q0 hv HRE
        go_wp2
        go_roundw
        case rel => exact ⟨xs.getD j Cel.none, qx, cx, HR.out.1.1, HR.out.1.2, HNX⟩
        case measure => rw [HM.out, rkB_box HNX.out.1]; exact HR.out.2
    · have HO : Hid (onB xs c' = false) := by show _ = _; simp [onB, k0]
      have k0' : (c'.1 == 0) = false := by simp [k0]
      go_wp2
      obtain ⟨⟨e0, e1, e2⟩, hfin⟩ := HEND.out wr c' q cq HS.out HD.out HO.out _ _ _ rfl rfl rfl
      exact bodyPost_ret (v := .agg #[.int .i64 c'.1, .int .i64 c'.2.1, .slice q c'.2.2.length cq]) (by simp [results, Try.results39, go_sem, e0, e1, e2]) rfl hfin

end Go.Proofs.Ytedkkghekboahaa

