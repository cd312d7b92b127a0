/- Texts of BdL1, UwJ, BdJ. Own work of the verifier. -/
import Derived.Test.YtedkkghekboahaaUqbb
import Derived.Test.YtedkkghekboahaaUqat
namespace Go.Proofs.Ytedkkghekboahaa
open Go Go.RowKit Go.Maps
set_option linter.unusedVariables false

/-- What bind leaves. -/
def BindOut (A : (List Cel × List Int) × Int) (h m lk N n : Nat) (w : World) (e : Ending) (w' : World) : Prop :=
  e = .returned (.int .i64 A.2) ∧ Below m w w' ∧ (A.2 = 0 → ∃ (lk' N' : Nat) (mk' : Nat → Nat), HeapO w' h A.1.1 A.1.2 m lk' ∧ SMap w' m N' mk' ∧ (∀ o, mk' o ≤ lk') ∧ lk' ≤ lk + 1 ∧ N' ≤ N + n)

/-- The last two statements of bind. -/
theorem bind_tail {w : World} {h : Nat} {xs : List Cel} {tr : List Int} {m : Nat} {L : Int} (H : HeapO w h xs tr m L) {g cw : Nat} (c0 : w.cell? ⟨h, 0, none⟩ = some (.slice (some ⟨g, 0, none⟩) xs.length cw)) (a : Nat) (c : Cel) (z : Int) (ht : tr.length ≤ 20000) :
    Calls Try.prog 82 #[.pointer (some ⟨h, 1, none⟩), .slice (some ⟨w.heap.size, 0, none⟩) 1 1] ((w.setCell ⟨g, a, none⟩ (wv c)).alloc (.cells #[.int .i64 z] 3)) fun e w' => e = .returned (.tuple #[]) ∧ HeapO w' h (xs.set a c) (tr ++ [z]) m L ∧ w'.heap[m]? = w.heap[m]? ∧ Below m w w' := by
  have hl := H.lt
  obtain ⟨HS, hgh⟩ := H.setW c0 a c
  obtain ⟨W2, eW2⟩ : ∃ W, W = (w.setCell ⟨g, a, none⟩ (wv c)) := ⟨_, rfl⟩
  have hz2 : W2.heap.size = w.heap.size := by rw [eW2]; simp
  rw [← eW2] at HS ⊢
  have H3 := HS.below (alloc_on W2 (.cells #[.int .i64 z] 3))
  obtain ⟨W3, eW3⟩ : ∃ W, W = W2.alloc (.cells #[.int .i64 z] 3) := ⟨_, rfl⟩
  have hn3 : W3.cell? ⟨w.heap.size, 0, none⟩ = some (.int .i64 z) := by
    have := heap_alloc_new W2 (.cells #[.int .i64 z] 3)
    rw [hz2] at this
    rw [eW3]; simp [World.cell?, this]
  have hs3 : W3.heap.size = w.heap.size + 1 := by rw [eW3]; simp; omega
  have hmb : ∀ k, k < h → W3.heap[k]? = w.heap[k]? := fun k hk => by
    rw [eW3, Below.heap_alloc _ _ _ (by omega), eW2]
    exact heap_setCell_other _ _ _ _ (by simp; omega)
  have hb3 : Below m w W3 := by
    rw [eW3, eW2]
    exact ((Below.refl _ _).setCell (p := ⟨g, a, none⟩) (by obtain ⟨_, _, _, _, _, _, _, h3⟩ := H; simp; omega) _).alloc (by obtain ⟨_, _, _, _, _, _, _, h3⟩ := H; simp; omega) _
  rw [← eW3] at H3 ⊢
  obtain ⟨pw, cw', pt, ct, k0, k1, k2, k3⟩ := id H3
  have d1 : W3.cell? ⟨h, 1, none⟩ = some (.slice pt tr.length ct) := by simp [World.cell?, k0]
  refine (push1_any h (h + 1) pt ct w.heap.size tr z W3 ht (by omega) d1 (frozen_of_row _ _ _ _ _ k0) (fun e => by have := (k2.2.lt _ e).1; omega) k2 hn3).mono ?_
  rintro e w' ⟨rfl, g', ct', w1, rfl, ho, hg⟩
  have hbm := hg.block m (by omega) (fun e => by have := (k2.2.lt _ e.symm).1; omega)
  refine ⟨rfl, H3.pushed d1 hg ho, ?_, ?_⟩
  · rw [heap_setCell_other _ _ _ _ (by simp; omega), hbm, hmb m k3]
  · exact (hb3.grown hg (by omega) (fun k e => by have := (k2.2.lt _ e).1; omega)).setCell (p := ⟨h, 1, none⟩) (by simp; omega) _

set_option maxHeartbeats 1000000 in
set_option maxRecDepth 100000 in
theorem bind_any (h m lk N a : Nat) (xs : List Cel) (tr : List Int) (mk : Nat → Nat) (c : Cel) (w : World) (hs : Shp xs) (ha : a < xs.length) (hlk : lk ≤ 1000000) (hN : N + xs.length ≤ 1000000000000) (ht : tr.length ≤ 20000) (hc : WdC xs c) (hna : ¬ (c.1 = 0 ∧ c.2.1 = a)) (hmk : ∀ o, mk o ≤ lk) (H : HeapO w h xs tr m lk) (hm : SMap w m N mk) :
    Calls Try.prog 65 #[.pointer (some ⟨h, 0, none⟩), .int .i64 a, wv c] w (BindOut (bndT xs tr a c) h m lk N xs.length w) := by
  have hl := hs.len
  have I := (isW c hc.knd).rf
  by_cases k0 : c.1 = 0
  · obtain ⟨r0, r1, r2⟩ := hc.2.1 k0
    obtain ⟨j, ej⟩ : ∃ j : Nat, c.2.1 = j := ⟨c.2.1.toNat, by omega⟩
    simp only [k0, if_true, decide_true, ej] at I
    have hwv : wv c = .iface 100 (.int .i64 j) := by unfold wv; rw [if_pos k0, ej]
    have HWC : Hid (wv c = .iface 100 (.int .i64 j)) := hwv
    have hja : j ≠ a := fun e => hna ⟨k0, by omega⟩
    have hjl : j < xs.length := by omega
    have HE : Hid (bndT xs tr a c = if 20000 ≤ tr.length then (([], []), 10) else if a < j then ((xs.set j (0, (a : Int), []), tr ++ [(j : Int)]), 0) else ((xs.set a c, tr ++ [(a : Int)]), 0)) := by
      show _ = _
      unfold bndT
      rw [if_neg (fun hh => by omega), ej]
      by_cases hlt : a < j
      · rw [if_pos (c := a < j) hlt, if_pos (c := c.1 = 0 ∧ (a : Int) < (j : Int)) ⟨k0, by omega⟩]; rfl
      · rw [if_neg (c := a < j) hlt, if_neg (c := c.1 = 0 ∧ (a : Int) < (j : Int)) (fun hh => by omega)]
    rw [HE.out, hwv]
    rw [hwv] at I
    have HO1 : Hid (HeapO w h xs tr m lk) := H
    have HM1 : Hid (SMap w m N mk ∧ ∀ o, mk o ≤ lk) := ⟨hm, hmk⟩
    obtain ⟨pw, cw, pt, ct, hblk, h1, h2, hmh⟩ := id H
    have c1 : w.cell? ⟨h, 1, none⟩ = some (.slice pt tr.length ct) := by simp [World.cell?, hblk]
    obtain ⟨g, cap, hv0, _, _⟩ := h1.form (by omega)
    simp only [Value.slice.injEq, true_and] at hv0
    obtain ⟨rfl, rfl⟩ := hv0
    have c0 : w.cell? ⟨h, 0, none⟩ = some (.slice (some ⟨g, 0, none⟩) xs.length cw) := by simp [World.cell?, hblk]
    have HRO : Hid (w.ownsRow (h + 1) 70 1 (.slice (some ⟨g, 0, none⟩) xs.length cw) xs.length (xs.map wv)) := h1
    have hf : ∀ i, w.frozen? ⟨h, i, none⟩ = false := fun i => frozen_of_row _ _ _ _ _ hblk
    clear hs hc hna hmk H hm k0 hN hlk hblk h1 h2 hmh ej r0 r1 r2 hwv HE
    by_cases hfull : 20000 ≤ tr.length
    · rw [if_pos hfull]
      have hge : (20000 : Int) ≤ tr.length := by omega
      have HR : Hid (Below m w w) := Below.refl _ _
      clear hfull HRO c0
      go_enter Try.func65, Try.ntmps65
      go_wp2_with fail
      go_ret
      exact ⟨rfl, HR.out, fun h => by cases h⟩
    · rw [if_neg hfull]
      have hge : ¬ (20000 : Int) ≤ tr.length := by omega
      clear hfull
      by_cases hlt : a < j
      · rw [if_pos hlt]
        have hgt : (a : Int) < j := by omega
        clear hlt
        go_enter Try.func65, Try.ntmps65
        have HT := bind_tail HO1.out c0 j (0, (a : Int), []) (j : Int) (by omega)
        rw [wv_ref] at HT
        have hv : w.cell? ⟨g, j, none⟩ = some (wv (xs.getD j Cel.none)) := by rw [HRO.out.cellAt j (by omega)]; simp [List.getD, hjl]
        have hfg : w.frozen? ⟨g, j, none⟩ = false := HRO.out.frozenAt j
        generalize wv (xs.getD j Cel.none) = old at hv
        clear HRO
        go_wp2_with fail
        refine HT.mono ?_
        rintro e w4 ⟨rfl, hh4, hm4, hb4⟩
        have HF : Hid (HeapO w4 h (xs.set j (0, (a : Int), [])) (tr ++ [(j : Int)]) m lk ∧ SMap w4 m N mk ∧ Below m w w4) := ⟨hh4, HM1.out.1.of_block hm4, hb4⟩
        clear HT hh4 hm4 hb4 c0 c1 hv hf hfg
        go_wp2_with fail
        go_ret
        exact ⟨rfl, HF.out.2.2, fun _ => ⟨lk, N, mk, HF.out.1, HF.out.2.1, HM1.out.2, by omega, by omega⟩⟩
      · rw [if_neg hlt]
        have hgt : ¬ (a : Int) < j := by omega
        clear hlt
        go_enter Try.func65, Try.ntmps65
        have HT := bind_tail HO1.out c0 a c (a : Int) (by omega)
        rw [HWC.out] at HT
        have hv : w.cell? ⟨g, a, none⟩ = some (wv (xs.getD a Cel.none)) := by rw [HRO.out.cellAt a (by omega)]; simp [List.getD, ha]
        have hfg : w.frozen? ⟨g, a, none⟩ = false := HRO.out.frozenAt a
        generalize wv (xs.getD a Cel.none) = old at hv
        clear HRO
        go_wp2_with fail
        refine HT.mono ?_
        rintro e w4 ⟨rfl, hh4, hm4, hb4⟩
        have HF : Hid (HeapO w4 h (xs.set a c) (tr ++ [(a : Int)]) m lk ∧ SMap w4 m N mk ∧ Below m w w4) := ⟨hh4, HM1.out.1.of_block hm4, hb4⟩
        clear HT hh4 hm4 hb4 c0 c1 hv hf hfg
        go_wp2_with fail
        go_ret
        exact ⟨rfl, HF.out.2.2, fun _ => ⟨lk, N, mk, HF.out.1, HF.out.2.1, HM1.out.2, by omega, by omega⟩⟩
  · simp only [k0, if_false, decide_false] at I
    have HST := standsIn_any h m lk N a xs tr mk c w hs ha hlk hN hc hmk H hm
    have hal : a < 20000 := by omega
    have hxl : 0 < xs.length := by omega
    have HAL : Hid (a < xs.length) := ha
    have HE : Hid (∀ r : Bool, (r = true ↔ Rch xs a c) → bndT xs tr a c = if r = true then (([], []), 5) else if 20000 ≤ tr.length then (([], []), 10) else ((xs.set a c, tr ++ [(a : Int)]), 0)) := fun r hr => by
      have h40 : Rch xs a c → c.1 = 4 := fun h => by
        by_cases k4 : c.1 = 4
        · exact k4
        · cases h with
          | here h => exact absurd h (beh_no k0 k4)
          | on h _ => exact absurd h (beh_no k0 k4)
      unfold bndT
      by_cases hrr : Rch xs a c
      · rw [if_pos ⟨h40 hrr, hrr⟩, if_pos (hr.2 hrr)]
      · have n1 : ¬ (c.1 = 0 ∧ (a : Int) < c.2.1) := fun hh => k0 hh.1
        have n2 : ¬ r = true := fun hh => hrr (hr.1 hh)
        rw [if_neg (fun hh => hrr hh.2), if_neg n1, if_neg n2]
    generalize bndT xs tr a c = AA at HE ⊢
    obtain ⟨ty, y, hvv⟩ := wv_iface c
    rw [hvv] at I HST ⊢
    have HVV : Hid (wv c = .iface ty y) := hvv
    clear hs hc hna hmk H hm k0 hvv hN hlk ha hl
    go_enter Try.func65, Try.ntmps65
    go_wp2_with fail
    refine HST.mono ?_
    rintro e w1 ⟨r, N1, mk1, rfl, hr, ho1, hm1, hle1, hn1, hb1⟩
    have HEr := HE.out r hr
    have HO1 : Hid (HeapO w1 h xs tr m ((lk + 1 : Nat) : Int)) := ho1
    have HM1 : Hid (SMap w1 m N1 mk1 ∧ (∀ o, mk1 o ≤ lk + 1) ∧ N1 ≤ N + xs.length ∧ Below m w w1) := ⟨hm1, hle1, hn1, hb1⟩
    clear hr ho1 hm1 hle1 hn1 hb1 HE HST
    cases r
    · simp only [Bool.false_eq_true, if_false] at HEr
      obtain ⟨pw, cw, pt, ct, hblk, h1, h2, hmh⟩ := HO1.out
      have c1 : w1.cell? ⟨h, 1, none⟩ = some (.slice pt tr.length ct) := by simp [World.cell?, hblk]
      obtain ⟨g, cap, hv0, _, _⟩ := h1.form hxl
      simp only [Value.slice.injEq, true_and] at hv0
      obtain ⟨rfl, rfl⟩ := hv0
      by_cases hfull : 20000 ≤ tr.length
      · rw [if_pos hfull] at HEr
        subst HEr
        have hge : (20000 : Int) ≤ tr.length := by omega
        clear hblk h1 h2 hmh hfull hxl hal
        go_wp2_with fail
        go_ret
        exact ⟨rfl, HM1.out.2.2.2, fun h => by cases h⟩
      · rw [if_neg hfull] at HEr
        subst HEr
        have hge : ¬ (20000 : Int) ≤ tr.length := by omega
        have c0 : w1.cell? ⟨h, 0, none⟩ = some (.slice (some ⟨g, 0, none⟩) xs.length cw) := by simp [World.cell?, hblk]
        have hv : w1.cell? ⟨g, a, none⟩ = some (wv (xs.getD a Cel.none)) := by rw [h1.cellAt a (by have := HAL.out; omega)]; have := HAL.out; simp [List.getD, this]
        have hf : ∀ i, w1.frozen? ⟨h, i, none⟩ = false := fun i => frozen_of_row _ _ _ _ _ hblk
        have hfg : w1.frozen? ⟨g, a, none⟩ = false := h1.frozenAt a
        generalize wv (xs.getD a Cel.none) = old at hv
        have hax : a < xs.length := HAL.out
        clear hblk h1 h2 hmh hfull hxl
        have HT := bind_tail HO1.out c0 a c (a : Int) (by omega)
        rw [HVV.out] at HT
        go_wp2_with fail
        refine HT.mono ?_
        rintro e w4 ⟨rfl, hh4, hm4, hb4⟩
        have HF : Hid (HeapO w4 h (xs.set a c) (tr ++ [(a : Int)]) m ((lk + 1 : Nat) : Int) ∧ SMap w4 m N1 mk1 ∧ Below m w w4) := ⟨hh4, HM1.out.1.of_block hm4, HM1.out.2.2.2.trans hb4⟩
        clear HT hh4 hm4 hb4 c0 c1 hv hf hfg
        go_wp2_with fail
        go_ret
        exact ⟨rfl, HF.out.2.2, fun _ => ⟨lk + 1, N1, mk1, HF.out.1, HF.out.2.1, HM1.out.2.1, Nat.le_refl _, HM1.out.2.2.1⟩⟩
    · simp only [if_true] at HEr
      subst HEr
      clear hxl hal
      go_wp2_with fail
      go_ret
      exact ⟨rfl, HM1.out.2.2.2, fun h => by cases h⟩

end Go.Proofs.Ytedkkghekboahaa

namespace Go.Proofs.Ytedkkghekboahaa
open Go Go.RowKit Go.Maps
set_option linter.unusedVariables false

/-- A store and a code, as they are answered: the trail lies ahead of M, the cells behind. -/
def StoreA (A : (List Cel × List Int) × Int) (w : World) (e : Ending) (w' : World) : Prop :=
  ∃ p q c1 c2 M, e = .returned (.tuple #[.agg #[.slice p A.1.1.length c1, .slice q A.1.2.length c2], .int .i64 A.2]) ∧ OwnIU w' w.heap.size M q A.1.2.length c2 A.1.2 ∧ OwnCU w' M w'.heap.size p A.1.1.length c1 A.1.1 ∧ w.heap.size ≤ M ∧ M ≤ w'.heap.size ∧ Below w.heap.size w w'
theorem OwnCU.nil (w : World) (B U : Nat) : OwnCU w B U none 0 0 [] := ⟨rfl, [], rfl, World.ownsRow_nil _ _ _ _, fun i h => absurd h (Nat.not_lt_zero _), ⟨fun i h => absurd h (Nat.not_lt_zero _), fun i j h => absurd h (Nat.not_lt_zero _)⟩, (fun k e => by cases e), fun i h => absurd h (Nat.not_lt_zero _)⟩
theorem StoreA.none {w w' : World} (code : Int) (hb : Below w.heap.size w w') : StoreA (([], []), code) w (.returned (.tuple #[.agg #[.slice none 0 0, .slice none 0 0], .int .i64 code])) w' :=
  ⟨Option.none, Option.none, 0, 0, w.heap.size, rfl, ⟨OwnI.nil _ _ _, fun g e => by cases e⟩, OwnCU.nil _ _ _, Nat.le_refl _, hb.size, hb⟩

set_option maxHeartbeats 4000000 in
set_option maxRecDepth 100000 in
theorem implUnwind_any (p q : Option Addr) (c1 c2 : Nat) (mark top : Int) (xs : List Cel) (tr : List Int) (w : World) (hx : xs.length ≤ 1000000000) (hy : tr.length ≤ 1000000000) (hbx : ∀ a, a < xs.length → Byte (xs.getD a Cel.none).2.2) (hc : CIn w p xs) (hi : IIn w q tr) :
    Calls Try.prog 26 #[.agg #[.slice p xs.length c1, .slice q tr.length c2], .int .i64 mark, .int .i64 top] w (StoreA (unwA xs tr mark top) w) := by
  obtain ⟨W0, eW0⟩ : ∃ W0, W0 = (w.alloc (.cells #[.slice p xs.length c1, .slice q tr.length c2] 36)).alloc (.cells #[.slice none 0 0, .slice none 0 0] 36) := ⟨_, rfl⟩
  have hb0 : Below w.heap.size w W0 := by rw [eW0]; exact ((Below.refl _ _).alloc (Nat.le_refl _) _).alloc (by simp) _
  have hz0 : W0.heap.size = w.heap.size + 1 + 1 := by rw [eW0]; simp
  have k1 : W0.heap[w.heap.size + 1]? = some (.cells #[.slice none 0 0, .slice none 0 0] 36) := by
    rw [eW0]
    have := heap_alloc_new (w.alloc (.cells #[.slice p xs.length c1, .slice q tr.length c2] 36)) (.cells #[.slice none 0 0, .slice none 0 0] 36)
    simpa using this
  have HBX : Hid (∀ W, Below W0.heap.size W0 W → Box2 W (w.heap.size + 1) (.slice none 0 0) (.slice none 0 0)) := fun W hW => Box2.of_block ((hW.block (w.heap.size + 1) (by omega)).trans k1)
  have HO := heapOf_any p q c1 c2 xs tr W0 hx hy (hc.below hb0) (hi.below hb0)
  have HB0 : Hid (∀ W v0 v1, Below W0.heap.size W0 W → Below w.heap.size w ((W.setCell ⟨w.heap.size + 1, 0, none⟩ v0).setCell ⟨w.heap.size + 1, 1, none⟩ v1)) := fun W v0 v1 hW => below_put2 (Below.on hb0 hW) (by omega) _ _
  have HE0 : Hid _ := eW0
  have HZ0 : Hid _ := hz0
  have HBY : Hid _ := hbx
  clear hc hi hb0 k1 hbx hz0
  cases hs : storeB xs tr
  · have HA : Hid (unwA xs tr mark top = (([], []), 1)) := by show _ = _; unfold unwA unwB; rw [hs]; simp
    rw [HA.out]
    unfold HeapOut at HO
    rw [hs, eW0] at HO
    clear hs HA eW0
    go_enter Try.func26, Try.ntmps26
    go_wp2_with fail
    refine HO.mono ?_
    rintro e w1 ⟨v, rfl, hb, _⟩
    rw [← HE0.out] at hb
    have HR : Hid _ := (HBX.out w1 hb).put (.slice none 0 0) (.slice none 0 0)
    have HBF : Hid _ := HB0.out w1 (.slice none 0 0) (.slice none 0 0) hb
    obtain ⟨b0, b1, b2⟩ := HBX.out w1 hb
    clear hb HO HBX HB0
    go_wp2
    obtain ⟨d0, d1, _⟩ := HR.out
    exact bodyPost_ret (v := .tuple #[.agg #[.slice none 0 0, .slice none 0 0], .int .i64 1]) (by simp [results, Try.results26, go_sem, d0, d1]) rfl (StoreA.none 1 HBF.out)
  · unfold HeapOut at HO
    rw [hs, eW0] at HO
    obtain ⟨hl, ht, hsp, hwb, _⟩ := storeB_parts hs
    have hok := storeB_ok hs
    have hkn : Knds xs := hsp.knds
    have HFU : Hid (∀ a, a < xs.length → kndA xs a = 3 → 1 ≤ numA xs a ∧ numA xs a ≤ 20) := fun a ha h3 => ⟨(hsp.funs a ha h3).1, (hsp.funs a ha h3).2.1⟩
    by_cases hm : 0 ≤ mark ∧ mark ≤ tr.length
    · by_cases hp : 0 ≤ top ∧ top ≤ xs.length
      · obtain ⟨mk, rfl⟩ : ∃ k : Nat, mark = k := ⟨mark.toNat, by omega⟩
        obtain ⟨tp, rfl⟩ : ∃ k : Nat, top = k := ⟨top.toNat, by omega⟩
        have hmk : mk ≤ tr.length := by omega
        have htp : tp ≤ xs.length := by omega
        have n1 : ¬ ((mk : Int) < 0) := by omega
        have n2 : ¬ ((tr.length : Int) < mk) := by omega
        have n3 : ¬ ((tp : Int) < 0) := by omega
        have n4 : ¬ ((xs.length : Int) < tp) := by omega
        have HWH : Hid (∀ W h m lk, HeapO W h xs tr m lk → ∀ cw pw, W.cell? ⟨h, 0, none⟩ = some (.slice pw xs.length cw) → Calls Try.prog 58 #[.slice pw tp cw] W fun e w' => e = .returned (.bool (wholeF 0 (xs.take tp))) ∧ Below W.heap.size W w') := fun W h m lk H cw pw hcell => by
          have hlen : (xs.take tp).length = tp := by rw [List.length_take]; omega
          have := isWhole_any pw cw (xs.take tp) W (by omega) (fun a ha => by rw [hlen] at ha; have := hkn a (by omega); unfold kndA at this ⊢; rw [take_at _ _ _ ha]; exact this) (fun a ha h3 => by
            rw [hlen] at ha
            have e := take_at xs tp a ha
            unfold kndA at h3; rw [e] at h3
            have := HFU.out a (by omega) h3
            unfold numA at this ⊢; rw [e]; exact this) (fun hn => by
            obtain ⟨pw', cw', pt', ct', e0, _, hw, _⟩ := H.at
            rw [hcell] at e0
            simp only [Option.some.injEq, Value.slice.injEq, true_and] at e0
            obtain ⟨rfl, rfl⟩ := e0
            obtain ⟨g, rfl, hcs⟩ := hw (by rw [hlen] at hn; omega)
            exact ⟨g, rfl, fun i hi => by rw [hlen] at hi; rw [hcs i (by omega), take_at _ _ _ hi]⟩)
          rw [hlen] at this
          exact this
        clear hm hp
        cases hwf : wholeF 0 (xs.take tp)
        · have HA : Hid (unwA xs tr mk tp = (([], []), 1)) := by show _ = _; unfold unwA unwB; rw [if_neg (by simp [hwf])]
          rw [HA.out]
          rw [hwf] at HWH
          clear hwf HA eW0 hs hok hsp hwb hkn HFU
          go_enter Try.func26, Try.ntmps26
          go_wp2_with fail
          refine HO.mono ?_
          rintro e w1 ⟨v, rfl, hb, hh⟩
          obtain ⟨h, m, rfl, hho, _, hmw⟩ := hh (by trivial)
          rw [← HE0.out] at hb
          obtain ⟨pw, cw, pt, ct, hblk, hrw, _, hmh⟩ := id hho
          have hcw : xs.length ≤ cw := by
            rcases hrw.2 with ⟨_, h'⟩ | ⟨g, cap, cur, hv, _, _, hc, _⟩
            · omega
            · simp only [Value.slice.injEq] at hv; omega
          have c0 : w1.cell? ⟨h, 0, none⟩ = some (.slice pw xs.length cw) := by simp [World.cell?, hblk]
          have c1' : w1.cell? ⟨h, 1, none⟩ = some (.slice pt tr.length ct) := by simp [World.cell?, hblk]
          have HW1 := HWH.out w1 h m 0 hho cw pw c0
          have HB1 : Hid (Below W0.heap.size W0 w1) := hb
          clear hb HO hh hho hblk HWH hrw
          go_wp2_with fail
          refine HW1.mono ?_
          rintro e w2 ⟨rfl, hb2⟩
          have HB2 : Hid (Below W0.heap.size W0 w2) := Below.on HB1.out hb2
          clear hb2 HW1 c0 c1'
          have HR : Hid _ := (HBX.out w2 HB2.out).put (.slice none 0 0) (.slice none 0 0)
          have HBF : Hid _ := HB0.out w2 (.slice none 0 0) (.slice none 0 0) HB2.out
          obtain ⟨b0, b1, b2⟩ := HBX.out w2 HB2.out
          clear HBX HB0
          go_wp2
          obtain ⟨d0, d1, _⟩ := HR.out
          exact bodyPost_ret (v := .tuple #[.agg #[.slice none 0 0, .slice none 0 0], .int .i64 1]) (by simp [results, Try.results26, go_sem, d0, d1]) rfl (StoreA.none 1 HBF.out)
        · have hlx : (unwX xs tr mk tp).length = tp := by unfold unwX; rw [List.length_take, unwC_len]; simp; omega
          have hlt : (unwT tr mk).length = mk := by unfold unwT; rw [List.length_take]; simp; omega
          have hokX : ∀ a, a < (unwX xs tr mk tp).length → okW ((unwX xs tr mk tp).getD a Cel.none).1 ((unwX xs tr mk tp).getD a Cel.none).2.1 ((unwX xs tr mk tp).getD a Cel.none).2.2.length = true := fun a ha => unwX_all (P := fun c => okW c.1 c.2.1 c.2.2.length = true) hok (fun i hi => okW_var i (by omega)) a ha
          have hbyX : ∀ a, a < (unwX xs tr mk tp).length → Byte ((unwX xs tr mk tp).getD a Cel.none).2.2 := fun a ha => unwX_all (P := fun c => Byte c.2.2) HBY.out (fun i hi x hx => by cases hx) a ha
          have HES : Hid _ := store_heap (xs := unwX xs tr mk tp) (tr := unwT tr mk) (by omega) (by omega) hokX
          have HVA : Hid (∀ W h, HeapAt W h (unwX xs tr mk tp) (unwT tr mk) → Calls Try.prog 60 #[.pointer (some ⟨h, 0, none⟩)] W fun e w' => e = .returned (.bool (heapB (unwX xs tr mk tp) (unwT tr mk))) ∧ Below W.heap.size W w') := fun W h H => isValid_any h _ _ W (by omega) (by omega) hokX H
          have HST : Hid (∀ W h, HeapAt W h (unwX xs tr mk tp) (unwT tr mk) → Calls Try.prog 61 #[.pointer (some ⟨h, 0, none⟩)] W (StoreOut (unwX xs tr mk tp) (unwT tr mk) W)) := fun W h H => store_any h _ _ W (by omega) (by omega) hokX hbyX H
          have HUN : Hid (∀ W h m lk, HeapO W h xs tr m lk → Calls Try.prog 59 #[.pointer (some ⟨h, 0, none⟩), .int .i64 mk, .int .i64 tp] W fun e w' => e = .returned (.tuple #[]) ∧ HeapAt w' h (unwX xs tr mk tp) (unwT tr mk) ∧ Below h W w') := fun W h m lk H => unwind_any h xs tr m lk mk tp W hl ht hmk htp hwb H
          have hub : unwB xs tr mk tp = true := by unfold unwB; rw [hs]; simp [hwf]; omega
          rw [hwf] at HWH
          cases hsx : storeB (unwX xs tr mk tp) (unwT tr mk)
          · have HA : Hid (unwA xs tr mk tp = (([], []), 4)) := by show _ = _; unfold unwA; rw [if_pos hub, hsx]; simp
            rw [HA.out]
            have HES' : Hid (heapB (unwX xs tr mk tp) (unwT tr mk) = false) := by show _ = _; rw [← HES.out]; exact hsx
            rw [HES'.out] at HVA
            clear hwf HA eW0 hs hok hsp hwb hkn HFU hokX hbyX HES HES' hsx hub hlx hlt HST
            generalize unwX xs tr mk tp = X at HVA HUN
            generalize unwT tr mk = T at HVA HUN
            go_enter Try.func26, Try.ntmps26
            go_wp2_with fail
            refine HO.mono ?_
            rintro e w1 ⟨v, rfl, hb, hh⟩
            obtain ⟨h, m, rfl, hho, _, hmw⟩ := hh (by trivial)
            rw [← HE0.out] at hb hmw
            obtain ⟨pw, cw, pt, ct, hblk, hrw, _, hmh⟩ := id hho
            have hcw : xs.length ≤ cw := by
              rcases hrw.2 with ⟨_, h'⟩ | ⟨g, cap, cur, hv, _, _, hc, _⟩
              · omega
              · simp only [Value.slice.injEq] at hv; omega
            have c0 : w1.cell? ⟨h, 0, none⟩ = some (.slice pw xs.length cw) := by simp [World.cell?, hblk]
            have c1' : w1.cell? ⟨h, 1, none⟩ = some (.slice pt tr.length ct) := by simp [World.cell?, hblk]
            have HW1 := HWH.out w1 h m 0 hho cw pw c0
            have HB1 : Hid (Below W0.heap.size W0 w1) := hb
            have HHO : Hid (HeapO w1 h xs tr m 0) := hho
            have hhz : W0.heap.size ≤ h := by omega
            clear hb HO hh hho hblk HWH hrw hmh
            go_wp2_with fail
            refine HW1.mono ?_
            rintro e w2 ⟨rfl, hb2⟩
            have HU2 := HUN.out w2 h m 0 (HHO.out.below hb2)
            have HB2 : Hid (Below W0.heap.size W0 w2) := Below.on HB1.out hb2
            clear hb2 HW1 c0 c1' HUN HHO
            go_wp2_with fail
            refine HU2.mono ?_
            rintro e w3 ⟨rfl, hat, hb3⟩
            have HAT : Hid (HeapAt w3 h X T) := hat
            have HB3 : Hid (Below W0.heap.size W0 w3) := HB2.out.trans (hb3.mono hhz)
            clear hat hb3 HU2
            go_wp2_with fail
            refine (HVA.out w3 h HAT.out).mono ?_
            rintro e w4 ⟨rfl, hb4⟩
            have HB4 : Hid (Below W0.heap.size W0 w4) := Below.on HB3.out hb4
            clear hb4 HVA HAT
            have HR : Hid _ := (HBX.out w4 HB4.out).put (.slice none 0 0) (.slice none 0 0)
            have HBF : Hid _ := HB0.out w4 (.slice none 0 0) (.slice none 0 0) HB4.out
            obtain ⟨b0, b1, b2⟩ := HBX.out w4 HB4.out
            clear HBX HB0
            go_wp2
            obtain ⟨d0, d1, _⟩ := HR.out
            exact bodyPost_ret (v := .tuple #[.agg #[.slice none 0 0, .slice none 0 0], .int .i64 4]) (by simp [results, Try.results26, go_sem, d0, d1]) rfl (StoreA.none 4 HBF.out)
          · have HA : Hid (unwA xs tr mk tp = ((unwX xs tr mk tp, unwT tr mk), 0)) := by show _ = _; unfold unwA; rw [if_pos hub, if_pos hsx]
            rw [HA.out]
            have HES' : Hid (heapB (unwX xs tr mk tp) (unwT tr mk) = true) := by show _ = _; rw [← HES.out]; exact hsx
            rw [HES'.out] at HVA
            clear hwf HA eW0 hs hok hsp hwb hkn HFU hokX hbyX HES HES' hsx hub hlx hlt
            generalize unwX xs tr mk tp = X at HVA HUN HST ⊢
            generalize unwT tr mk = T at HVA HUN HST ⊢
            go_enter Try.func26, Try.ntmps26
            go_wp2_with fail
            refine HO.mono ?_
            rintro e w1 ⟨v, rfl, hb, hh⟩
            obtain ⟨h, m, rfl, hho, _, hmw⟩ := hh (by trivial)
            rw [← HE0.out] at hb hmw
            obtain ⟨pw, cw, pt, ct, hblk, hrw, _, hmh⟩ := id hho
            have hcw : xs.length ≤ cw := by
              rcases hrw.2 with ⟨_, h'⟩ | ⟨g, cap, cur, hv, _, _, hc, _⟩
              · omega
              · simp only [Value.slice.injEq] at hv; omega
            have c0 : w1.cell? ⟨h, 0, none⟩ = some (.slice pw xs.length cw) := by simp [World.cell?, hblk]
            have c1' : w1.cell? ⟨h, 1, none⟩ = some (.slice pt tr.length ct) := by simp [World.cell?, hblk]
            have HW1 := HWH.out w1 h m 0 hho cw pw c0
            have HB1 : Hid (Below W0.heap.size W0 w1) := hb
            have HHO : Hid (HeapO w1 h xs tr m 0) := hho
            have hhz : W0.heap.size ≤ h := by omega
            clear hb HO hh hho hblk HWH hrw hmh
            go_wp2_with fail
            refine HW1.mono ?_
            rintro e w2 ⟨rfl, hb2⟩
            have HU2 := HUN.out w2 h m 0 (HHO.out.below hb2)
            have HB2 : Hid (Below W0.heap.size W0 w2) := Below.on HB1.out hb2
            clear hb2 HW1 c0 c1' HUN HHO
            go_wp2_with fail
            refine HU2.mono ?_
            rintro e w3 ⟨rfl, hat, hb3⟩
            have HAT : Hid (HeapAt w3 h X T) := hat
            have HB3 : Hid (Below W0.heap.size W0 w3) := HB2.out.trans (hb3.mono hhz)
            clear hat hb3 HU2
            go_wp2_with fail
            refine (HVA.out w3 h HAT.out).mono ?_
            rintro e w4 ⟨rfl, hb4⟩
            have HB4 : Hid (Below W0.heap.size W0 w4) := Below.on HB3.out hb4
            have HS4 : Hid _ := HST.out w4 h (HAT.out.below hb4)
            clear hb4 HVA HAT HST
            go_wp2_with fail
            refine Calls.mono HS4.out ?_
            rintro e w5 ⟨p5, q5, c5, d5, M, rfl, hoi, hoc, hM1, hM2, hb5⟩
            have HB5 : Hid (Below W0.heap.size W0 w5) := Below.on HB4.out hb5
            have HR : Hid _ := (HBX.out w5 HB5.out).put (.slice p5 X.length c5) (.slice q5 T.length d5)
            have HBF : Hid _ := HB0.out w5 (.slice p5 X.length c5) (.slice q5 T.length d5) HB5.out
            have HF : Hid (StoreA ((X, T), 0) w (.returned (.tuple #[.agg #[.slice p5 X.length c5, .slice q5 T.length d5], .int .i64 0])) ((w5.setCell ⟨w.heap.size + 1, 0, none⟩ (.slice p5 X.length c5)).setCell ⟨w.heap.size + 1, 1, none⟩ (.slice q5 T.length d5))) := by
              have hz := HZ0.out
              have h4 := HB4.out.size
              refine ⟨p5, q5, c5, d5, M, rfl, ⟨((hoi.1.set (by simp; omega) _).set (by simp; omega) _).mono (by omega), hoi.2⟩, ?_, by omega, by simpa using hM2, HBF.out⟩
              have := (hoc.set (a := ⟨w.heap.size + 1, 0, none⟩) (by simp; omega) (.slice p5 X.length c5)).set (a := ⟨w.heap.size + 1, 1, none⟩) (by simp; omega) (.slice q5 T.length d5)
              simpa using this
            obtain ⟨b0, b1, b2⟩ := HBX.out w5 HB5.out
            clear hoi hoc hM1 hM2 hb5 HS4 HBX HB0
            go_wp2
            obtain ⟨d0, d1, _⟩ := HR.out
            exact bodyPost_ret (v := .tuple #[.agg #[.slice p5 X.length c5, .slice q5 T.length d5], .int .i64 0]) (by simp [results, Try.results26, go_sem, d0, d1]) rfl HF.out
      · have HA : Hid (unwA xs tr mark top = (([], []), 1)) := by show _ = _; unfold unwA unwB; rw [decide_eq_false hp]; simp
        rw [HA.out]
        obtain ⟨mk, rfl⟩ : ∃ k : Nat, mark = k := ⟨mark.toNat, by omega⟩
        have n1 : ¬ ((mk : Int) < 0) := by omega
        have n2 : ¬ ((tr.length : Int) < mk) := by omega
        clear hs hok hsp hwb hkn HFU HA eW0 hm
        by_cases h0 : top < 0
        · clear hp
          go_enter Try.func26, Try.ntmps26
          go_wp2_with fail
          refine HO.mono ?_
          rintro e w1 ⟨v, rfl, hb, hh⟩
          obtain ⟨h, m, rfl, hho, _, hmw⟩ := hh (by trivial)
          rw [← HE0.out] at hb
          obtain ⟨pw, cw, pt, ct, hblk, hrw, _, hmh⟩ := id hho
          have hcw : xs.length ≤ cw := by
            rcases hrw.2 with ⟨_, h'⟩ | ⟨g, cap, cur, hv, _, _, hc, _⟩
            · omega
            · simp only [Value.slice.injEq] at hv; omega
          have c0 : w1.cell? ⟨h, 0, none⟩ = some (.slice pw xs.length cw) := by simp [World.cell?, hblk]
          have c1' : w1.cell? ⟨h, 1, none⟩ = some (.slice pt tr.length ct) := by simp [World.cell?, hblk]
          have HB2 : Hid (Below W0.heap.size W0 w1) := hb
          clear hb HO hh hho hblk hrw hmh hmw
          have HR : Hid _ := (HBX.out w1 HB2.out).put (.slice none 0 0) (.slice none 0 0)
          have HBF : Hid _ := HB0.out w1 (.slice none 0 0) (.slice none 0 0) HB2.out
          obtain ⟨b0, b1, b2⟩ := HBX.out w1 HB2.out
          clear HBX HB0
          go_wp2
          obtain ⟨d0, d1, _⟩ := HR.out
          exact bodyPost_ret (v := .tuple #[.agg #[.slice none 0 0, .slice none 0 0], .int .i64 1]) (by simp [results, Try.results26, go_sem, d0, d1]) rfl (StoreA.none 1 HBF.out)
        · have n4 : (xs.length : Int) < top := by omega
          clear hp
          go_enter Try.func26, Try.ntmps26
          go_wp2_with fail
          refine HO.mono ?_
          rintro e w1 ⟨v, rfl, hb, hh⟩
          obtain ⟨h, m, rfl, hho, _, hmw⟩ := hh (by trivial)
          rw [← HE0.out] at hb
          obtain ⟨pw, cw, pt, ct, hblk, hrw, _, hmh⟩ := id hho
          have hcw : xs.length ≤ cw := by
            rcases hrw.2 with ⟨_, h'⟩ | ⟨g, cap, cur, hv, _, _, hc, _⟩
            · omega
            · simp only [Value.slice.injEq] at hv; omega
          have c0 : w1.cell? ⟨h, 0, none⟩ = some (.slice pw xs.length cw) := by simp [World.cell?, hblk]
          have c1' : w1.cell? ⟨h, 1, none⟩ = some (.slice pt tr.length ct) := by simp [World.cell?, hblk]
          have HB2 : Hid (Below W0.heap.size W0 w1) := hb
          clear hb HO hh hho hblk hrw hmh hmw
          have HR : Hid _ := (HBX.out w1 HB2.out).put (.slice none 0 0) (.slice none 0 0)
          have HBF : Hid _ := HB0.out w1 (.slice none 0 0) (.slice none 0 0) HB2.out
          obtain ⟨b0, b1, b2⟩ := HBX.out w1 HB2.out
          clear HBX HB0
          go_wp2
          obtain ⟨d0, d1, _⟩ := HR.out
          exact bodyPost_ret (v := .tuple #[.agg #[.slice none 0 0, .slice none 0 0], .int .i64 1]) (by simp [results, Try.results26, go_sem, d0, d1]) rfl (StoreA.none 1 HBF.out)
    · have HA : Hid (unwA xs tr mark top = (([], []), 1)) := by show _ = _; unfold unwA unwB; rw [decide_eq_false hm]; simp
      rw [HA.out]
      clear hs hok hsp hwb hkn HFU HA eW0
      by_cases h0 : mark < 0
      · clear hm
        go_enter Try.func26, Try.ntmps26
        go_wp2_with fail
        refine HO.mono ?_
        rintro e w1 ⟨v, rfl, hb, hh⟩
        obtain ⟨h, m, rfl, hho, _, hmw⟩ := hh (by trivial)
        rw [← HE0.out] at hb
        obtain ⟨pw, cw, pt, ct, hblk, hrw, _, hmh⟩ := id hho
        have hcw : xs.length ≤ cw := by
          rcases hrw.2 with ⟨_, h'⟩ | ⟨g, cap, cur, hv, _, _, hc, _⟩
          · omega
          · simp only [Value.slice.injEq] at hv; omega
        have c0 : w1.cell? ⟨h, 0, none⟩ = some (.slice pw xs.length cw) := by simp [World.cell?, hblk]
        have c1' : w1.cell? ⟨h, 1, none⟩ = some (.slice pt tr.length ct) := by simp [World.cell?, hblk]
        have HB2 : Hid (Below W0.heap.size W0 w1) := hb
        clear hb HO hh hho hblk hrw hmh hmw
        have HR : Hid _ := (HBX.out w1 HB2.out).put (.slice none 0 0) (.slice none 0 0)
        have HBF : Hid _ := HB0.out w1 (.slice none 0 0) (.slice none 0 0) HB2.out
        obtain ⟨b0, b1, b2⟩ := HBX.out w1 HB2.out
        clear HBX HB0
        go_wp2
        obtain ⟨d0, d1, _⟩ := HR.out
        exact bodyPost_ret (v := .tuple #[.agg #[.slice none 0 0, .slice none 0 0], .int .i64 1]) (by simp [results, Try.results26, go_sem, d0, d1]) rfl (StoreA.none 1 HBF.out)
      · have n4 : (tr.length : Int) < mark := by omega
        clear hm
        go_enter Try.func26, Try.ntmps26
        go_wp2_with fail
        refine HO.mono ?_
        rintro e w1 ⟨v, rfl, hb, hh⟩
        obtain ⟨h, m, rfl, hho, _, hmw⟩ := hh (by trivial)
        rw [← HE0.out] at hb
        obtain ⟨pw, cw, pt, ct, hblk, hrw, _, hmh⟩ := id hho
        have hcw : xs.length ≤ cw := by
          rcases hrw.2 with ⟨_, h'⟩ | ⟨g, cap, cur, hv, _, _, hc, _⟩
          · omega
          · simp only [Value.slice.injEq] at hv; omega
        have c0 : w1.cell? ⟨h, 0, none⟩ = some (.slice pw xs.length cw) := by simp [World.cell?, hblk]
        have c1' : w1.cell? ⟨h, 1, none⟩ = some (.slice pt tr.length ct) := by simp [World.cell?, hblk]
        have HB2 : Hid (Below W0.heap.size W0 w1) := hb
        clear hb HO hh hho hblk hrw hmh hmw
        have HR : Hid _ := (HBX.out w1 HB2.out).put (.slice none 0 0) (.slice none 0 0)
        have HBF : Hid _ := HB0.out w1 (.slice none 0 0) (.slice none 0 0) HB2.out
        obtain ⟨b0, b1, b2⟩ := HBX.out w1 HB2.out
        clear HBX HB0
        go_wp2
        obtain ⟨d0, d1, _⟩ := HR.out
        exact bodyPost_ret (v := .tuple #[.agg #[.slice none 0 0, .slice none 0 0], .int .i64 1]) (by simp [results, Try.results26, go_sem, d0, d1]) rfl (StoreA.none 1 HBF.out)

end Go.Proofs.Ytedkkghekboahaa

namespace Go.Proofs.Ytedkkghekboahaa
open Go Go.RowKit Go.Maps
set_option linter.unusedVariables false

theorem eqR_ref (w : World) (x y : Int) : (binOp .eql 70 (.iface 100 (.int .i64 x)) (.iface 100 (.int .i64 y))).run Try.prog w = .ok (.bool (x == y)) w := by kernel_rfl
theorem eqR_num (w : World) (x : Value) (y : Int) : (binOp .eql 70 (.iface 121 x) (.iface 100 (.int .i64 y))).run Try.prog w = .ok (.bool false) w := by kernel_rfl
theorem eqR_atom (w : World) (x : Value) (y : Int) : (binOp .eql 70 (.iface 122 x) (.iface 100 (.int .i64 y))).run Try.prog w = .ok (.bool false) w := by kernel_rfl
theorem eqR_str (w : World) (x : Value) (y : Int) : (binOp .eql 70 (.iface 123 x) (.iface 100 (.int .i64 y))).run Try.prog w = .ok (.bool false) w := by kernel_rfl
theorem eqR_any (w : World) (d : Cel) (y : Int) (hd : d.1 = 0 ∨ d.1 = 1 ∨ d.1 = 2 ∨ d.1 = 4) : (binOp .eql 70 (wv d) (.iface 100 (.int .i64 y))).run Try.prog w = .ok (.bool (decide (d.1 = 0 ∧ d.2.1 = y))) w := by
  obtain ⟨k, n, t⟩ := d
  simp only at hd ⊢
  rcases hd with rfl | rfl | rfl | rfl
  · have e : wv (0, n, t) = .iface 100 (.int .i64 n) := rfl
    rw [e, eqR_ref]
    by_cases h : n = y <;> simp [h]
  · have e : wv (1, n, t) = .iface 121 (.int .i64 n) := rfl
    rw [e, eqR_num]; simp
  · have e : wv (2, n, t) = .iface 122 (.string (strOfNums t)) := rfl
    rw [e, eqR_atom]; simp
  · have e : wv (4, n, t) = .iface 123 (.int .i64 n) := rfl
    rw [e, eqR_str]; simp
theorem SMap.empty {w : World} {m : Nat} (h : w.heap[m]? = some (.map #[] 0)) : SMap w m 0 (fun _ => 0) := by
  obtain ⟨D, ⟨es, clock, h1, r⟩, h2⟩ := SMap.made w
  rw [heap_alloc_new] at h1
  simp only [Option.some.injEq, Obj.map.injEq] at h1
  obtain ⟨rfl, rfl⟩ := h1
  exact ⟨D, ⟨_, _, h, r⟩, h2⟩
theorem set_all {P : Cel → Prop} {xs : List Cel} (h : ∀ i, i < xs.length → P (xs.getD i Cel.none)) {a : Nat} {c : Cel} (hc : P c) : ∀ i, i < (xs.set a c).length → P ((xs.set a c).getD i Cel.none) := fun i hi => by
  rw [List.length_set] at hi
  have e : (xs.set a c).getD i Cel.none = if a = i then c else xs.getD i Cel.none := by
    simp only [List.getD, List.getElem?_set]
    by_cases ha : a = i
    · subst ha; simp [hi]
    · simp [ha]
  rw [e]
  split
  · exact hc
  · exact h i hi
/-- What is bound is a store again, as far as its cells go. -/
theorem bndT_fine {P : Cel → Prop} {xs : List Cel} {tr : List Int} {a : Nat} {c : Cel} (hl : xs.length ≤ 20000) (h : ∀ i, i < xs.length → P (xs.getD i Cel.none)) (hc : P c) (hv : P (0, (a : Int), [])) :
    (bndT xs tr a c).1.1.length ≤ 20000 ∧ (bndT xs tr a c).1.2.length ≤ 20000 ∧ (∀ i, i < (bndT xs tr a c).1.1.length → P ((bndT xs tr a c).1.1.getD i Cel.none)) ∧ ((bndT xs tr a c).2 ≠ 0 → (bndT xs tr a c).1 = ([], [])) := by
  unfold bndT
  split
  · exact ⟨by simp, by simp, fun i hi => absurd hi (Nat.not_lt_zero _), fun _ => rfl⟩
  · split
    · exact ⟨by simp, by simp, fun i hi => absurd hi (Nat.not_lt_zero _), fun _ => rfl⟩
    · split
      · exact ⟨by simpa using hl, by simp; omega, set_all h hv, fun hh => absurd rfl hh⟩
      · exact ⟨by simpa using hl, by simp; omega, set_all h hc, fun hh => absurd rfl hh⟩

set_option maxHeartbeats 4000000 in
set_option maxRecDepth 100000 in
theorem implBind_any (p q pt : Option Addr) (c1 c2 cap : Nat) (a : Int) (c : Cel) (xs : List Cel) (tr : List Int) (w : World) (hx : xs.length ≤ 1000000000) (hy : tr.length ≤ 1000000000) (hbx : ∀ a, a < xs.length → Byte (xs.getD a Cel.none).2.2) (hbc : Byte c.2.2) (hc : CIn w p xs) (hi : IIn w q tr) (hin : BIn w pt c.2.2) :
    Calls Try.prog 29 #[.agg #[.slice p xs.length c1, .slice q tr.length c2], .int .i64 a, .agg #[.int .i64 c.1, .int .i64 c.2.1, .slice pt c.2.2.length cap]] w (StoreA (bndA xs tr a c) w) := by
  obtain ⟨k, n, t⟩ := c
  obtain ⟨W0, eW0⟩ : ∃ W0, W0 = ((w.alloc (.cells #[.slice p xs.length c1, .slice q tr.length c2] 36)).alloc (.cells #[.int .i64 k, .int .i64 n, .slice pt t.length cap] 31)).alloc (.cells #[.slice none 0 0, .slice none 0 0] 36) := ⟨_, rfl⟩
  have hb0 : Below w.heap.size w W0 := by rw [eW0]; exact (((Below.refl _ _).alloc (Nat.le_refl _) _).alloc (by simp) _).alloc (by simp; omega) _
  have hz0 : W0.heap.size = w.heap.size + 1 + 1 + 1 := by rw [eW0]; simp
  have k1 : W0.heap[w.heap.size + 1 + 1]? = some (.cells #[.slice none 0 0, .slice none 0 0] 36) := by
    rw [eW0]
    exact (heap_three w _ _ _).2
  have HBX : Hid (∀ W, Below W0.heap.size W0 W → Box2 W (w.heap.size + 1 + 1) (.slice none 0 0) (.slice none 0 0)) := fun W hW => Box2.of_block ((hW.block (w.heap.size + 1 + 1) (by omega)).trans k1)
  have HO := heapWithO_any p q pt c1 c2 cap k n t xs tr W0 hx hy (hc.below hb0) (hi.below hb0) (hin.below hb0)
  have HB0 : Hid (∀ W v0 v1, Below W0.heap.size W0 W → Below w.heap.size w ((W.setCell ⟨w.heap.size + 1 + 1, 0, none⟩ v0).setCell ⟨w.heap.size + 1 + 1, 1, none⟩ v1)) := fun W v0 v1 hW => below_put2 (Below.on hb0 hW) (by omega) _ _
  have HE0 : Hid _ := eW0
  have HZ0 : Hid _ := hz0
  have HBY : Hid (∀ a, a < xs.length → Byte (xs.getD a Cel.none).2.2) := hbx
  have HBC : Hid (Byte t) := hbc
  clear hc hi hin hb0 k1 hbx hz0 hbc
  unfold WithOutO at HO
  rw [eW0] at HO
  cases hv : vsB xs tr k n t.length
  · have HA : Hid (bndA xs tr a (k, n, t) = (([], []), 1)) := by show _ = _; unfold bndA; rw [if_neg (by simp [hv])]
    rw [HA.out]
    rw [hv] at HO
    clear hv HA eW0 HBY HBC
    go_enter Try.func29, Try.ntmps29
    go_wp2_with fail
    refine HO.mono ?_
    rintro e w1 ⟨v, u, rfl, hb, _⟩
    rw [← HE0.out] at hb
    have HBn : Hid (Below W0.heap.size W0 w1) := hb
    clear hb HO
    have HR : Hid _ := (HBX.out w1 HBn.out).put (.slice none 0 0) (.slice none 0 0)
    have HBF : Hid _ := HB0.out w1 (.slice none 0 0) (.slice none 0 0) HBn.out
    obtain ⟨b0, b1, b2⟩ := HBX.out w1 HBn.out
    clear HBX HB0
    go_wp2
    obtain ⟨d0, d1, _⟩ := HR.out
    exact bodyPost_ret (v := .tuple #[.agg #[.slice none 0 0, .slice none 0 0], .int .i64 1]) (by simp [results, Try.results29, go_sem, d0, d1]) rfl (StoreA.none 1 HBF.out)
  · rw [hv] at HO
    obtain ⟨g, hw, ho, hoc, ht⟩ := vsB_parts (c := (k, n, t)) hv
    have hl := g.shp.len
    have HV : Hid (∀ W h m, HeapO W h xs tr m 0 → Calls Try.prog 64 #[.pointer (some ⟨h, 0, none⟩), .int .i64 a] W fun e w' => e = .returned (.bool (varB xs a)) ∧ Below W.heap.size W w') := fun W h m H => holdsVariable_any h a xs tr W hl g.shp.knds H.at
    cases hva : varB xs a
    · have HA : Hid (bndA xs tr a (k, n, t) = (([], []), 1)) := by show _ = _; unfold bndA; rw [if_neg (by simp [hva])]
      rw [HA.out]
      rw [hva] at HV
      clear hv hva HA eW0 HBY HBC g hw ho hoc
      go_enter Try.func29, Try.ntmps29
      go_wp2_with fail
      refine HO.mono ?_
      rintro e w1 ⟨v, u, rfl, hb, hh⟩
      obtain ⟨h, m, rfl, rfl, hho, hm0, hmw⟩ := hh (by trivial)
      rw [← HE0.out] at hb hmw
      have HB1 : Hid (Below W0.heap.size W0 w1) := hb
      have HHO : Hid (HeapO w1 h xs tr m 0) := hho
      have HM0 : Hid (w1.heap[m]? = some (.map #[] 0)) := hm0
      have HMW : Hid (W0.heap.size ≤ m) := hmw
      clear hb HO hh hho hm0 hmw
      go_wp2_with fail
      refine (HV.out w1 h m HHO.out).mono ?_
      rintro e w2 ⟨rfl, hb2⟩
      have HBn : Hid (Below W0.heap.size W0 w2) := Below.on HB1.out hb2
      clear hb2 HV
      have HR : Hid _ := (HBX.out w2 HBn.out).put (.slice none 0 0) (.slice none 0 0)
      have HBF : Hid _ := HB0.out w2 (.slice none 0 0) (.slice none 0 0) HBn.out
      obtain ⟨b0, b1, b2⟩ := HBX.out w2 HBn.out
      clear HBX HB0
      go_wp2
      obtain ⟨d0, d1, _⟩ := HR.out
      exact bodyPost_ret (v := .tuple #[.agg #[.slice none 0 0, .slice none 0 0], .int .i64 1]) (by simp [results, Try.results29, go_sem, d0, d1]) rfl (StoreA.none 1 HBF.out)
    · obtain ⟨n0, rfl⟩ : ∃ j : Nat, a = j := ⟨a.toNat, by have := varB_at hva; omega⟩
      have hn0 : n0 < xs.length := by have := varB_at hva; omega
      rw [hva] at HV
      have HD : Hid (∀ h W, HeapAt W h xs tr → Calls Try.prog 45 #[.pointer (some ⟨h, 0, none⟩), wv (k, n, t)] W fun e w' => e = .returned (wv (drf xs (k, n, t))) ∧ Below W.heap.size W w') := fun h W H => deref_any h _ xs tr W g hw H
      have HWD : Hid (WdC xs (drf xs (k, n, t))) := (drf_word g hw).1
      have HFA : Hid ((okW (drf xs (k, n, t)).1 (drf xs (k, n, t)).2.1 (drf xs (k, n, t)).2.2.length = true) ∧ Byte (drf xs (k, n, t)).2.2) := (drf_ind g (P := fun c => okW c.1 c.2.1 c.2.2.length = true ∧ Byte c.2.2) (fun a ha _ => ⟨ho a ha, HBY.out a ha⟩) _ (k, n, t) (Nat.le_refl _) hw ⟨hoc, HBC.out⟩).1
      have HA : Hid (bndA xs tr n0 (k, n, t) = if (drf xs (k, n, t)).1 = 0 ∧ (drf xs (k, n, t)).2.1 = n0 then (([], []), 1) else bndT xs tr n0 (drf xs (k, n, t))) := by show _ = _; unfold bndA; rw [if_pos (by simp [hv, hva])]; rfl
      rw [HA.out]
      have HOK : Hid (∀ a, a < xs.length → okW (xs.getD a Cel.none).1 (xs.getD a Cel.none).2.1 (xs.getD a Cel.none).2.2.length = true) := ho
      have HSH : Hid (Shp xs) := g.shp
      clear hv hva HA eW0 HBC g hw ho hoc
      generalize drf xs (k, n, t) = d at HD HWD HFA ⊢
      have HEQ : ∀ W, (binOp .eql 70 (wv d) (.iface 100 (.int .i64 n0))).run Try.prog W = .ok (.bool (decide (d.1 = 0 ∧ d.2.1 = (n0 : Int)))) W := fun W => eqR_any W d n0 HWD.out.1
      by_cases hra : d.1 = 0 ∧ d.2.1 = n0
      · rw [if_pos hra]
        have ewv : wv d = .iface 100 (.int .i64 n0) := by unfold wv; rw [if_pos hra.1, hra.2]
        rw [ewv] at HD HEQ
        rw [decide_eq_true hra] at HEQ
        clear hra ewv HFA HWD HBY HOK
        go_enter Try.func29, Try.ntmps29
        go_wp2_with fail
        refine HO.mono ?_
        rintro e w1 ⟨v, u, rfl, hb, hh⟩
        obtain ⟨h, m, rfl, rfl, hho, hm0, hmw⟩ := hh (by trivial)
        rw [← HE0.out] at hb hmw
        have HB1 : Hid (Below W0.heap.size W0 w1) := hb
        have HHO : Hid (HeapO w1 h xs tr m 0) := hho
        have HM0 : Hid (w1.heap[m]? = some (.map #[] 0)) := hm0
        have HMW : Hid (W0.heap.size ≤ m) := hmw
        clear hb HO hh hho hm0 hmw
        go_wp2_with fail
        refine (HV.out w1 h m HHO.out).mono ?_
        rintro e w2 ⟨rfl, hb2⟩
        have HB2 : Hid (Below W0.heap.size W0 w2) := Below.on HB1.out hb2
        have HD2 := HD.out h w2 (HHO.out.below hb2).at
        clear hb2 HV HD
        go_wp2_with fail
        refine HD2.mono ?_
        rintro e w3 ⟨rfl, hb3⟩
        have HBn : Hid (Below W0.heap.size W0 w3) := Below.on HB2.out hb3
        clear hb3 HD2
        have HR : Hid _ := (HBX.out w3 HBn.out).put (.slice none 0 0) (.slice none 0 0)
        have HBF : Hid _ := HB0.out w3 (.slice none 0 0) (.slice none 0 0) HBn.out
        obtain ⟨b0, b1, b2⟩ := HBX.out w3 HBn.out
        clear HBX HB0
        go_wp2
        obtain ⟨d0, d1, _⟩ := HR.out
        exact bodyPost_ret (v := .tuple #[.agg #[.slice none 0 0, .slice none 0 0], .int .i64 1]) (by simp [results, Try.results29, go_sem, d0, d1]) rfl (StoreA.none 1 HBF.out)
      · rw [if_neg hra]
        rw [decide_eq_false hra] at HEQ
        have hF := bndT_fine (P := fun c => okW c.1 c.2.1 c.2.2.length = true ∧ Byte c.2.2) (tr := tr) (a := n0) (c := d) hl (fun i hi => ⟨HOK.out i hi, HBY.out i hi⟩) HFA.out ⟨okW_var n0 (by omega), fun x hx => by cases hx⟩
        have HBI : Hid (∀ W h m, HeapO W h xs tr m 0 → W.heap[m]? = some (.map #[] 0) → Calls Try.prog 65 #[.pointer (some ⟨h, 0, none⟩), .int .i64 n0, wv d] W (BindOut (bndT xs tr n0 d) h m 0 0 xs.length W)) := fun W h m H hm => bind_any h m 0 0 n0 xs tr (fun _ => 0) d W HSH.out hn0 (by omega) (by omega) ht HWD.out hra (fun _ => Nat.le_refl _) H (SMap.empty hm)
        generalize bndT xs tr n0 d = A at HBI hF ⊢
        obtain ⟨⟨X, T⟩, code⟩ := A
        simp only at hF
        have HSA : Hid (∀ W h, HeapAt W h X T → Calls Try.prog 61 #[.pointer (some ⟨h, 0, none⟩)] W (StoreOut X T W)) := fun W h H => store_any h X T W (by omega) (by omega) (fun a ha => (hF.2.2.1 a ha).1) (fun a ha => (hF.2.2.1 a ha).2) H
        have HNO : Hid (code ≠ 0 → (X, T) = ([], [])) := hF.2.2.2
        obtain ⟨ty, y, hvv⟩ := wv_iface d
        rw [hvv] at HBI HD HEQ
        clear hra HFA HWD HBY HOK HSH hF hvv
        go_enter Try.func29, Try.ntmps29
        go_wp2_with fail
        refine HO.mono ?_
        rintro e w1 ⟨v, u, rfl, hb, hh⟩
        obtain ⟨h, m, rfl, rfl, hho, hm0, hmw⟩ := hh (by trivial)
        rw [← HE0.out] at hb hmw
        have HB1 : Hid (Below W0.heap.size W0 w1) := hb
        have HHO : Hid (HeapO w1 h xs tr m 0) := hho
        have HM0 : Hid (w1.heap[m]? = some (.map #[] 0)) := hm0
        have HMW : Hid (W0.heap.size ≤ m) := hmw
        clear hb HO hh hho hm0 hmw
        go_wp2_with fail
        refine (HV.out w1 h m HHO.out).mono ?_
        rintro e w2 ⟨rfl, hb2⟩
        have HB2 : Hid (Below W0.heap.size W0 w2) := Below.on HB1.out hb2
        have HH2 : Hid (HeapO w2 h xs tr m 0 ∧ w2.heap[m]? = some (.map #[] 0)) := ⟨HHO.out.below hb2, (hb2.block m (by obtain ⟨_, _, _, _, _, _, _, h3⟩ := HHO.out; have := HHO.out.lt; omega)).trans HM0.out⟩
        have HD2 := HD.out h w2 HH2.out.1.at
        clear hb2 HV HD
        go_wp2_with fail
        refine HD2.mono ?_
        rintro e w3 ⟨rfl, hb3⟩
        have HB3 : Hid (Below W0.heap.size W0 w3) := Below.on HB2.out hb3
        have HBB := HBI.out w3 h m (HH2.out.1.below hb3) ((hb3.block m (by obtain ⟨_, _, _, _, _, _, _, h3⟩ := HH2.out.1; have := HH2.out.1.lt; omega)).trans HH2.out.2)
        clear hb3 HD2 HH2 HHO HM0 HBI
        go_wp2_with fail
        refine HBB.mono ?_
        rintro e w4 ⟨rfl, hb4, hok⟩
        have HB4 : Hid (Below W0.heap.size W0 w4) := HB3.out.trans (hb4.mono HMW.out)
        have HOK4 : Hid (code = 0 → HeapAt w4 h X T) := fun e0 => by obtain ⟨_, _, _, q, _⟩ := hok e0; exact q.at
        clear hb4 hok HBB
        by_cases hc0 : code = 0
        · subst hc0
          have HS4 : Hid _ := HSA.out w4 h (HOK4.out rfl)
          clear HSA HNO HOK4
          go_wp2_with fail
          refine Calls.mono HS4.out ?_
          rintro e w5 ⟨p5, q5, c5, d5, M, rfl, hoi, hoc, hM1, hM2, hb5⟩
          have HB5 : Hid (Below W0.heap.size W0 w5) := Below.on HB4.out hb5
          have HR : Hid _ := (HBX.out w5 HB5.out).put (.slice p5 X.length c5) (.slice q5 T.length d5)
          have HBF : Hid _ := HB0.out w5 (.slice p5 X.length c5) (.slice q5 T.length d5) HB5.out
          have HF : Hid (StoreA ((X, T), 0) w (.returned (.tuple #[.agg #[.slice p5 X.length c5, .slice q5 T.length d5], .int .i64 0])) ((w5.setCell ⟨w.heap.size + 1 + 1, 0, none⟩ (.slice p5 X.length c5)).setCell ⟨w.heap.size + 1 + 1, 1, none⟩ (.slice q5 T.length d5))) := by
            have hz := HZ0.out
            have h4 := HB4.out.size
            refine ⟨p5, q5, c5, d5, M, rfl, ⟨((hoi.1.set (by simp; omega) _).set (by simp; omega) _).mono (by omega), hoi.2⟩, ?_, by omega, by simpa using hM2, HBF.out⟩
            have := (hoc.set (a := ⟨w.heap.size + 1 + 1, 0, none⟩) (by simp; omega) (.slice p5 X.length c5)).set (a := ⟨w.heap.size + 1 + 1, 1, none⟩) (by simp; omega) (.slice q5 T.length d5)
            simpa using this
          obtain ⟨b0, b1, b2⟩ := HBX.out w5 HB5.out
          clear hoi hoc hM1 hM2 hb5 HS4 HBX HB0
          go_wp2
          obtain ⟨d0, d1, _⟩ := HR.out
          exact bodyPost_ret (v := .tuple #[.agg #[.slice p5 X.length c5, .slice q5 T.length d5], .int .i64 0]) (by simp [results, Try.results29, go_sem, d0, d1]) rfl HF.out
        · obtain ⟨rfl, rfl⟩ : X = [] ∧ T = [] := by have := HNO.out hc0; simpa using this
          have hcn : (code != 0) = true := by simpa using hc0
          have HBn : Hid (Below W0.heap.size W0 w4) := HB4.out
          clear HSA HNO HOK4 hc0
          have HR : Hid _ := (HBX.out w4 HBn.out).put (.slice none 0 0) (.slice none 0 0)
          have HBF : Hid _ := HB0.out w4 (.slice none 0 0) (.slice none 0 0) HBn.out
          obtain ⟨b0, b1, b2⟩ := HBX.out w4 HBn.out
          clear HBX HB0
          go_wp2
          obtain ⟨d0, d1, _⟩ := HR.out
          exact bodyPost_ret (v := .tuple #[.agg #[.slice none 0 0, .slice none 0 0], .int .i64 code]) (by simp [results, Try.results29, go_sem, d0, d1]) rfl (StoreA.none code HBF.out)

end Go.Proofs.Ytedkkghekboahaa

