/- Texts of Rd1, DrawP, Rd2. Own work of the verifier. -/
import Derived.Test.YtbfhpnacoigfkaaDoorMarkG
import Derived.Test.YtbfhpnacoigfkaaDoorFoA
import Derived.Test.YtbfhpnacoigfkaaDoorDefS
namespace Go.Proofs.YtbfhpnacoigfkaaDoor
open Go Go.RowKit
set_option linter.unusedVariables false

/-- What the reader reads at a place: 0 behind the end. -/
def rdI (xs : List Int) (i : Nat) : Int := if i < xs.length then xs.getD i 0 else 0
/-- Where it stands then. -/
def rdN (xs : List Int) (i : Nat) : Nat := if i < xs.length then i + 1 else i
theorem rdI_rng {xs : List Int} (hb : Bytes xs) (i : Nat) : 0 ≤ rdI xs i ∧ rdI xs i < 256 := by
  unfold rdI; split
  · have := hb.at i; omega
  · omega
theorem rdN_le {xs : List Int} {i : Nat} (h : i ≤ xs.length) : rdN xs i ≤ xs.length := by unfold rdN; split <;> omega

/-- A reader at R of the bytes xs, which lie below it: it stands at i. -/
structure RdIn (w : World) (R : Nat) (p : Option Addr) (c : Nat) (xs : List Int) (i : Nat) : Prop where
  at0 : w.cell? ⟨R, 0, none⟩ = some (.slice p xs.length c)
  at1 : w.cell? ⟨R, 1, none⟩ = some (.int .i64 i)
  fz : w.frozen? ⟨R, 1, none⟩ = false
  lt : R < w.heap.size
  bytes : Bytes xs
  small : xs.length ≤ 500
  le : i ≤ xs.length
  text : BIn w p xs
  low : 0 < xs.length → ∀ a, p = some a → a.block < R
theorem RdIn.keep {w w' : World} {R : Nat} {p : Option Addr} {c : Nat} {xs : List Int} {i B U : Nat} (h : RdIn w R p c xs i) (k : Keep B U w w') (hR : R < B) : RdIn w' R p c xs i := by
  have hb : Below (R + 1) w w' := k.below hR (by have := h.lt; omega)
  refine ⟨(hb.cell (p := ⟨R, 0, none⟩) (Nat.lt_succ_self _)).trans h.at0, (hb.cell (p := ⟨R, 1, none⟩) (Nat.lt_succ_self _)).trans h.at1, (hb.frozen (p := ⟨R, 1, none⟩) (Nat.lt_succ_self _)).trans h.fz, Nat.lt_of_lt_of_le h.lt hb.size, h.bytes, h.small, h.le, ?_, h.low⟩
  intro hn
  obtain ⟨b, o, rfl, hc⟩ := h.text hn
  exact ⟨b, o, rfl, fun j hj => (hb.cell (p := ⟨b, o + j, none⟩) (Nat.lt_succ_of_lt (h.low hn ⟨b, o, none⟩ rfl))).trans (hc j hj)⟩
theorem RdIn.below {w w' : World} {R : Nat} {p : Option Addr} {c : Nat} {xs : List Int} {i B : Nat} (h : RdIn w R p c xs i) (k : Below B w w') (hR : R < B) : RdIn w' R p c xs i :=
  h.keep (B := B) (U := w.heap.size) ⟨k.os, k.tape, k.output, k.size, fun j hj hp => k.block j (by omega)⟩ hR

theorem next_any (R c i : Nat) (p : Option Addr) (xs : List Int) (w : World) (h : RdIn w R p c xs i) :
    Calls Tryd.prog 24 #[.pointer (some ⟨R, 0, none⟩)] w fun e w' => e = .returned (.int .i64 (rdI xs i)) ∧ Keep R (R + 1) w w' ∧ w'.heap.size = w.heap.size ∧ RdIn w' R p c xs (rdN xs i) := by
  have h0 := h.at0
  have h1 := h.at1
  have hf := h.fz
  have hs := h.small
  have HH : Hid (RdIn w R p c xs i) := h
  by_cases hlt : i < xs.length
  · rw [show rdI xs i = xs.getD i 0 by unfold rdI; rw [if_pos hlt], show rdN xs i = i + 1 by unfold rdN; rw [if_pos hlt]]
    obtain ⟨b, o, rfl, hc⟩ := h.text (by omega)
    have hx := hc i hlt
    have hr := h.bytes.at i
    obtain ⟨x, ex⟩ : ∃ x, x = xs.getD i 0 := ⟨_, rfl⟩
    rw [← ex] at hx hr ⊢
    obtain ⟨n, en⟩ : ∃ n, n = xs.length := ⟨_, rfl⟩
    rw [← en] at h0 hs hlt
    have HE : Hid (n = xs.length) := en
    have FIN : Hid (∀ k, Keep R (R + 1) w ((w.drewN k).setCell ⟨R, 1, none⟩ (.int .i64 (i + 1 : Nat))) ∧ ((w.drewN k).setCell ⟨R, 1, none⟩ (.int .i64 (i + 1 : Nat))).heap.size = w.heap.size ∧ RdIn ((w.drewN k).setCell ⟨R, 1, none⟩ (.int .i64 (i + 1 : Nat))) R (some ⟨b, o, none⟩) c xs (i + 1)) := by
      intro k
      have hk : Keep R (R + 1) w ((w.drewN k).setCell ⟨R, 1, none⟩ (.int .i64 (i + 1 : Nat))) := ⟨rfl, rfl, rfl, by simp, fun j _ hp => by rw [heap_setCell_other _ _ _ _ (by simp; omega)]; rfl⟩
      refine ⟨hk, by simp, ?_⟩
      refine ⟨?_, World.cell?_setCell_same' _ _ _ (by show (w.cell? _).isSome = true; rw [h1]; rfl), ?_, by have := HH.out.lt; simpa using this, HH.out.bytes, HH.out.small, by omega, ?_, HH.out.low⟩
      · rw [World.cell?_setCell_other _ _ _ _ (by intro e; simp only [Addr.mk.injEq] at e; omega)]; exact HH.out.at0
      · rw [World.frozen?_setCell]; exact hf
      · intro hn
        refine ⟨b, o, rfl, fun j hj => ?_⟩
        rw [World.cell?_setCell_other _ _ _ _ (by intro e; simp only [Addr.mk.injEq] at e; have := HH.out.low hn _ rfl; simp only at this; omega)]
        exact hc j hj
    clear ex hc h en
    go_enter Tryd.func24, Tryd.ntmps24
    go_wp2
    go_region
    all_goals go_wp2
    go_region
    all_goals go_wp2
    all_goals go_ret
    exact ⟨rfl, FIN.out 2⟩
  · rw [show rdI xs i = 0 by unfold rdI; rw [if_neg hlt], show rdN xs i = i by unfold rdN; rw [if_neg hlt]]
    have hi : i = xs.length := by have := h.le; omega
    obtain ⟨n, en⟩ : ∃ n, n = xs.length := ⟨_, rfl⟩
    rw [← en] at h0 hs hi
    subst hi
    have HE : Hid (i = xs.length) := en
    clear h en
    go_enter Tryd.func24, Tryd.ntmps24
    go_wp2
    go_region
    all_goals go_wp2
    all_goals go_ret
    exact ⟨rfl, Keep.of_grown (row := none) ⟨rfl, rfl, rfl, Nat.le_refl _, fun _ _ _ => rfl⟩ (by intro k e; cases e), rfl, HH.out.below (B := w.heap.size) (below_drewN (Below.refl _ _) 1) HH.out.lt⟩

theorem take_bin {w : World} {p : Option Addr} {xs : List Int} (h : BIn w p xs) (n : Nat) : BIn w p (xs.take n) := by
  intro hn
  rw [List.length_take] at hn
  obtain ⟨b, o, rfl, hc⟩ := h (by omega)
  refine ⟨b, o, rfl, fun i hi => ?_⟩
  rw [List.length_take] at hi
  rw [hc i (by omega), List.getD, List.getD, List.getElem?_take_of_lt (by omega)]

theorem l4open_any (p : Option Addr) (c : Nat) (xs : List Int) (w : World) (hb : Bytes xs) (hn : xs.length ≤ 1048576) (hc : xs.length ≤ c) (hx : BIn w p xs) :
    Calls Tryd.prog 23 #[.slice p xs.length c] w fun e w' => e = .returned (.pointer (some ⟨w.heap.size, 0, none⟩)) ∧ Below w.heap.size w w' ∧ w'.heap.size = w.heap.size + 1 ∧ RdIn w' w.heap.size p c (xs.take 500) 0 := by
  have R : ∀ m : Nat, m = (xs.take 500).length → Hid (Below w.heap.size w (w.alloc (Obj.cells #[.slice p m c, .int .i64 0] 73)) ∧ (w.alloc (Obj.cells #[.slice p m c, .int .i64 0] 73)).heap.size = w.heap.size + 1 ∧ RdIn (w.alloc (Obj.cells #[.slice p m c, .int .i64 0] 73)) w.heap.size p c (xs.take 500) 0) := by
    intro m hm
    have hbl := (Below.refl w.heap.size w).alloc (Nat.le_refl _) (Obj.cells #[.slice p m c, .int .i64 0] 73)
    have hnew := heap_alloc_new w (Obj.cells #[.slice p m c, .int .i64 0] 73)
    refine ⟨hbl, by simp, ?_⟩
    refine ⟨?_, ?_, ?_, by simp, fun x hx => hb x (List.mem_of_mem_take hx), by simp; omega, by omega, ?_, fun h0 a ea => ?_⟩
    · rw [← hm]; unfold World.cell?; simp only [hnew]; rfl
    · unfold World.cell?; simp only [hnew]; rfl
    · exact frozen_of_row _ _ _ _ _ hnew
    · intro h0
      obtain ⟨b, o, rfl, hh⟩ := take_bin hx 500 h0
      exact ⟨b, o, rfl, fun j hj => (hbl.cell (p := ⟨b, o + j, none⟩) (World.block_lt_of_cell? _ _ (hh j hj))).trans (hh j hj)⟩
    · obtain ⟨b, o, rfl, hh⟩ := take_bin hx 500 h0
      obtain rfl := Option.some.inj ea
      exact World.block_lt_of_cell? _ _ (hh 0 h0)
  by_cases h5 : 500 < xs.length
  · have RR := R 500 (by rw [List.length_take]; omega)
    clear R hx hb
    obtain ⟨n, en⟩ : ∃ n, n = xs.length := ⟨_, rfl⟩
    rw [← en] at hn hc h5 ⊢
    have HE : Hid (n = xs.length) := en
    clear en
    go_enter Tryd.func23, Tryd.ntmps23
    go_wp2
    go_ret
    exact ⟨rfl, RR.out⟩
  · have RR := R xs.length (by rw [List.length_take]; omega)
    clear R hx hb
    obtain ⟨n, en⟩ : ∃ n, n = xs.length := ⟨_, rfl⟩
    rw [← en] at hn hc h5 RR ⊢
    have HE : Hid (n = xs.length) := en
    clear en
    go_enter Tryd.func23, Tryd.ntmps23
    go_wp2
    go_ret
    exact ⟨rfl, RR.out⟩

end Go.Proofs.YtbfhpnacoigfkaaDoor

namespace Go.Proofs.YtbfhpnacoigfkaaDoor
open Go Go.RowKit
set_option linter.unusedVariables false

def nm2U : List (List UInt8) := [[64, 64], [114], [113], [45], [112], [61], [97], [88, 32, 121], [43], [33], [59], [92, 43], [102, 111, 111], [46]]
def pri2 : List Int := [700, 200, 900, 500, 1200, 1, 999, 1000, 0, 700]
/-- One operator more, by chance: the table and the reader's place behind it. -/
def stepO (xs : List Int) (s : List Cel × Nat) : List Cel × Nat :=
  let a := (rdI xs s.2).toNat
  let v := (rdI xs (rdN xs s.2)).toNat
  let r := addR s.1 (pri2.getD (v % 10) 0) ((v / 10 % 7 : Nat) : Int) (numsU (nm2U.getD (a % 14) []))
  (if r.2 = 0 then r.1 else s.1, rdN xs (rdN xs s.2))
def iterO (xs : List Int) : Nat → List Cel × Nat → List Cel × Nat
  | 0, s => s
  | k + 1, s => iterO xs k (stepO xs s)
/-- The table that is drawn from place i on, and the place behind it. -/
def opsF (xs : List Int) (i : Nat) : List Cel × Nat :=
  if (rdI xs i).toNat % 6 = 0 then iterO xs ((rdI xs (rdN xs i)).toNat % 4) (putO [] (1000, 1, [44]), rdN xs (rdN xs i))
  else iterO xs ((rdI xs i).toNat % 6) (dTab, rdN xs i)
theorem stepO_tab {xs : List Int} {s : List Cel × Nat} (h : tabB s.1 = true) : tabB (stepO xs s).1 = true := by
  unfold stepO
  simp only
  split
  · rename_i h0
    obtain ⟨h1, h2⟩ := took_of h0
    rw [h2]; exact took_tab h1
  · exact h
theorem stepO_le {xs : List Int} {s : List Cel × Nat} (h : s.2 ≤ xs.length) : (stepO xs s).2 ≤ xs.length := rdN_le (rdN_le h)
theorem iterO_tab {xs : List Int} : ∀ (k : Nat) {s : List Cel × Nat}, tabB s.1 = true → tabB (iterO xs k s).1 = true
  | 0, _, h => h
  | k + 1, _, h => iterO_tab k (stepO_tab h)
theorem opsF_tab (xs : List Int) (i : Nat) : tabB (opsF xs i).1 = true := by
  unfold opsF
  split
  · exact iterO_tab _ tab_comma
  · exact iterO_tab _ tab_dTab

end Go.Proofs.YtbfhpnacoigfkaaDoor

namespace Go.Proofs.YtbfhpnacoigfkaaDoor
open Go Go.RowKit
set_option linter.unusedVariables false

theorem Keep.cell {B U : Nat} {w w' : World} (h : Keep B U w w') {a : Addr} {v : Value} (hc : w.cell? a = some v) (ha : a.block < B ∨ U ≤ a.block) : w'.cell? a = some v := by
  have hb := h.block a.block (World.block_lt_of_cell? _ _ hc) ha
  unfold World.cell? at hc ⊢
  rw [hb]; exact hc

theorem Keep.of_below {B U : Nat} {w w' : World} (h : Below w.heap.size w w') : Keep B U w w' := ⟨h.os, h.tape, h.output, h.size, fun k hk _ => h.block k hk⟩
/-- The names that are drawn. -/
def nmU : List (List UInt8) := [[97], [102, 111, 111], [98, 49], [91, 93], [45], [43], [61], [58, 45], [44], [105, 115], [], [88, 32, 121], [92, 43], [123, 125], [33], [59], [46], [47, 42], [105, 116, 39, 115], [10, 128], [120, 111, 114], [109, 111, 100], [124], [42], [100, 121, 110, 97, 109, 105, 99], [64], [64, 64], [104, 101, 108, 108, 111, 95, 87, 111, 114, 108, 100]]
def nmV : List Value := nmU.map strV
theorem nm_made (w : World) (t : TypeId) (i : Nat) (h : i < 28) : (w.alloc (.cells nmV.toArray t)).cell? ⟨w.heap.size, i, none⟩ = some (.string (bOf (nmU.getD i []))) := by
  rw [cell_lit w nmV t i h]
  simp only [nmV, List.getElem_map, List.getD, List.getElem?_eq_getElem (show i < nmU.length from h)]; rfl
def nameAt (x : Nat) : List UInt8 := nmU.getD (if x < 180 then x % 6 else x % 28) []

/-- A name by chance is the call's own. -/
def NameOut (w : World) (R : Nat) (p : Option Addr) (c : Nat) (xs : List Int) (i : Nat) (e : Ending) (w' : World) : Prop :=
  ∃ g n cap, e = .returned (.slice (some ⟨g, 0, none⟩) n cap) ∧ n = (numsU (nameAt (rdI xs i).toNat)).length ∧ Keep R (R + 1) w w' ∧ RdIn w' R p c xs (rdN xs i) ∧ w.heap.size ≤ g ∧ OwnT w' w.heap.size (some ⟨g, 0, none⟩) n cap (numsU (nameAt (rdI xs i).toNat))

set_option maxRecDepth 100000 in
set_option maxHeartbeats 2000000 in
theorem l4name_any (R c i : Nat) (p : Option Addr) (xs : List Int) (w : World) (h : RdIn w R p c xs i) :
    Calls Tryd.prog 27 #[.pointer (some ⟨R, 0, none⟩)] w (NameOut w R p c xs i) := by
  have HH : Hid (RdIn w R p c xs i) := h
  have hr := rdI_rng h.bytes i
  obtain ⟨wA, eA⟩ : ∃ wA, wA = w.alloc (.cells nmV.toArray 9) := ⟨_, rfl⟩
  have HNM : Hid (∀ j, j < 28 → wA.cell? ⟨w.heap.size, j, none⟩ = some (.string (bOf (nmU.getD j [])))) := fun j hj => by rw [eA]; exact nm_made w _ j hj
  have HBA : Hid (Below w.heap.size w wA) := by rw [eA]; exact (Below.refl _ _).alloc (Nat.le_refl _) _
  have HSA : Hid (w.heap.size < wA.heap.size) := by show _ < _; rw [eA]; simp
  clear h
  go_enter Tryd.func27, Tryd.ntmps27
  go_wp2_with fail
  have eA' : wA = w.alloc (Obj.cells #[.string ⟨#[97]⟩, .string ⟨#[102, 111, 111]⟩, .string ⟨#[98, 49]⟩, .string ⟨#[91, 93]⟩, .string ⟨#[45]⟩, .string ⟨#[43]⟩, .string ⟨#[61]⟩, .string ⟨#[58, 45]⟩, .string ⟨#[44]⟩, .string ⟨#[105, 115]⟩, .string ⟨#[]⟩, .string ⟨#[88, 32, 121]⟩, .string ⟨#[92, 43]⟩, .string ⟨#[123, 125]⟩, .string ⟨#[33]⟩, .string ⟨#[59]⟩, .string ⟨#[46]⟩, .string ⟨#[47, 42]⟩, .string ⟨#[105, 116, 39, 115]⟩, .string ⟨#[10, 128]⟩, .string ⟨#[120, 111, 114]⟩, .string ⟨#[109, 111, 100]⟩, .string ⟨#[124]⟩, .string ⟨#[42]⟩, .string ⟨#[100, 121, 110, 97, 109, 105, 99]⟩, .string ⟨#[64]⟩, .string ⟨#[64, 64]⟩, .string ⟨#[104, 101, 108, 108, 111, 95, 87, 111, 114, 108, 100]⟩] 9) := by rw [eA]; rfl
  rw [← eA']
  clear eA eA'
  have HRA := HH.out.below HBA.out HH.out.lt
  refine (next_any R c i p xs wA HRA).mono ?_
  rintro e w2 ⟨rfl, hk2, hs2, hR2⟩
  have HR2 : Hid (RdIn w2 R p c xs (rdN xs i)) := hR2
  have HK2 : Hid (Keep R (R + 1) w w2) := (Keep.of_below HBA.out).trans hk2
  obtain ⟨x, ex⟩ : ∃ x : Nat, rdI xs i = x := ⟨(rdI xs i).toNat, by omega⟩
  rw [ex] at hr ⊢
  have HXE : Hid ((rdI xs i).toNat = x) := by show _ = _; rw [ex]; rfl
  have FIN : Hid (∀ j s, nameAt x = nmU.getD j [] → j < 28 → s = bOf (nmU.getD j []) → w2.cell? ⟨w.heap.size, j, none⟩ = some (.string s) ∧ ∃ w3 n cap, (convert 9 27 (.string s)).run Tryd.prog w2 = .ok (.slice (some ⟨w2.heap.size, 0, none⟩) n cap) w3 ∧ NameOut w R p c xs i (.returned (.slice (some ⟨w2.heap.size, 0, none⟩) n cap)) w3) := by
    intro j s hj hj28 rfl
    refine ⟨hk2.cell (HNM.out j hj28) (.inr HH.out.lt), ?_⟩
    obtain ⟨w3, cap, hcv, hb3, hot⟩ := conv_bytes w2 (numsU (nmU.getD j [])) (byte_numsU _) 9 Tryd.underlying9
    rw [strOf_numsU] at hcv
    have hsz : w.heap.size ≤ w2.heap.size := HK2.out.size
    refine ⟨w3, _, cap, hcv, w2.heap.size, _, cap, rfl, by rw [HXE.out, hj], Keep.trans HK2.out ⟨hb3.os, hb3.tape, hb3.output, hb3.size, fun k hk _ => hb3.block k hk⟩, HR2.out.below hb3 HR2.out.lt, hsz, ?_⟩
    rw [HXE.out, hj]
    refine ⟨hot.1, fun hn => ?_⟩
    obtain ⟨g, eg, h1, h2⟩ := hot.2 hn
    exact ⟨g, eg, Nat.le_trans hsz h1, h2⟩
  clear hR2 hk2 HNM ex HRA hs2
  by_cases hlt : x < 180
  · obtain ⟨j, ej⟩ : ∃ j, j = x % 6 := ⟨_, rfl⟩
    have hj6 : j < 6 := by omega
    obtain ⟨s, es⟩ : ∃ s, s = bOf (nmU.getD j []) := ⟨_, rfl⟩
    obtain ⟨hcell, w3, n, cap, hcv, hout⟩ := FIN.out j s (by unfold nameAt; rw [if_pos hlt, ej]) (by omega) es
    have HO : Hid _ := hout
    have hmod : (x : Int).tmod 6 = (j : Int) := by rw [ej, Int.tmod_eq_emod_of_nonneg (by omega)]; rfl
    clear FIN es ej hout
    go_wp2_with fail
    go_ret
    exact HO.out
  · obtain ⟨j, ej⟩ : ∃ j, j = x % 28 := ⟨_, rfl⟩
    have hj6 : j < 28 := by omega
    obtain ⟨s, es⟩ : ∃ s, s = bOf (nmU.getD j []) := ⟨_, rfl⟩
    obtain ⟨hcell, w3, n, cap, hcv, hout⟩ := FIN.out j s (by unfold nameAt; rw [if_neg hlt, ej]) (by omega) es
    have HO : Hid _ := hout
    have hmod : (x : Int).tmod 28 = (j : Int) := by rw [ej, Int.tmod_eq_emod_of_nonneg (by omega)]; rfl
    clear FIN es ej hout
    go_wp2_with fail
    go_ret
    exact HO.out

end Go.Proofs.YtbfhpnacoigfkaaDoor

