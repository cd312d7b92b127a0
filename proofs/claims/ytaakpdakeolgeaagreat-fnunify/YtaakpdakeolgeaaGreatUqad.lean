/- Texts of StrU, Rd2, CopyT, Sz. Own work of the verifier. -/
import Derived.Test.YtaakpdakeolgeaaGreatUqac
import Derived.Test.YtaakpdakeolgeaaGreatUqaa
import Derived.Test.YtaakpdakeolgeaaGreatUqab
namespace Go.Proofs.YtaakpdakeolgeaaGreat
open Go Go.RowKit
set_option linter.unusedVariables false
def bOf (l : List UInt8) : ByteArray := ⟨l.toArray⟩
def strV (x : List UInt8) : Value := .string (bOf x)
def numsU (l : List UInt8) : List Int := l.map (fun u => (u.toNat : Int))
theorem strOf_numsU (l : List UInt8) : strOfNums (numsU l) = bOf l := by
  apply ba_ext
  rw [str_list, numsU, map_forth, ByteArray.toList_eq]; rfl
theorem byte_numsU (l : List UInt8) : Byte (numsU l) := fun x hx => by
  simp only [numsU, List.mem_map] at hx
  obtain ⟨u, _, rfl⟩ := hx
  have := u.toNat_lt
  omega
theorem cell_lit (w : World) (vs : List Value) (t : TypeId) (i : Nat) (h : i < vs.length) : (w.alloc (.cells vs.toArray t)).cell? ⟨w.heap.size, i, none⟩ = some vs[i] := by
  rw [World.cell?_alloc_new]
  simp [h]
end Go.Proofs.YtaakpdakeolgeaaGreat

namespace Go.Proofs.YtaakpdakeolgeaaGreat
open Go Go.RowKit
set_option linter.unusedVariables false
theorem Keep.cell {B U : Nat} {w w' : World} (h : Keep B U w w') {a : Addr} {v : Value} (hc : w.cell? a = some v) (ha : a.block < B ∨ U ≤ a.block) : w'.cell? a = some v := by
  have hb := h.block a.block (World.block_lt_of_cell? _ _ hc) ha
  unfold World.cell? at hc ⊢
  rw [hb]; exact hc
theorem Keep.of_below {B U : Nat} {w w' : World} (h : Below w.heap.size w w') : Keep B U w w' := ⟨h.os, h.tape, h.output, h.size, fun k hk _ => h.block k hk⟩
def nmU : List (List UInt8) := [[97], [102, 111, 111], [98, 49], [91, 93], [45], [43], [61], [58, 45], [44], [105, 115], [], [88, 32, 121], [92, 43], [123, 125], [33], [59], [46], [47, 42], [105, 116, 39, 115], [10, 128], [120, 111, 114], [109, 111, 100], [124], [42], [100, 121, 110, 97, 109, 105, 99], [64], [64, 64], [104, 101, 108, 108, 111, 95, 87, 111, 114, 108, 100]]
def nmV : List Value := nmU.map strV
theorem nm_made (w : World) (t : TypeId) (i : Nat) (h : i < 28) : (w.alloc (.cells nmV.toArray t)).cell? ⟨w.heap.size, i, none⟩ = some (.string (bOf (nmU.getD i []))) := by
  rw [cell_lit w nmV t i h]
  simp only [nmV, List.getElem_map, List.getD, List.getElem?_eq_getElem (show i < nmU.length from h)]; rfl
def nameAt (x : Nat) : List UInt8 := nmU.getD (if x < 180 then x % 6 else x % 28) []
def NameOut (w : World) (R : Nat) (p : Option Addr) (c : Nat) (xs : List Int) (i : Nat) (e : Ending) (w' : World) : Prop :=
  ∃ g n cap, e = .returned (.slice (some ⟨g, 0, none⟩) n cap) ∧ n = (numsU (nameAt (rdI xs i).toNat)).length ∧ Keep R (R + 1) w w' ∧ RdIn w' R p c xs (rdN xs i) ∧ w.heap.size ≤ g ∧ OwnT w' w.heap.size (some ⟨g, 0, none⟩) n cap (numsU (nameAt (rdI xs i).toNat))
set_option maxRecDepth 100000 in
set_option maxHeartbeats 2000000 in
theorem l4name_any (R c i : Nat) (p : Option Addr) (xs : List Int) (w : World) (h : RdIn w R p c xs i) :
    Calls Tryz.prog 75 #[.pointer (some ⟨R, 0, none⟩)] w (NameOut w R p c xs i) := by
  have HH : Hid (RdIn w R p c xs i) := h
  have hr := rdI_rng h.bytes i
  obtain ⟨wA, eA⟩ : ∃ wA, wA = w.alloc (.cells nmV.toArray 9) := ⟨_, rfl⟩
  have HNM : Hid (∀ j, j < 28 → wA.cell? ⟨w.heap.size, j, none⟩ = some (.string (bOf (nmU.getD j [])))) := fun j hj => by rw [eA]; exact nm_made w _ j hj
  have HBA : Hid (Below w.heap.size w wA) := by rw [eA]; exact (Below.refl _ _).alloc (Nat.le_refl _) _
  have HSA : Hid (w.heap.size < wA.heap.size) := by show _ < _; rw [eA]; simp
  clear h
  go_enter Tryz.func75, Tryz.ntmps75
  go_wp2_with fail
  have eA' : wA = w.alloc (Obj.cells #[.string ⟨#[97]⟩, .string ⟨#[102, 111, 111]⟩, .string ⟨#[98, 49]⟩, .string ⟨#[91, 93]⟩, .string ⟨#[45]⟩, .string ⟨#[43]⟩, .string ⟨#[61]⟩, .string ⟨#[58, 45]⟩, .string ⟨#[44]⟩, .string ⟨#[105, 115]⟩, .string ⟨#[]⟩, .string ⟨#[88, 32, 121]⟩, .string ⟨#[92, 43]⟩, .string ⟨#[123, 125]⟩, .string ⟨#[33]⟩, .string ⟨#[59]⟩, .string ⟨#[46]⟩, .string ⟨#[47, 42]⟩, .string ⟨#[105, 116, 39, 115]⟩, .string ⟨#[10, 128]⟩, .string ⟨#[120, 111, 114]⟩, .string ⟨#[109, 111, 100]⟩, .string ⟨#[124]⟩, .string ⟨#[42]⟩, .string ⟨#[100, 121, 110, 97, 109, 105, 99]⟩, .string ⟨#[64]⟩, .string ⟨#[64, 64]⟩, .string ⟨#[104, 101, 108, 108, 111, 95, 87, 111, 114, 108, 100]⟩] 9) := by rw [eA]; rfl
  rw [← eA']
  clear eA eA'
  have HRA := HH.out.below HBA.out HH.out.lt
  refine (next_any R c i p xs wA HRA).mono ?_
  rintro e w2 ⟨rfl, hk2, hs2, hR2⟩
  have HR2 : Hid (RdIn w2 R p c xs (rdN xs i)) := hR2
  have HK2 : Hid (Keep R (R + 1) w w2) := (Keep.of_below HBA.out).trans hk2
  obtain ⟨x, ex⟩ : ∃ x : Nat, rdI xs i = x := ⟨(rdI xs i).toNat, by omega⟩
  rw [ex] at hr ⊢
  have HXE : Hid ((rdI xs i).toNat = x) := by show _ = _; rw [ex]; rfl
  have FIN : Hid (∀ j s, nameAt x = nmU.getD j [] → j < 28 → s = bOf (nmU.getD j []) → w2.cell? ⟨w.heap.size, j, none⟩ = some (.string s) ∧ ∃ w3 n cap, (convert 9 22 (.string s)).run Tryz.prog w2 = .ok (.slice (some ⟨w2.heap.size, 0, none⟩) n cap) w3 ∧ NameOut w R p c xs i (.returned (.slice (some ⟨w2.heap.size, 0, none⟩) n cap)) w3) := by
    intro j s hj hj28 rfl
    refine ⟨hk2.cell (HNM.out j hj28) (.inr HH.out.lt), ?_⟩
    obtain ⟨w3, cap, hcv, hb3, hot⟩ := conv_bytes w2 (numsU (nmU.getD j [])) (byte_numsU _) 9 Tryz.underlying9
    rw [strOf_numsU] at hcv
    have hsz : w.heap.size ≤ w2.heap.size := HK2.out.size
    refine ⟨w3, _, cap, hcv, w2.heap.size, _, cap, rfl, by rw [HXE.out, hj], Keep.trans HK2.out ⟨hb3.os, hb3.tape, hb3.output, hb3.size, fun k hk _ => hb3.block k hk⟩, HR2.out.below hb3 HR2.out.lt, hsz, ?_⟩
    rw [HXE.out, hj]
    refine ⟨hot.1, fun hn => ?_⟩
    obtain ⟨g, eg, h1, h2⟩ := hot.2 hn
    exact ⟨g, eg, Nat.le_trans hsz h1, h2⟩
  clear hR2 hk2 HNM ex HRA hs2
  by_cases hlt : x < 180
  · obtain ⟨j, ej⟩ : ∃ j, j = x % 6 := ⟨_, rfl⟩
    have hj6 : j < 6 := by omega
    obtain ⟨s, es⟩ : ∃ s, s = bOf (nmU.getD j []) := ⟨_, rfl⟩
    obtain ⟨hcell, w3, n, cap, hcv, hout⟩ := FIN.out j s (by unfold nameAt; rw [if_pos hlt, ej]) (by omega) es
    have HO : Hid _ := hout
    have hmod : (x : Int).tmod 6 = (j : Int) := by rw [ej, Int.tmod_eq_emod_of_nonneg (by omega)]; rfl
    clear FIN es ej hout
    go_wp2_with fail
    go_ret
    exact HO.out
  · obtain ⟨j, ej⟩ : ∃ j, j = x % 28 := ⟨_, rfl⟩
    have hj6 : j < 28 := by omega
    obtain ⟨s, es⟩ : ∃ s, s = bOf (nmU.getD j []) := ⟨_, rfl⟩
    obtain ⟨hcell, w3, n, cap, hcv, hout⟩ := FIN.out j s (by unfold nameAt; rw [if_neg hlt, ej]) (by omega) es
    have HO : Hid _ := hout
    have hmod : (x : Int).tmod 28 = (j : Int) := by rw [ej, Int.tmod_eq_emod_of_nonneg (by omega)]; rfl
    clear FIN es ej hout
    go_wp2_with fail
    go_ret
    exact HO.out
end Go.Proofs.YtaakpdakeolgeaaGreat

namespace Go.Proofs.YtaakpdakeolgeaaGreat
open Go Go.RowKit
set_option linter.unusedVariables false
end Go.Proofs.YtaakpdakeolgeaaGreat

namespace Go.Proofs.YtaakpdakeolgeaaGreat
open Go Go.RowKit
set_option linter.unusedVariables false
end Go.Proofs.YtaakpdakeolgeaaGreat

