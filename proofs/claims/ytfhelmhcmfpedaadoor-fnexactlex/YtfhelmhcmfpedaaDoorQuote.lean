/- Quoting, both sides. Own work of the verifier. -/
import Derived.Test.YtfhelmhcmfpedaaDoorOwn
import Derived.Test.YtfhelmhcmfpedaaDoorLawPlain
namespace Go.Proofs.YtfhelmhcmfpedaaDoor
open Go Go.RowKit
set_option linter.unusedVariables false

def hexL : List Int := [48, 49, 50, 51, 52, 53, 54, 55, 56, 57, 97, 98, 99, 100, 101, 102]
def hexD (k : Int) : Int := hexL.getD k.toNat 0
/-- How one byte is written between quotes. -/
def q1 (c : Int) : List Int :=
  if c = 39 ∨ c = 92 then [92, c] else if c = 10 then [92, 110] else if c = 9 then [92, 116]
  else if c < 32 ∨ 126 < c then [92, 120, hexD (c / 16), hexD (c % 16), 92] else [c]

theorem hex_fin : ∀ k : Fin 16, ((((⟨#[48, 49, 50, 51, 52, 53, 54, 55, 56, 57, 97, 98, 99, 100, 101, 102]⟩ : ByteArray)[k.1]'k.2).toNat : Nat) : Int) = hexL.getD k.1 0 := by decide +kernel
theorem hex_at (x : Int) (h : x.toNat < (⟨#[48, 49, 50, 51, 52, 53, 54, 55, 56, 57, 97, 98, 99, 100, 101, 102]⟩ : ByteArray).size) : ((((⟨#[48, 49, 50, 51, 52, 53, 54, 55, 56, 57, 97, 98, 99, 100, 101, 102]⟩ : ByteArray)[x.toNat]'h).toNat : Nat) : Int) = hexD x := hex_fin ⟨x.toNat, h⟩
theorem and15_all : (List.range 256).all (fun c => bits BinOp.and .u8 c 15 == (c : Int) % 16) = true := by decide +kernel
theorem and15 {c : Int} (h0 : 0 ≤ c) (h1 : c < 256) : bits BinOp.and .u8 c 15 = c % 16 := by
  have h := List.all_eq_true.1 and15_all c.toNat (by simp; omega)
  rw [show ((c.toNat : Nat) : Int) = c by omega] at h
  simpa using h
theorem news2 (w : World) (a b : Int) : ∀ j u, (([a, b] : List Int).map (Value.int .u8))[j]? = some u → (w.alloc (.cells #[.int .u8 a, .int .u8 b] 5)).cell? ((⟨w.heap.size, 0, none⟩ : Addr).add j) = some u :=
  World.news_of_block (cs := #[.int .u8 a, .int .u8 b]) (heap_alloc_new w _)
theorem news1 (w : World) (a : Int) : ∀ j u, (([a] : List Int).map (Value.int .u8))[j]? = some u → (w.alloc (.cells #[.int .u8 a] 5)).cell? ((⟨w.heap.size, 0, none⟩ : Addr).add j) = some u :=
  World.news_of_block (cs := #[.int .u8 a]) (heap_alloc_new w _)
theorem news5 (w : World) (a b c d e : Int) : ∀ j u, (([a, b, c, d, e] : List Int).map (Value.int .u8))[j]? = some u → (w.alloc (.cells #[.int .u8 a, .int .u8 b, .int .u8 c, .int .u8 d, .int .u8 e] 5)).cell? ((⟨w.heap.size, 0, none⟩ : Addr).add j) = some u :=
  World.news_of_block (cs := #[.int .u8 a, .int .u8 b, .int .u8 c, .int .u8 d, .int .u8 e]) (heap_alloc_new w _)

set_option maxRecDepth 100000 in
theorem appendQuoted_any (B : Nat) (p : Option Addr) (n c : Nat) (ys : List Int) (x : Int) (w : World) (hn : n ≤ 100000000) (h0 : 0 ≤ x) (h1 : x < 256) (hown : OwnS w B p n c ys) (hB : B ≤ w.heap.size) :
    Calls Tryd.prog 27 #[.slice p n c, .int .u8 x] w fun e w' => ∃ p' n' c', e = .returned (.slice p' n' c') ∧ OwnS w' B p' n' c' (ys ++ q1 x) ∧ Below B w w' := by
  have HO : Hid (OwnS w B p n c ys) := hown
  clear hown
  by_cases a1 : x = 39
  · subst a1
    rw [show q1 39 = [92, 39] from rfl]
    go_enter Tryd.func27, Tryd.ntmps27
    go_wp2_with (at_builtin; refine app_bytes _ rfl _ _ rfl B p n c ys [92, 39] 2 rfl rfl (HO.out.alloc _) _ 2 rfl (news2 _ _ _) (by decide) (by omega) (by simp; omega) ?_; intro g n' cap w1 hown1 hb1 hn1)
    go_ret
    exact ⟨_, _, _, rfl, hown1, ((Below.refl _ _).alloc hB _).trans hb1⟩
  by_cases a2 : x = 92
  · subst a2
    rw [show q1 92 = [92, 92] from rfl]
    clear a1
    go_enter Tryd.func27, Tryd.ntmps27
    go_wp2_with (at_builtin; refine app_bytes _ rfl _ _ rfl B p n c ys [92, 92] 2 rfl rfl (HO.out.alloc _) _ 2 rfl (news2 _ _ _) (by decide) (by omega) (by simp; omega) ?_; intro g n' cap w1 hown1 hb1 hn1)
    go_ret
    exact ⟨_, _, _, rfl, hown1, ((Below.refl _ _).alloc hB _).trans hb1⟩
  by_cases a3 : x = 10
  · subst a3
    rw [show q1 10 = [92, 110] from rfl]
    clear a1 a2
    go_enter Tryd.func27, Tryd.ntmps27
    go_wp2_with (at_builtin; refine app_bytes _ rfl _ _ rfl B p n c ys [92, 110] 2 rfl rfl (HO.out.alloc _) _ 2 rfl (news2 _ _ _) (by decide) (by omega) (by simp; omega) ?_; intro g n' cap w1 hown1 hb1 hn1)
    go_ret
    exact ⟨_, _, _, rfl, hown1, ((Below.refl _ _).alloc hB _).trans hb1⟩
  by_cases a4 : x = 9
  · subst a4
    rw [show q1 9 = [92, 116] from rfl]
    clear a1 a2 a3
    go_enter Tryd.func27, Tryd.ntmps27
    go_wp2_with (at_builtin; refine app_bytes _ rfl _ _ rfl B p n c ys [92, 116] 2 rfl rfl (HO.out.alloc _) _ 2 rfl (news2 _ _ _) (by decide) (by omega) (by simp; omega) ?_; intro g n' cap w1 hown1 hb1 hn1)
    go_ret
    exact ⟨_, _, _, rfl, hown1, ((Below.refl _ _).alloc hB _).trans hb1⟩
  have t1 : (x == 39) = false := by simpa using a1
  have t2 : (x == 92) = false := by simpa using a2
  have t3 : (x == 10) = false := by simpa using a3
  have t4 : (x == 9) = false := by simpa using a4
  by_cases a5 : 32 ≤ x ∧ x ≤ 126
  · have e : q1 x = [x] := by unfold q1; rw [if_neg (by omega), if_neg (by omega), if_neg (by omega), if_neg (by omega)]
    rw [e]
    have t5 : decide (x < 32) = false := by rw [decide_eq_false_iff_not]; omega
    have t6 : decide (126 < x) = false := by rw [decide_eq_false_iff_not]; omega
    clear a1 a2 a3 a4 a5 e
    go_enter Tryd.func27, Tryd.ntmps27
    go_wp2_with (at_builtin; refine app_bytes _ rfl _ _ rfl B p n c ys [x] 1 rfl rfl (HO.out.alloc _) _ 1 rfl (news1 _ _) (by decide) (by omega) (by simp; omega) ?_; intro g n' cap w1 hown1 hb1 hn1)
    go_ret
    exact ⟨_, _, _, rfl, hown1, ((Below.refl _ _).alloc hB _).trans hb1⟩
  have e : q1 x = [92, 120, hexD (x / 16), hexD (x % 16), 92] := by unfold q1; rw [if_neg (by omega), if_neg (by omega), if_neg (by omega), if_pos (by omega)]
  rw [e]
  clear e
  by_cases a6 : x < 32
  · have t5 : decide (x < 32) = true := by rw [decide_eq_true_iff]; omega
    have h15 := and15 h0 h1
    clear a1 a2 a3 a4 a5
    go_enter Tryd.func27, Tryd.ntmps27
    go_wp2
    go_region_held3 (fun _ => True) (trivial) ((refine step_app_bytes _ (by rfl) _ _ (by rfl) B p n c ys [92, 120, _, _, 92] 5 rfl (by rfl) (HO.out.alloc _) _ 5 (by rfl) (news5 _ _ _ _ _ _) (by decide) (by omega) (by simp; omega) ?_; intro g n' cap w1 hown1 hb1 hn1))
    all_goals go_wp2
    all_goals go_ret
    all_goals rw [hex_at, hex_at] at hown1
    all_goals exact ⟨_, _, _, rfl, hown1, ((Below.refl _ _).alloc hB _).drew.trans hb1⟩
  · have t5 : decide (x < 32) = false := by rw [decide_eq_false_iff_not]; omega
    have t6 : decide (126 < x) = true := by rw [decide_eq_true_iff]; omega
    have h15 := and15 h0 h1
    clear a1 a2 a3 a4 a5 a6
    go_enter Tryd.func27, Tryd.ntmps27
    go_wp2
    go_region_held3 (fun _ => True) (trivial) ((refine step_app_bytes _ (by rfl) _ _ (by rfl) B p n c ys [92, 120, _, _, 92] 5 rfl (by rfl) (HO.out.alloc _) _ 5 (by rfl) (news5 _ _ _ _ _ _) (by decide) (by omega) (by simp; omega) ?_; intro g n' cap w1 hown1 hb1 hn1))
    all_goals go_wp2
    all_goals go_ret
    all_goals rw [hex_at, hex_at] at hown1
    all_goals exact ⟨_, _, _, rfl, hown1, ((Below.refl _ _).alloc hB _).drew.trans hb1⟩

end Go.Proofs.YtfhelmhcmfpedaaDoor
