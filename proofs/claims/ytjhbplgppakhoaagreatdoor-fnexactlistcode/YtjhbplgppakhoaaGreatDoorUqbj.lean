/- Texts of LawVS, IntM, MarkH, MkS. Own work of the verifier. -/
import Derived.Test.YtjhbplgppakhoaaGreatDoorUqbi
import Derived.Test.YtjhbplgppakhoaaGreatDoorUqbg
import Derived.Test.YtjhbplgppakhoaaGreatDoorUqab
import Derived.Test.YtjhbplgppakhoaaGreatDoorUqap
import Derived.Test.YtjhbplgppakhoaaGreatDoorUqbf
import Derived.LoopN
import Derived.Test.YtjhbplgppakhoaaGreatDoorUqag
namespace Go.Proofs.YtjhbplgppakhoaaGreatDoor
open Go Go.RowKit
set_option linter.unusedVariables false
structure IArg (w : World) (p : Option Addr) (ys : List Int) : Prop where
  lies : IIn w p ys
  len : ys.length ≤ 9223372036854775807
theorem IArg.below {W W' : World} {p : Option Addr} {ys : List Int} (h : IArg W p ys) (hb : Below W.heap.size W W') : IArg W' p ys := ⟨h.lies.below hb, h.len⟩
theorem OwnC.set {w : World} {B : Nat} {p : Option Addr} {n c : Nat} {cs : List Cel} (h : OwnC w B p n c cs) {a : Addr} (ha : a.block < B) (u : Value) : OwnC (w.setCell a u) B p n c cs := by
  obtain ⟨hn, rs, hl, hr, hf, hx⟩ := h
  refine ⟨hn, rs, hl, ownsRow_setCell_other hr ?_ u, fun i hi => ⟨(hf i hi).1, (hf i hi).2.1, (hf i hi).2.2.setCell (fun hp e => ?_) u⟩, hx⟩
  · intro e
    have := (hr.lt a.block e).1
    omega
  · obtain ⟨g, eg, hB, _⟩ := (hf i hi).2.2.2 hp
    rw [e] at eg
    have := congrArg Addr.block (Option.some.inj eg)
    simp at this; omega
theorem OwnI.set {w : World} {B : Nat} {t : TypeId} {p : Option Addr} {n c : Nat} {zs : List Int} (h : OwnI w B t p n c zs) {a : Addr} (ha : a.block < B) (u : Value) : OwnI (w.setCell a u) B t p n c zs := by
  refine ⟨h.1, ownsRow_setCell_other h.2 ?_ u⟩
  intro e
  have := (h.2.lt a.block e).1
  omega
theorem OwnCU.set {w : World} {B U : Nat} {p : Option Addr} {n c : Nat} {cs : List Cel} (h : OwnCU w B U p n c cs) {a : Addr} (ha : a.block < B) (u : Value) : OwnCU (w.setCell a u) B U p n c cs :=
  h.other (by simp) (fun k _ hk _ => Below.heap_setCell _ _ _ _ (by omega))
theorem OwnCU.mono {w : World} {B B' U : Nat} {p : Option Addr} {n c : Nat} {cs : List Cel} (h : OwnCU w B U p n c cs) (hB : B' ≤ B) : OwnCU w B' U p n c cs := by
  obtain ⟨hn, rs, hl, hr, hf, ha, hu, ht⟩ := h
  exact ⟨hn, rs, hl, ownsRow_down hr hB, fun i hi => ⟨(hf i hi).1, (hf i hi).2.1, (hf i hi).2.2.mono hB⟩, ha, hu, ht⟩
end Go.Proofs.YtjhbplgppakhoaaGreatDoor

namespace Go.Proofs.YtjhbplgppakhoaaGreatDoor
open Go Go.RowKit Go.Maps
set_option linter.unusedVariables false
def ups (k : Int) (n : Nat) : List Int := (List.range n).map fun (i : Nat) => k + (i : Int)
theorem ups_len (k : Int) (n : Nat) : (ups k n).length = n := by simp [ups]
theorem markIntS_any (B : Nat) (p : Option Addr) (n c : Nat) (k : Int) (xs : List Int) (w : World) (h0 : 0 ≤ k) (h1 : k ≤ 1000000000000) (hn : n ≤ 1000000000) (hown : OwnI w B 3 p n c xs) :
    Calls Tryz.prog 86 #[.slice p n c, .int .i64 k] w fun e w' => e = .returned (.int .i64 (k + n)) ∧ OwnI w' B 3 p n c (ups k n) ∧ w.grownBy w' (Value.ownBlock (.slice p n c)) := by
  rcases hown.2.2 with ⟨hv, h00⟩ | ⟨g, cap, cur, hv, hbg, hg, _⟩
  · simp only [Value.slice.injEq] at hv
    obtain ⟨rfl, rfl, rfl⟩ := hv
    clear hown
    go_enter Tryz.func86, Tryz.ntmps86
    go_wp2
    refine wp_loop_rounds 1 ?_
    rw [rounds_succ]
    go_wp2
    go_ret
    exact ⟨by simp, OwnI.nil _ _ _, ⟨rfl, rfl, rfl, Nat.le_refl _, fun _ _ _ => rfl⟩⟩
  · simp only [Value.slice.injEq, true_and] at hv
    obtain ⟨rfl, rfl⟩ := hv
    have HN : Hid (n = xs.length) := hown.1
    have HO : Hid (w.ownsRow B 3 1 (.slice (some ⟨g, 0, none⟩) n c) n (xs.map (Value.int .i64))) := hown.2
    clear hown hg
    go_enter Tryz.func86, Tryz.ntmps86
    go_wp2_with fail
    go_loopw [1, 5] (fun q i wr => ∃ j : Nat, j ≤ n ∧ i = .int .i64 j ∧ q = .int .i64 (k + j) ∧ Hid (wr.ownsRow B 3 1 (.slice (some ⟨g, 0, none⟩) n c) n ((ups k j ++ xs.drop j).map (Value.int .i64))) ∧ Hid (w.grownBy wr (some g))) (fun _ i _ => n - (intOf i).toNat)
    case atStart => exact ⟨0, Nat.zero_le _, rfl, by simp, by simpa [ups] using HO, ⟨rfl, rfl, rfl, Nat.le_refl _, fun _ _ _ => rfl⟩⟩
    case round =>
      obtain ⟨j, hj, rfl, rfl, HR, HG⟩ := hrel
      by_cases hlt : j < n
      · have hxl := HN.out
        have hd : ∃ z, wr.cell? ⟨g, j, none⟩ = some (.int .i64 z) := by
          rw [HR.out.cellAt j (by omega)]
          simp only [List.getElem?_map]
          have : j < (ups k j ++ xs.drop j).length := by simp [ups_len]; omega
          rw [List.getElem?_eq_getElem this]
          exact ⟨_, rfl⟩
        obtain ⟨z, hd⟩ := hd
        have hf := HR.out.frozenAt j
        have HS : Hid ((wr.setCell ⟨g, j, none⟩ (.int .i64 (k + j))).ownsRow B 3 1 (.slice (some ⟨g, 0, none⟩) n c) n ((ups k (j + 1) ++ xs.drop (j + 1)).map (Value.int .i64)) ∧ wr.grownBy (wr.setCell ⟨g, j, none⟩ (.int .i64 (k + j))) (some g)) := by
          have hs := HR.out.stored j (.int .i64 (k + j))
          have e : ((ups k j ++ xs.drop j).map (Value.int .i64)).set j (.int .i64 (k + j)) = (ups k (j + 1) ++ xs.drop (j + 1)).map (Value.int .i64) := by
            have e1 : j - ((ups k j).map (Value.int IntKind.i64)).length = 0 := by simp [ups_len]
            rw [List.map_append, List.set_append_right _ _ (by simp [ups_len]), e1, List.drop_eq_getElem_cons (by omega), List.map_cons, List.set_cons_zero]
            simp [ups, List.range_succ]
          rw [e] at hs
          exact hs
        clear hxl
        go_wp2_with fail
        go_roundw
        case rel => exact ⟨j + 1, by omega, by go_num, by simp; omega, HS.out.1, HG.out.trans HS.out.2⟩
        case measure => simp [intOf]; omega
      · obtain rfl : j = n := by omega
        go_wp2_with fail
        go_ret
        refine ⟨rfl, ⟨(ups_len _ _).symm, ?_⟩, HG.out⟩
        have := HR.out
        rw [List.drop_eq_nil_of_le (by rw [← HN.out]; exact Nat.le_refl _), List.append_nil] at this
        exact this
end Go.Proofs.YtjhbplgppakhoaaGreatDoor

namespace Go.Proofs.YtjhbplgppakhoaaGreatDoor
open Go Go.RowKit
set_option linter.unusedVariables false
end Go.Proofs.YtjhbplgppakhoaaGreatDoor

namespace Go.Proofs.YtjhbplgppakhoaaGreatDoor
open Go Go.RowKit
set_option linter.unusedVariables false
theorem Keep.widen {B U B' U' : Nat} {w w' : World} (h : Keep B U w w') (hB : B' ≤ B) (hU : U ≤ U') : Keep B' U' w w' := ⟨h.os, h.tape, h.output, h.size, fun k hk hp => h.block k hk (by omega)⟩
theorem Keep.alloc {B U : Nat} {w w' : World} (h : Keep B U w w') (o : Obj) : Keep B U w (w'.alloc o) := h.trans ⟨rfl, rfl, rfl, by simp, fun k hk _ => Below.heap_alloc _ _ _ hk⟩
theorem Keep.new (B U : Nat) (w : World) (o : Obj) : Keep B U w (w.alloc o) := (Keep.refl B U w).alloc o
end Go.Proofs.YtjhbplgppakhoaaGreatDoor

