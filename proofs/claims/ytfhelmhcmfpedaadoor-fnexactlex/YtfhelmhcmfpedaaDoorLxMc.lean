/- Texts of AsF, AsG, RecF. Own work of the verifier. -/
import Derived.Test.YtfhelmhcmfpedaaDoorScan10
import Derived.WalkKit
import Derived.LaidEql
import Derived.Stop.Asserts
import Derived.RowKitTokens
import Derived.Laws.CopyOwn
import Derived.Test.YtfhelmhcmfpedaaDoorScan2
import Derived.Recover
import Derived.TacticsInMore
import Derived.RegionIn
import Derived.LoopNIn
import Derived.RecoverIn
import Derived.OwnWalkIn
namespace Go.Proofs.YtfhelmhcmfpedaaDoor
open Go Go.RowKit Go.Extern.Stop Go.Stop Go.Extern
set_option linter.unusedVariables false
set_option linter.unusedSimpArgs false

theorem asV2 (t : Addr) (w : World) : (ReflectliteValue.unpack (.iface 59 (.pointer (some t)))).run Tryd.prog w
    = .ok (.agg #[.pointer (some ⟨3, 59, none⟩), .pointer (some ⟨w.heap.size, 0, none⟩), .int .u64 150]) (w.alloc (.cells #[.pointer (some t)] 59)) := by kernel_rfl
theorem asT2 (a : Addr) (w : World) : (ReflectliteValue.methodAny (ReflectliteValue.valueError "reflectlite.Value.Type" 0) (fun t _ _ _ => ReflectliteType.toType t) #[.agg #[.pointer (some ⟨3, 59, none⟩), .pointer (some a), .int .u64 150]]).run Tryd.prog w
    = .ok (.iface 84 (.agg #[.pointer (some ⟨3, 59, none⟩)])) w := by kernel_rfl
theorem asMK (h : Value) (w : World) : (Go.method 235 84 (.agg #[h]) "Kind").run Tryd.prog w = .ok (95, h) w := by kernel_rfl
theorem asK2 (w : World) : ((ReflectliteType.abiMethod fun t => (fun a : Nat => Value.int IntKind.u8 (a : Int)) <$> Rtype.kind t) #[.pointer (some ⟨3, 59, none⟩)]).run Tryd.prog w = .ok (.int .u8 22) w := by kernel_rfl
theorem asK1 (w : World) : ((ReflectliteType.abiMethod fun t => (fun a : Nat => Value.int IntKind.u8 (a : Int)) <$> Rtype.kind t) #[.pointer (some ⟨3, 43, none⟩)]).run Tryd.prog w = .ok (.int .u8 25) w := by kernel_rfl
theorem rlm (z : Sem Value) (f : TypeId → Addr → Nat → Nat → Sem Value) (v : Value) :
    ReflectliteValue.method z f #[v] = (do match ← ReflectliteValue.parts v with | none => z | some (t, a, fl) => f t a fl (fl % 32)) := rfl
theorem asP2 (a : Addr) (w : World) : (ReflectliteValue.parts (.agg #[.pointer (some ⟨3, 59, none⟩), .pointer (some a), .int .u64 150])).run Tryd.prog w = .ok (some (59, a, 150)) w := by kernel_rfl
theorem asN2 (a p : Addr) (W : World) (ha : W.cell? a = some (.pointer (some p))) :
    (ReflectliteValue.method (ReflectliteValue.valueError "reflectlite.Value.IsNil" 0) ReflectliteValue.isNil #[.agg #[.pointer (some ⟨3, 59, none⟩), .pointer (some a), .int .u64 150]]).run Tryd.prog W = .ok (.bool false) W := by
  rw [rlm]
  simp only [Sem.run_bind, asP2, Result.andThen]
  simp [ReflectliteValue.isNil, loadVar, isAgg, underlying, Tryd.underlying59, ha, Result.andThen]
theorem asME (h : Value) (w : World) : (Go.method 235 84 (.agg #[h]) "Elem").run Tryd.prog w = .ok (105, .agg #[h]) w := by kernel_rfl
theorem asMI (h : Value) (w : World) : (Go.method 235 84 (.agg #[h]) "Implements").run Tryd.prog w = .ok (106, .agg #[h]) w := by kernel_rfl
theorem asMA (h : Value) (w : World) : (Go.method 235 84 (.agg #[h]) "AssignableTo").run Tryd.prog w = .ok (103, .agg #[h]) w := by kernel_rfl
theorem asE2 (w : World) : (ReflectliteType.method ReflectliteType.elem #[.agg #[.pointer (some ⟨3, 59, none⟩)]]).run Tryd.prog w = .ok (.iface 84 (.agg #[.pointer (some ⟨3, 43, none⟩)])) w := by kernel_rfl
theorem asI1 (w : World) : (ReflectliteType.relation "Implements" ReflectliteType.implements_ #[.agg #[.pointer (some ⟨3, 43, none⟩)], .iface 84 (.agg #[.pointer (some ⟨3, 56, none⟩)])]).run Tryd.prog w = .ok (.bool true) w := by kernel_rfl
theorem asTO (v : Value) (w : World) : (ReflectliteType.typeOf #[.iface 43 v]).run Tryd.prog w = .ok (.iface 84 (.agg #[.pointer (some ⟨3, 43, none⟩)])) w := by kernel_rfl
theorem asA1 (w : World) : (ReflectliteType.relation "AssignableTo" ReflectliteType.assignableTo #[.agg #[.pointer (some ⟨3, 43, none⟩)], .iface 84 (.agg #[.pointer (some ⟨3, 43, none⟩)])]).run Tryd.prog w = .ok (.bool true) w := by kernel_rfl
theorem asV1 (c p : Int) (w : World) : (ReflectliteValue.unpack (.iface 43 (.agg #[.int .i64 c, .int .i64 p]))).run Tryd.prog w
    = .ok (.agg #[.pointer (some ⟨3, 43, none⟩), .pointer (some ⟨w.heap.size, 0, none⟩), .int .u64 153]) (w.alloc (.cells #[.int .i64 c, .int .i64 p] 43)) := by kernel_rfl
theorem asEO (w : World) : (Rtype.elem? 59).run Tryd.prog w = .ok (some 43) w := by kernel_rfl
theorem asM1 (p : Addr) (w : World) : (ReflectliteValue.mk 43 p ReflectliteValue.flagAddr).run Tryd.prog w = .ok (.agg #[.pointer (some ⟨3, 43, none⟩), .pointer (some p), .int .u64 409]) w := by kernel_rfl
theorem asEV (a p : Addr) (W : World) (ha : W.cell? a = some (.pointer (some p))) :
    (ReflectliteValue.method (ReflectliteValue.valueError "reflectlite.Value.Elem" 0) ReflectliteValue.elem #[.agg #[.pointer (some ⟨3, 59, none⟩), .pointer (some a), .int .u64 150]]).run Tryd.prog W
      = .ok (.agg #[.pointer (some ⟨3, 43, none⟩), .pointer (some p), .int .u64 409]) W := by
  rw [rlm]
  simp only [Sem.run_bind, asP2, Result.andThen]
  simp [ReflectliteValue.elem, loadVar, isAgg, underlying, Tryd.underlying59, ha, Result.andThen, asEO, asM1]
theorem asP1a (a : Addr) (w : World) : (ReflectliteValue.parts (.agg #[.pointer (some ⟨3, 43, none⟩), .pointer (some a), .int .u64 409])).run Tryd.prog w = .ok (some (43, a, 409)) w := by kernel_rfl
theorem asP1 (a : Addr) (w : World) : (ReflectliteValue.parts (.agg #[.pointer (some ⟨3, 43, none⟩), .pointer (some a), .int .u64 153])).run Tryd.prog w = .ok (some (43, a, 153)) w := by kernel_rfl
theorem asD1 (w : World) : (Rtype.directlyAssignable 43 43).run Tryd.prog w = .ok true w := by kernel_rfl
theorem asS1 (w : World) : (sizeOf 43).run Tryd.prog w = .ok 2 w := by kernel_rfl
theorem asLd (b : Nat) (c p : Int) (W : World) (h0 : W.cell? ⟨b, 0, none⟩ = some (.int .i64 c)) (h1 : W.cell? ⟨b, 1, none⟩ = some (.int .i64 p)) : (loadVar 43 ⟨b, 0, none⟩).run Tryd.prog W = .ok (.agg #[.int .i64 c, .int .i64 p]) W := by
  simp [loadVar, isAgg, underlying, Tryd.underlying43, Result.andThen, asS1, loadCells, loadCellsFrom, Addr.add, h0, h1]
theorem asSet (T b : Nat) (c p : Int) (o0 o1 : Value) (W : World) (h0 : W.cell? ⟨b, 0, none⟩ = some (.int .i64 c)) (h1 : W.cell? ⟨b, 1, none⟩ = some (.int .i64 p)) (hT : W.heap[T]? = some (.cells #[o0, o1] 43 (0, 0))) :
    (ReflectliteValue.set #[.agg #[.pointer (some ⟨3, 43, none⟩), .pointer (some ⟨T, 0, none⟩), .int .u64 409], .agg #[.pointer (some ⟨3, 43, none⟩), .pointer (some ⟨b, 0, none⟩), .int .u64 153]]).run Tryd.prog W
      = .ok (.tuple #[]) (W.setRow T #[.int .i64 c, .int .i64 p]) := by
  have hs := run_storeVar_row (P := Tryd.prog) W T 43 43 #[o0, o1] #[.int .i64 c, .int .i64 p] hT (by kernel_rfl) rfl (by simp [Value.oneCell'])
  have hl := asLd b c p W h0 h1
  change Sem.run Tryd.prog (ReflectliteValue.parts _ >>= _) W = _
  simp [Array.getLit, asP1a, asP1, ReflectliteValue.flagAddr, hl, asD1, hs, Result.andThen]

set_option maxRecDepth 100000 in
set_option maxHeartbeats 4000000 in
theorem as_hit (T : Nat) (c p : Int) (o0 o1 : Value) (w : World) (hg : w.cell? ⟨1, 0, none⟩ = some (.iface 84 (.agg #[.pointer (some ⟨3, 56, none⟩)]))) (hT : w.heap[T]? = some (.cells #[o0, o1] 43 (0, 0))) :
    Calls Tryd.prog 41 #[.iface 43 (.agg #[.int .i64 c, .int .i64 p]), .iface 59 (.pointer (some ⟨T, 0, none⟩))] w fun ev w' => ev = .returned (.bool true) ∧ ∃ w4 : World, Below w.heap.size w w4 ∧ w4.heap[T]? = some (.cells #[o0, o1] 43 (0, 0)) ∧ w' = w4.setRow T #[.int .i64 c, .int .i64 p] := by
  have h6 := @run_callFunc_extern Tryd.prog 48 _ (fun args => ReflectliteValue.unpack (args.getD 0 (.tuple #[]))) Tryd.func48 (by kernel_rfl) (by kernel_rfl) (by kernel_rfl) (by kernel_rfl)
  have h7 := @run_callFunc_extern Tryd.prog 49 _ (ReflectliteValue.methodAny (ReflectliteValue.valueError "reflectlite.Value.Type" 0) (fun t _ _ _ => ReflectliteType.toType t)) Tryd.func49 (by kernel_rfl) (by kernel_rfl) (by kernel_rfl) (by kernel_rfl)
  have h8 := @run_callFunc_extern Tryd.prog 50 _ (ReflectliteValue.method (ReflectliteValue.valueError "reflectlite.Value.IsNil" 0) ReflectliteValue.isNil) Tryd.func50 (by kernel_rfl) (by kernel_rfl) (by kernel_rfl) (by kernel_rfl)
  have h27 := @run_callFunc_extern Tryd.prog 95 _ (ReflectliteType.abiMethod fun t => do pure (.int .u8 (← Rtype.kind t))) Tryd.func95 (by kernel_rfl) (by kernel_rfl) (by kernel_rfl) (by kernel_rfl)
  have h37 := @run_callFunc_extern Tryd.prog 105 _ (ReflectliteType.method ReflectliteType.elem) Tryd.func105 (by kernel_rfl) (by kernel_rfl) (by kernel_rfl) (by kernel_rfl)
  have h38 := @run_callFunc_extern Tryd.prog 106 _ (ReflectliteType.relation "Implements" ReflectliteType.implements_) Tryd.func106 (by kernel_rfl) (by kernel_rfl) (by kernel_rfl) (by kernel_rfl)
  have h10 := @run_callFunc_extern Tryd.prog 63 _ ReflectliteType.typeOf Tryd.func63 (by kernel_rfl) (by kernel_rfl) (by kernel_rfl) (by kernel_rfl)
  have h35 := @run_callFunc_extern Tryd.prog 103 _ (ReflectliteType.relation "AssignableTo" ReflectliteType.assignableTo) Tryd.func103 (by kernel_rfl) (by kernel_rfl) (by kernel_rfl) (by kernel_rfl)
  have h11 := @run_callFunc_extern Tryd.prog 64 _ (ReflectliteValue.method (ReflectliteValue.valueError "reflectlite.Value.Elem" 0) ReflectliteValue.elem) Tryd.func64 (by kernel_rfl) (by kernel_rfl) (by kernel_rfl) (by kernel_rfl)
  have h12 := @run_callFunc_extern Tryd.prog 65 _ ReflectliteValue.set Tryd.func65 (by kernel_rfl) (by kernel_rfl) (by kernel_rfl) (by kernel_rfl)
  have tO := asTO
  have mA := asMA
  have a1 := asA1
  have v1 := asV1
  have f6 := asV2
  have f7 := asT2
  have mK := asMK
  have mE := asME
  have mI := asMI
  have k2 := asK2
  have k1 := asK1
  have e2 := asE2
  have i1 := asI1
  have hTl : T < w.heap.size := by
    rcases Nat.lt_or_ge T w.heap.size with h | h
    · exact h
    · rw [Array.getElem?_eq_none h] at hT; cases hT
  have hgl : 1 < w.heap.size := World.block_lt_of_cell? _ _ hg
  have n8 := asN2 ⟨w.heap.size, 0, none⟩ ⟨T, 0, none⟩ ((w.alloc (.cells #[.pointer (some ⟨T, 0, none⟩)] 59)).alloc (.cells #[.pointer (some ⟨3, 59, none⟩), .pointer (some ⟨w.heap.size, 0, none⟩), .int .u64 150] 67)) (by simp)
  have hg2 : ((w.alloc (.cells #[.pointer (some ⟨T, 0, none⟩)] 59)).alloc (.cells #[.pointer (some ⟨3, 59, none⟩), .pointer (some ⟨w.heap.size, 0, none⟩), .int .u64 150] 67)).cell? ⟨1, 0, none⟩ = some (.iface 84 (.agg #[.pointer (some ⟨3, 56, none⟩)])) := by
    rw [World.cell?_alloc_lt _ _ ⟨1, 0, none⟩ (by simp; omega), World.cell?_alloc_lt _ _ ⟨1, 0, none⟩ hgl]; exact hg
  have el := asEV ⟨w.heap.size, 0, none⟩ ⟨T, 0, none⟩ (((w.alloc (.cells #[.pointer (some ⟨T, 0, none⟩)] 59)).alloc (.cells #[.pointer (some ⟨3, 59, none⟩), .pointer (some ⟨w.heap.size, 0, none⟩), .int .u64 150] 67)).alloc (.cells #[.pointer (some ⟨3, 59, none⟩), .pointer (some ⟨w.heap.size, 0, none⟩), .int .u64 150] 67)) (by rw [World.cell?_alloc_lt _ _ ⟨w.heap.size, 0, none⟩ (by simp; omega)]; simp)
  obtain ⟨w3, e3⟩ : ∃ w3, w3 = (((w.alloc (.cells #[.pointer (some ⟨T, 0, none⟩)] 59)).alloc (.cells #[.pointer (some ⟨3, 59, none⟩), .pointer (some ⟨w.heap.size, 0, none⟩), .int .u64 150] 67)).alloc (.cells #[.pointer (some ⟨3, 59, none⟩), .pointer (some ⟨w.heap.size, 0, none⟩), .int .u64 150] 67)) := ⟨_, rfl⟩
  have hs3 : w3.heap.size = w.heap.size + 1 + 1 + 1 := by rw [e3]; simp
  have hb3 : Below w.heap.size w w3 := by
    rw [e3]
    exact (((Below.refl _ _).alloc (Nat.le_refl _) _).alloc (by simp) _).alloc (by simp; omega) _
  have hT4 : (w3.alloc (.cells #[.int .i64 c, .int .i64 p] 43)).heap[T]? = some (.cells #[o0, o1] 43 (0, 0)) := by
    rw [Go.heap_alloc_old _ _ (by omega), hb3.block T hTl]; exact hT
  have st := asSet T (w.heap.size + 1 + 1 + 1) c p o0 o1 (w3.alloc (.cells #[.int .i64 c, .int .i64 p] 43)) (by rw [← hs3]; unfold World.cell?; rw [heap_alloc_new]; rfl) (by rw [← hs3]; unfold World.cell?; rw [heap_alloc_new]; rfl) hT4
  have HB4 : Hid (Below w.heap.size w (w3.alloc (.cells #[.int .i64 c, .int .i64 p] 43))) := hb3.alloc (by omega) _
  have HT4 := Hid.mk hT4
  rw [e3] at st HB4 HT4
  clear hb3 hs3 hT4 hT hTl hgl hg e3
  go_enter Tryd.func41, Tryd.ntmps41
  go_wp2
  refine wp_loop_rounds 1 ?_
  rw [rounds_succ]
  go_wp2
  go_ret
  exact ⟨rfl, _, HB4.out, HT4.out, rfl⟩

end Go.Proofs.YtfhelmhcmfpedaaDoor

namespace Go.Proofs.YtfhelmhcmfpedaaDoor
open Go Go.RowKit Go.Extern.Stop Go.Stop Go.Extern
set_option linter.unusedVariables false
set_option linter.unusedSimpArgs false

theorem fourC {w5 : World} {g : Nat} {a b : Value} (h : w5.heap[g]? = some (.cells #[a, b] 43 (0, 0))) : w5.cell? ⟨g, 0, none⟩ = some a ∧ w5.cell? ⟨g, 1, none⟩ = some b ∧ w5.frozen? ⟨g, 0, none⟩ = false ∧ w5.frozen? ⟨g, 1, none⟩ = false := by
  refine ⟨?_, ?_, ?_, ?_⟩
  · unfold World.cell?; rw [h]; rfl
  · unfold World.cell?; rw [h]; rfl
  · unfold World.frozen?; rw [h]; rfl
  · unfold World.frozen?; rw [h]; rfl
set_option maxRecDepth 100000 in
set_option maxHeartbeats 4000000 in
theorem faultOf_any (c p : Int) (w : World) (hg : w.cell? ⟨1, 0, none⟩ = some (.iface 84 (.agg #[.pointer (some ⟨3, 56, none⟩)]))) :
    Calls Tryd.prog 31 #[.iface 43 (.agg #[.int .i64 c, .int .i64 p])] w fun e w' => e = .returned (.agg #[.int .i64 c, .int .i64 p]) ∧ Below w.heap.size w w' := by
  have hgl : 1 < w.heap.size := World.block_lt_of_cell? _ _ hg
  have hta := run_typeAssert_hasB (P := Tryd.prog) (asserted := 56) (t := 43) Tryd.underlying56 (by kernel_rfl) (.agg #[.int .i64 c, .int .i64 p]) 20
  obtain ⟨w2, e2⟩ : ∃ w2, w2 = (w.alloc (.cells #[.int .i64 0, .int .i64 0] 43)).alloc (.cells #[.int .i64 0, .int .i64 0] 43) := ⟨_, rfl⟩
  have hb2 : Below w.heap.size w w2 := by rw [e2]; exact ((Below.refl _ _).alloc (Nat.le_refl _) _).alloc (by simp) _
  have hs2 : w2.heap.size = w.heap.size + 1 + 1 := by rw [e2]; simp
  have hT2 : w2.heap[w.heap.size + 1]? = some (.cells #[.int .i64 0, .int .i64 0] 43 (0, 0)) := by
    have := heap_alloc_new (w.alloc (.cells #[.int .i64 0, .int .i64 0] 43)) (.cells #[.int .i64 0, .int .i64 0] 43)
    rw [← e2] at this
    simpa using this
  have hR2 : w2.heap[w.heap.size]? = some (.cells #[.int .i64 0, .int .i64 0] 43 (0, 0)) := by
    rw [e2, Go.heap_alloc_old _ _ (by simp)]; exact heap_alloc_new _ _
  have HA : Calls Tryd.prog 41 #[.iface 43 (.agg #[.int .i64 c, .int .i64 p]), .iface 59 (.pointer (some ⟨w.heap.size + 1, 0, none⟩))] w2 fun e w5 => e = .returned (.bool true) ∧ Hid (Below w.heap.size w w5) ∧ w.heap.size < w5.heap.size ∧ Hid (w5.heap[w.heap.size]? = some (.cells #[.int .i64 0, .int .i64 0] 43 (0, 0))) ∧ Hid (w5.heap[w.heap.size + 1]? = some (.cells #[.int .i64 c, .int .i64 p] 43 (0, 0))) := by
    refine (as_hit (w.heap.size + 1) c p (.int .i64 0) (.int .i64 0) w2 ((hb2.cell (p := ⟨1, 0, none⟩) hgl).trans hg) hT2).mono ?_
    rintro e w5 ⟨rfl, w4, hb4, hT4, rfl⟩
    have hb5 : Below w.heap.size w w4 := hb2.trans (hb4.mono hb2.size)
    refine ⟨rfl, below_setRow hb5 (by omega) _, ?_, ?_, setRow_heap _ _ _ _ _ _ hT4⟩
    · have := hb4.size; simp; omega
    · show _ = _
      rw [setRow_other _ _ _ _ (by omega), hb4.block _ (by omega)]; exact hR2
  rw [e2] at HA
  clear hg hgl hb2 hs2 hT2 hR2 e2
  go_enter Tryd.func31, Tryd.ntmps31
  go_wp2_with (go_at_call 41; refine HA.mono ?_; rintro e w5 ⟨rfl, HB, hlt, HR, HT⟩; obtain ⟨c0, c1, _, _⟩ := fourC HT.out; obtain ⟨d0, d1, g0, g1⟩ := fourC HR.out)
  have hB6 : Below w.heap.size w ((w5.setCell ⟨w.heap.size, 0, none⟩ (.int .i64 c)).setCell ⟨w.heap.size, 1, none⟩ (.int .i64 p)) :=
    (HB.out.trans (Below.of_grown (grown_setCell _ _ _) (Nat.le_of_lt hlt) (fun k e => by cases e; exact Nat.le_refl _))).trans (Below.of_grown (grown_setCell _ _ _) (by simp; omega) (fun k e => by cases e; exact Nat.le_refl _))
  exact bodyPost_ret (v := .agg #[.int .i64 c, .int .i64 p]) (by simp [results, Tryd.results31, go_sem, d0, d1, hlt]) rfl ⟨rfl, hB6⟩

end Go.Proofs.YtfhelmhcmfpedaaDoor

namespace Go.Proofs.YtfhelmhcmfpedaaDoor
open Go Go.RowKit
set_option linter.unusedVariables false

/-- What the deferred call has written. -/
structure Said (w w' : World) (TB CB AB : Nat) (code at_ : Int) : Prop where
  os : w'.os = w.os
  tape : w'.tape = w.tape
  output : w'.output = w.output
  size : w.heap.size ≤ w'.heap.size
  block : ∀ k, k < w.heap.size → k ≠ TB → k ≠ CB → k ≠ AB → w'.heap[k]? = w.heap[k]?
  toks : w'.cell? ⟨TB, 0, none⟩ = some (.slice none 0 0)
  code : w'.cell? ⟨CB, 0, none⟩ = some (.int .i64 code)
  at_ : w'.cell? ⟨AB, 0, none⟩ = some (.int .i64 at_)

set_option maxRecDepth 100000 in
set_option maxHeartbeats 2000000 in
theorem lexD_panicking (n TB CB AB : Nat) (tv cv av : Value) (code at_ : Int) (w : World) (hg : w.cell? ⟨1, 0, none⟩ = some (.iface 84 (.agg #[.pointer (some ⟨3, 56, none⟩)])))
    (hT : w.cell? ⟨TB, 0, none⟩ = some tv) (hC : w.cell? ⟨CB, 0, none⟩ = some cv) (hA : w.cell? ⟨AB, 0, none⟩ = some av) (fT : w.frozen? ⟨TB, 0, none⟩ = false) (fC : w.frozen? ⟨CB, 0, none⟩ = false) (fA : w.frozen? ⟨AB, 0, none⟩ = false) (h1 : CB = TB + 1) (h2 : AB = TB + 2) :
    CallsDIn Fence.wide n Tryd.prog 30 #[.pointer (some ⟨TB, 0, none⟩), .pointer (some ⟨CB, 0, none⟩), .pointer (some ⟨AB, 0, none⟩)] (.panicking ({ v := .iface 43 (.agg #[.int .i64 code, .int .i64 at_]), recovered := false } :: [])) w fun e u' w' =>
      e = .returned (.tuple #[]) ∧ u' = .panicking ({ v := .iface 43 (.agg #[.int .i64 code, .int .i64 at_]), recovered := true } :: []) ∧ Said w w' TB CB AB code at_ := by
  have HF := faultOf_any code at_ w hg
  refine callsDIn_of_wpSIn Tryd.func30 rfl trivial fun c₀ cs hu => ?_
  apply wpSIn_seq
  apply wpSIn_region
  simp [wpOpsSIn, go_sem, recoverD, hu, Tryd.ntmps30, Exit.thenS]
  refine wpSIn_of_wpIn rfl ?_
  refine wpIn_wide.2 ?_
  simp only [Array.replicate_succ, Array.replicate_zero, List.push_toArray, List.nil_append, List.cons_append, List.append_toArray, List.setIfInBounds_toArray, List.set_cons_zero, List.set_cons_succ]
  go_wp2_with fail
  refine HF.mono ?_
  rintro e w1 ⟨rfl, hb1⟩
  have lT := World.block_lt_of_cell? _ _ hT
  have lC := World.block_lt_of_cell? _ _ hC
  have lA := World.block_lt_of_cell? _ _ hA
  have kT := (hb1.cell lT).trans hT
  have kC := (hb1.cell lC).trans hC
  have kA := (hb1.cell lA).trans hA
  have gT := (hb1.frozen lT).trans fT
  have gC := (hb1.frozen lC).trans fC
  have gA := (hb1.frozen lA).trans fA
  have hsz := hb1.size
  have nT : TB ≠ w1.heap.size := by simp only at lT; omega
  have nC : CB ≠ w1.heap.size := by simp only at lC; omega
  have nA : AB ≠ w1.heap.size := by simp only at lA; omega
  have HB1 : Hid (Below w.heap.size w w1) := hb1
  have HH : Hid (CB = TB + 1 ∧ AB = TB + 2) := ⟨h1, h2⟩
  have n1 : TB ≠ CB := by omega
  have n2 : TB ≠ AB := by omega
  have n3 : CB ≠ AB := by omega
  clear hb1 hT hC hA fT fC fA HF h1 h2 hg
  go_wp2_with fail
  obtain ⟨g, eg⟩ : ∃ g, g = w1.heap.size := ⟨_, rfl⟩
  obtain ⟨W1, eW1⟩ : ∃ W1, W1 = w1.alloc (Obj.cells #[Value.int IntKind.i64 code, Value.int IntKind.i64 at_] 43) := ⟨_, rfl⟩
  have hnew := heap_alloc_new w1 (Obj.cells #[Value.int IntKind.i64 code, Value.int IntKind.i64 at_] 43)
  have HB2 : Hid (Below w.heap.size w W1) := by show Below _ _ _; rw [eW1]; exact HB1.out.alloc HB1.out.size _
  have x0 : W1.cell? ⟨g, 0, none⟩ = some (.int .i64 code) := by rw [eW1, eg]; exact cell_of_row _ _ 0 _ _ _ hnew
  have x1 : W1.cell? ⟨g, 1, none⟩ = some (.int .i64 at_) := by rw [eW1, eg]; exact cell_of_row _ _ 1 _ _ _ hnew
  have yT : W1.cell? ⟨TB, 0, none⟩ = some tv := by rw [eW1]; exact Lib.cell?_alloc_marked _ kT
  have yC : W1.cell? ⟨CB, 0, none⟩ = some cv := by rw [eW1]; exact Lib.cell?_alloc_marked _ kC
  have yA : W1.cell? ⟨AB, 0, none⟩ = some av := by rw [eW1]; exact Lib.cell?_alloc_marked _ kA
  have zf : ∀ B : Nat, B < w1.heap.size → W1.frozen? ⟨B, 0, none⟩ = w1.frozen? ⟨B, 0, none⟩ := fun B hB => by rw [eW1]; exact ((Below.refl w1.heap.size w1).alloc (Nat.le_refl _) _).frozen (p := ⟨B, 0, none⟩) hB
  have zT : W1.frozen? ⟨TB, 0, none⟩ = false := (zf TB (by omega)).trans gT
  have zC : W1.frozen? ⟨CB, 0, none⟩ = false := (zf CB (by omega)).trans gC
  have zA : W1.frozen? ⟨AB, 0, none⟩ = false := (zf AB (by omega)).trans gA
  rw [← eg, ← eW1]
  rw [← eg] at nT nC nA
  have HSZ : Hid (W1.heap.size = g + 1) := by show _ = _; rw [eW1, eg]; simp
  clear eW1 kT kC kA gT gC gA zf hnew hsz eg HB1
  obtain ⟨V1, eV1⟩ : ∃ V, V = W1.setCell ⟨TB, 0, none⟩ (.slice none 0 0) := ⟨_, rfl⟩
  have far : ∀ (W : World) (B B' o : Nat) (v : Value), B ≠ B' → (W.setCell ⟨B, 0, none⟩ v).cell? ⟨B', o, none⟩ = W.cell? ⟨B', o, none⟩ := fun W B B' o v h => World.cell?_setCell_far W ⟨B, 0, none⟩ ⟨B', o, none⟩ v h
  have s1 := (far W1 TB CB 0 (.slice none 0 0) n1).trans yC
  have s2 := (far W1 TB AB 0 (.slice none 0 0) n2).trans yA
  have s3 := (far W1 TB g 0 (.slice none 0 0) nT).trans x0
  have s4 := (far W1 TB g 1 (.slice none 0 0) nT).trans x1
  have s5 := (far (W1.setCell ⟨TB, 0, none⟩ (.slice none 0 0)) CB AB 0 (.int .i64 code) n3).trans s2
  have s6 := (far (W1.setCell ⟨TB, 0, none⟩ (.slice none 0 0)) CB g 1 (.int .i64 code) nC).trans s4
  have HFIN : Hid (Said w (((W1.setCell ⟨TB, 0, none⟩ (.slice none 0 0)).setCell ⟨CB, 0, none⟩ (.int .i64 code)).setCell ⟨AB, 0, none⟩ (.int .i64 at_)).drew TB CB AB code at_) := by
    refine ⟨?_, ?_, ?_, by have := HB2.out.size; simp; omega, fun k hk k1 k2 k3 => ?_, ?_, ?_, ?_⟩
    · exact ((grown_setCell (((W1.setCell ⟨TB, 0, none⟩ (.slice none 0 0)).setCell ⟨CB, 0, none⟩ (.int .i64 code))) ⟨AB, 0, none⟩ (.int .i64 at_)).os.trans ((grown_setCell (W1.setCell ⟨TB, 0, none⟩ (.slice none 0 0)) ⟨CB, 0, none⟩ (.int .i64 code)).os.trans (grown_setCell W1 ⟨TB, 0, none⟩ (.slice none 0 0)).os)).trans HB2.out.os
    · exact ((grown_setCell (((W1.setCell ⟨TB, 0, none⟩ (.slice none 0 0)).setCell ⟨CB, 0, none⟩ (.int .i64 code))) ⟨AB, 0, none⟩ (.int .i64 at_)).tape.trans ((grown_setCell (W1.setCell ⟨TB, 0, none⟩ (.slice none 0 0)) ⟨CB, 0, none⟩ (.int .i64 code)).tape.trans (grown_setCell W1 ⟨TB, 0, none⟩ (.slice none 0 0)).tape)).trans HB2.out.tape
    · exact ((grown_setCell (((W1.setCell ⟨TB, 0, none⟩ (.slice none 0 0)).setCell ⟨CB, 0, none⟩ (.int .i64 code))) ⟨AB, 0, none⟩ (.int .i64 at_)).output.trans ((grown_setCell (W1.setCell ⟨TB, 0, none⟩ (.slice none 0 0)) ⟨CB, 0, none⟩ (.int .i64 code)).output.trans (grown_setCell W1 ⟨TB, 0, none⟩ (.slice none 0 0)).output)).trans HB2.out.output
    · show (((W1.setCell ⟨TB, 0, none⟩ (.slice none 0 0)).setCell ⟨CB, 0, none⟩ (.int .i64 code)).setCell ⟨AB, 0, none⟩ (.int .i64 at_)).heap[k]? = _
      rw [heap_setCell_other _ ⟨AB, 0, none⟩ k _ (fun e => k3 (by simpa using e)), heap_setCell_other _ ⟨CB, 0, none⟩ k _ (fun e => k2 (by simpa using e)), heap_setCell_other _ ⟨TB, 0, none⟩ k _ (fun e => k1 (by simpa using e))]
      exact HB2.out.block k hk
    · show (((W1.setCell ⟨TB, 0, none⟩ (.slice none 0 0)).setCell ⟨CB, 0, none⟩ (.int .i64 code)).setCell ⟨AB, 0, none⟩ (.int .i64 at_)).cell? _ = _
      rw [far _ AB TB 0 _ (Ne.symm n2), far _ CB TB 0 _ (Ne.symm n1)]
      exact World.cell?_setCell_same' _ _ _ (by rw [yT]; rfl)
    · show (((W1.setCell ⟨TB, 0, none⟩ (.slice none 0 0)).setCell ⟨CB, 0, none⟩ (.int .i64 code)).setCell ⟨AB, 0, none⟩ (.int .i64 at_)).cell? _ = _
      rw [far _ AB CB 0 _ (Ne.symm n3)]
      exact World.cell?_setCell_same' _ _ _ (by rw [s1]; rfl)
    · show (((W1.setCell ⟨TB, 0, none⟩ (.slice none 0 0)).setCell ⟨CB, 0, none⟩ (.int .i64 code)).setCell ⟨AB, 0, none⟩ (.int .i64 at_)).cell? _ = _
      exact World.cell?_setCell_same' _ _ _ (by rw [s5]; rfl)
  clear far eV1
  go_region
  exact ⟨rfl, _, rfl, .tuple #[], by simp [results, Tryd.results30, go_sem], rfl, rfl, HFIN.out⟩

theorem lexD_idle (n : Nat) (a b c : Value) (w : World) :
    CallsDIn Fence.wide n Tryd.prog 30 #[a, b, c] .returning w fun e u' w' => e = .returned (.tuple #[]) ∧ u' = .returning ∧ w' = w := by
  refine callsDIn_of_wpSIn Tryd.func30 rfl trivial fun c₀ cs hu => ?_
  apply wpSIn_seq
  apply wpSIn_region
  simp [wpOpsSIn, go_sem, recoverD, hu, Tryd.ntmps30, Exit.thenS]
  refine wpSIn_of_wpIn rfl ?_
  refine wpIn_wide.2 ?_
  simp only [Array.replicate_succ, Array.replicate_zero, List.push_toArray, List.nil_append, List.cons_append, List.append_toArray, List.setIfInBounds_toArray, List.set_cons_zero, List.set_cons_succ]
  go_wp2_with fail
  cases c₀
  simp_all [bodyPostS, results, Tryd.results30]

end Go.Proofs.YtfhelmhcmfpedaaDoor

