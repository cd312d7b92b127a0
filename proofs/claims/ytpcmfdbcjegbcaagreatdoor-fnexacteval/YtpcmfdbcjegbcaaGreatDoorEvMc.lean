/- Texts of AsE, AsE2, RecE. Own work of the verifier. -/
import Derived.Test.YtpcmfdbcjegbcaaGreatDoorEvI1
import Derived.WalkKit
import Derived.LaidEql
import Derived.Stop.Asserts
import Derived.RowKitTokens
import Derived.Laws.CopyOwn
import Derived.Recover
import Derived.TacticsInMore
import Derived.RegionIn
import Derived.LoopNIn
import Derived.RecoverIn
import Derived.OwnWalkIn
namespace Go.Proofs.YtpcmfdbcjegbcaaGreatDoor
open Go Go.RowKit Go.Extern.Stop Go.Stop Go.Extern
set_option linter.unusedVariables false
set_option linter.unusedSimpArgs false

theorem asV2 (t : Addr) (w : World) : (ReflectliteValue.unpack (.iface 52 (.pointer (some t)))).run Tryz.prog w
    = .ok (.agg #[.pointer (some ⟨1, 52, none⟩), .pointer (some ⟨w.heap.size, 0, none⟩), .int .u64 150]) (w.alloc (.cells #[.pointer (some t)] 52)) := by kernel_rfl
theorem asT2 (a : Addr) (w : World) : (ReflectliteValue.methodAny (ReflectliteValue.valueError "reflectlite.Value.Type" 0) (fun t _ _ _ => ReflectliteType.toType t) #[.agg #[.pointer (some ⟨1, 52, none⟩), .pointer (some a), .int .u64 150]]).run Tryz.prog w
    = .ok (.iface 115 (.agg #[.pointer (some ⟨1, 52, none⟩)])) w := by kernel_rfl
theorem asMK (h : Value) (w : World) : (Go.method 265 115 (.agg #[h]) "Kind").run Tryz.prog w = .ok (112, h) w := by kernel_rfl
theorem asK2 (w : World) : ((ReflectliteType.abiMethod fun t => (fun a : Nat => Value.int IntKind.u8 (a : Int)) <$> Rtype.kind t) #[.pointer (some ⟨1, 52, none⟩)]).run Tryz.prog w = .ok (.int .u8 22) w := by kernel_rfl
theorem asK1 (w : World) : ((ReflectliteType.abiMethod fun t => (fun a : Nat => Value.int IntKind.u8 (a : Int)) <$> Rtype.kind t) #[.pointer (some ⟨1, 50, none⟩)]).run Tryz.prog w = .ok (.int .u8 25) w := by kernel_rfl
theorem rlm (z : Sem Value) (f : TypeId → Addr → Nat → Nat → Sem Value) (v : Value) :
    ReflectliteValue.method z f #[v] = (do match ← ReflectliteValue.parts v with | none => z | some (t, a, fl) => f t a fl (fl % 32)) := rfl
theorem asP2 (a : Addr) (w : World) : (ReflectliteValue.parts (.agg #[.pointer (some ⟨1, 52, none⟩), .pointer (some a), .int .u64 150])).run Tryz.prog w = .ok (some (52, a, 150)) w := by kernel_rfl
theorem asN2 (a p : Addr) (W : World) (ha : W.cell? a = some (.pointer (some p))) :
    (ReflectliteValue.method (ReflectliteValue.valueError "reflectlite.Value.IsNil" 0) ReflectliteValue.isNil #[.agg #[.pointer (some ⟨1, 52, none⟩), .pointer (some a), .int .u64 150]]).run Tryz.prog W = .ok (.bool false) W := by
  rw [rlm]
  simp only [Sem.run_bind, asP2, Result.andThen]
  simp [ReflectliteValue.isNil, loadVar, isAgg, underlying, Tryz.underlying52, ha, Result.andThen]
theorem asME (h : Value) (w : World) : (Go.method 265 115 (.agg #[h]) "Elem").run Tryz.prog w = .ok (126, .agg #[h]) w := by kernel_rfl
theorem asMI (h : Value) (w : World) : (Go.method 265 115 (.agg #[h]) "Implements").run Tryz.prog w = .ok (127, .agg #[h]) w := by kernel_rfl
theorem asMA (h : Value) (w : World) : (Go.method 265 115 (.agg #[h]) "AssignableTo").run Tryz.prog w = .ok (124, .agg #[h]) w := by kernel_rfl
theorem asE2 (w : World) : (ReflectliteType.method ReflectliteType.elem #[.agg #[.pointer (some ⟨1, 52, none⟩)]]).run Tryz.prog w = .ok (.iface 115 (.agg #[.pointer (some ⟨1, 50, none⟩)])) w := by kernel_rfl
theorem asI1 (w : World) : (ReflectliteType.relation "Implements" ReflectliteType.implements_ #[.agg #[.pointer (some ⟨1, 50, none⟩)], .iface 115 (.agg #[.pointer (some ⟨1, 43, none⟩)])]).run Tryz.prog w = .ok (.bool true) w := by kernel_rfl
theorem asTO (v : Value) (w : World) : (ReflectliteType.typeOf #[.iface 50 v]).run Tryz.prog w = .ok (.iface 115 (.agg #[.pointer (some ⟨1, 50, none⟩)])) w := by kernel_rfl
theorem asA1 (w : World) : (ReflectliteType.relation "AssignableTo" ReflectliteType.assignableTo #[.agg #[.pointer (some ⟨1, 50, none⟩)], .iface 115 (.agg #[.pointer (some ⟨1, 50, none⟩)])]).run Tryz.prog w = .ok (.bool true) w := by kernel_rfl
theorem asV1 (ty : TypeId) (y : Value) (w : World) : (ReflectliteValue.unpack (.iface 50 (.agg #[.iface ty y]))).run Tryz.prog w
    = .ok (.agg #[.pointer (some ⟨1, 50, none⟩), .pointer (some ⟨w.heap.size, 0, none⟩), .int .u64 153]) (w.alloc (.cells #[.iface ty y] 50)) := by kernel_rfl
theorem asEO (w : World) : (Rtype.elem? 52).run Tryz.prog w = .ok (some 50) w := by kernel_rfl
theorem asM1 (p : Addr) (w : World) : (ReflectliteValue.mk 50 p ReflectliteValue.flagAddr).run Tryz.prog w = .ok (.agg #[.pointer (some ⟨1, 50, none⟩), .pointer (some p), .int .u64 409]) w := by kernel_rfl
theorem asEV (a p : Addr) (W : World) (ha : W.cell? a = some (.pointer (some p))) :
    (ReflectliteValue.method (ReflectliteValue.valueError "reflectlite.Value.Elem" 0) ReflectliteValue.elem #[.agg #[.pointer (some ⟨1, 52, none⟩), .pointer (some a), .int .u64 150]]).run Tryz.prog W
      = .ok (.agg #[.pointer (some ⟨1, 50, none⟩), .pointer (some p), .int .u64 409]) W := by
  rw [rlm]
  simp only [Sem.run_bind, asP2, Result.andThen]
  simp [ReflectliteValue.elem, loadVar, isAgg, underlying, Tryz.underlying52, ha, Result.andThen, asEO, asM1]
theorem asP1a (a : Addr) (w : World) : (ReflectliteValue.parts (.agg #[.pointer (some ⟨1, 50, none⟩), .pointer (some a), .int .u64 409])).run Tryz.prog w = .ok (some (50, a, 409)) w := by kernel_rfl
theorem asP1 (a : Addr) (w : World) : (ReflectliteValue.parts (.agg #[.pointer (some ⟨1, 50, none⟩), .pointer (some a), .int .u64 153])).run Tryz.prog w = .ok (some (50, a, 153)) w := by kernel_rfl
theorem asD1 (w : World) : (Rtype.directlyAssignable 50 50).run Tryz.prog w = .ok true w := by kernel_rfl
theorem asS1 (w : World) : (sizeOf 50).run Tryz.prog w = .ok 1 w := by kernel_rfl
theorem asLd (b : Nat) (ty : TypeId) (y : Value) (W : World) (h0 : W.cell? ⟨b, 0, none⟩ = some (.iface ty y)) : (loadVar 50 ⟨b, 0, none⟩).run Tryz.prog W = .ok (.agg #[.iface ty y]) W := by
  simp [loadVar, isAgg, underlying, Tryz.underlying50, Result.andThen, asS1, loadCells, loadCellsFrom, Addr.add, h0]
theorem asSet (T b : Nat) (ty : TypeId) (y : Value) (o0 : Value) (W : World) (h0 : W.cell? ⟨b, 0, none⟩ = some (.iface ty y)) (hT : W.heap[T]? = some (.cells #[o0] 50 (0, 0))) :
    (ReflectliteValue.set #[.agg #[.pointer (some ⟨1, 50, none⟩), .pointer (some ⟨T, 0, none⟩), .int .u64 409], .agg #[.pointer (some ⟨1, 50, none⟩), .pointer (some ⟨b, 0, none⟩), .int .u64 153]]).run Tryz.prog W
      = .ok (.tuple #[]) (W.setRow T #[.iface ty y]) := by
  have hs := run_storeVar_row (P := Tryz.prog) W T 50 50 #[o0] #[.iface ty y] hT (by kernel_rfl) rfl (by simp [Value.oneCell'])
  have hl := asLd b ty y W h0
  change Sem.run Tryz.prog (ReflectliteValue.parts _ >>= _) W = _
  simp [Array.getLit, asP1a, asP1, ReflectliteValue.flagAddr, hl, asD1, hs, Result.andThen]

set_option maxRecDepth 100000 in
set_option maxHeartbeats 4000000 in
theorem as_hit (T : Nat) (ty : TypeId) (y : Value) (o0 : Value) (w : World) (hg : w.cell? ⟨0, 0, none⟩ = some (.iface 115 (.agg #[.pointer (some ⟨1, 43, none⟩)]))) (hT : w.heap[T]? = some (.cells #[o0] 50 (0, 0))) :
    Calls Tryz.prog 19 #[.iface 50 (.agg #[.iface ty y]), .iface 52 (.pointer (some ⟨T, 0, none⟩))] w fun ev w' => ev = .returned (.bool true) ∧ ∃ w4 : World, Below w.heap.size w w4 ∧ w4.heap[T]? = some (.cells #[o0] 50 (0, 0)) ∧ w' = w4.setRow T #[.iface ty y] := by
  have h6 := @run_callFunc_extern Tryz.prog 41 _ (fun args => ReflectliteValue.unpack (args.getD 0 (.tuple #[]))) Tryz.func41 (by kernel_rfl) (by kernel_rfl) (by kernel_rfl) (by kernel_rfl)
  have h7 := @run_callFunc_extern Tryz.prog 42 _ (ReflectliteValue.methodAny (ReflectliteValue.valueError "reflectlite.Value.Type" 0) (fun t _ _ _ => ReflectliteType.toType t)) Tryz.func42 (by kernel_rfl) (by kernel_rfl) (by kernel_rfl) (by kernel_rfl)
  have h8 := @run_callFunc_extern Tryz.prog 43 _ (ReflectliteValue.method (ReflectliteValue.valueError "reflectlite.Value.IsNil" 0) ReflectliteValue.isNil) Tryz.func43 (by kernel_rfl) (by kernel_rfl) (by kernel_rfl) (by kernel_rfl)
  have h27 := @run_callFunc_extern Tryz.prog 112 _ (ReflectliteType.abiMethod fun t => do pure (.int .u8 (← Rtype.kind t))) Tryz.func112 (by kernel_rfl) (by kernel_rfl) (by kernel_rfl) (by kernel_rfl)
  have h37 := @run_callFunc_extern Tryz.prog 126 _ (ReflectliteType.method ReflectliteType.elem) Tryz.func126 (by kernel_rfl) (by kernel_rfl) (by kernel_rfl) (by kernel_rfl)
  have h38 := @run_callFunc_extern Tryz.prog 127 _ (ReflectliteType.relation "Implements" ReflectliteType.implements_) Tryz.func127 (by kernel_rfl) (by kernel_rfl) (by kernel_rfl) (by kernel_rfl)
  have h10 := @run_callFunc_extern Tryz.prog 84 _ ReflectliteType.typeOf Tryz.func84 (by kernel_rfl) (by kernel_rfl) (by kernel_rfl) (by kernel_rfl)
  have h35 := @run_callFunc_extern Tryz.prog 124 _ (ReflectliteType.relation "AssignableTo" ReflectliteType.assignableTo) Tryz.func124 (by kernel_rfl) (by kernel_rfl) (by kernel_rfl) (by kernel_rfl)
  have h11 := @run_callFunc_extern Tryz.prog 85 _ (ReflectliteValue.method (ReflectliteValue.valueError "reflectlite.Value.Elem" 0) ReflectliteValue.elem) Tryz.func85 (by kernel_rfl) (by kernel_rfl) (by kernel_rfl) (by kernel_rfl)
  have h12 := @run_callFunc_extern Tryz.prog 86 _ ReflectliteValue.set Tryz.func86 (by kernel_rfl) (by kernel_rfl) (by kernel_rfl) (by kernel_rfl)
  have tO := asTO
  have mA := asMA
  have a1 := asA1
  have v1 := asV1
  have f6 := asV2
  have f7 := asT2
  have mK := asMK
  have mE := asME
  have mI := asMI
  have k2 := asK2
  have k1 := asK1
  have e2 := asE2
  have i1 := asI1
  have hTl : T < w.heap.size := by
    rcases Nat.lt_or_ge T w.heap.size with h | h
    · exact h
    · rw [Array.getElem?_eq_none h] at hT; cases hT
  have hgl : 0 < w.heap.size := World.block_lt_of_cell? _ _ hg
  have n8 := asN2 ⟨w.heap.size, 0, none⟩ ⟨T, 0, none⟩ ((w.alloc (.cells #[.pointer (some ⟨T, 0, none⟩)] 52)).alloc (.cells #[.pointer (some ⟨1, 52, none⟩), .pointer (some ⟨w.heap.size, 0, none⟩), .int .u64 150] 76)) (by simp)
  have hg2 : ((w.alloc (.cells #[.pointer (some ⟨T, 0, none⟩)] 52)).alloc (.cells #[.pointer (some ⟨1, 52, none⟩), .pointer (some ⟨w.heap.size, 0, none⟩), .int .u64 150] 76)).cell? ⟨0, 0, none⟩ = some (.iface 115 (.agg #[.pointer (some ⟨1, 43, none⟩)])) := by
    rw [World.cell?_alloc_lt _ _ ⟨0, 0, none⟩ (by simp <;> omega), World.cell?_alloc_lt _ _ ⟨0, 0, none⟩ hgl]; exact hg
  have el := asEV ⟨w.heap.size, 0, none⟩ ⟨T, 0, none⟩ (((w.alloc (.cells #[.pointer (some ⟨T, 0, none⟩)] 52)).alloc (.cells #[.pointer (some ⟨1, 52, none⟩), .pointer (some ⟨w.heap.size, 0, none⟩), .int .u64 150] 76)).alloc (.cells #[.pointer (some ⟨1, 52, none⟩), .pointer (some ⟨w.heap.size, 0, none⟩), .int .u64 150] 76)) (by rw [World.cell?_alloc_lt _ _ ⟨w.heap.size, 0, none⟩ (by simp; omega)]; simp)
  obtain ⟨w3, e3⟩ : ∃ w3, w3 = (((w.alloc (.cells #[.pointer (some ⟨T, 0, none⟩)] 52)).alloc (.cells #[.pointer (some ⟨1, 52, none⟩), .pointer (some ⟨w.heap.size, 0, none⟩), .int .u64 150] 76)).alloc (.cells #[.pointer (some ⟨1, 52, none⟩), .pointer (some ⟨w.heap.size, 0, none⟩), .int .u64 150] 76)) := ⟨_, rfl⟩
  have hs3 : w3.heap.size = w.heap.size + 1 + 1 + 1 := by rw [e3]; simp
  have hb3 : Below w.heap.size w w3 := by
    rw [e3]
    exact (((Below.refl _ _).alloc (Nat.le_refl _) _).alloc (by simp) _).alloc (by simp; omega) _
  have hT4 : (w3.alloc (.cells #[.iface ty y] 50)).heap[T]? = some (.cells #[o0] 50 (0, 0)) := by
    rw [Go.heap_alloc_old _ _ (by omega), hb3.block T hTl]; exact hT
  have st := asSet T (w.heap.size + 1 + 1 + 1) ty y o0 (w3.alloc (.cells #[.iface ty y] 50)) (by rw [← hs3]; unfold World.cell?; rw [heap_alloc_new]; rfl) hT4
  have HB4 : Hid (Below w.heap.size w (w3.alloc (.cells #[.iface ty y] 50))) := hb3.alloc (by omega) _
  have HT4 : Hid _ := hT4
  rw [e3] at st HB4 HT4
  clear hb3 hs3 hT4 hT hTl hgl hg e3
  go_enter Tryz.func19, Tryz.ntmps19
  go_wp2
  refine wp_loop_rounds 1 ?_
  rw [rounds_succ]
  go_wp2
  go_ret
  exact ⟨rfl, _, HB4.out, HT4.out, rfl⟩

end Go.Proofs.YtpcmfdbcjegbcaaGreatDoor

namespace Go.Proofs.YtpcmfdbcjegbcaaGreatDoor
open Go Go.RowKit Go.Extern.Stop Go.Stop Go.Extern
set_option linter.unusedVariables false
set_option linter.unusedSimpArgs false

theorem twoC {w5 : World} {g : Nat} {a : Value} (h : w5.heap[g]? = some (.cells #[a] 50 (0, 0))) : w5.cell? ⟨g, 0, none⟩ = some a ∧ w5.frozen? ⟨g, 0, none⟩ = false := by
  refine ⟨?_, ?_⟩
  · unfold World.cell?; rw [h]; rfl
  · unfold World.frozen?; rw [h]; rfl
set_option maxRecDepth 100000 in
set_option maxHeartbeats 4000000 in
theorem errorTermOf_any (ty : TypeId) (y : Value) (w : World) (hg : w.cell? ⟨0, 0, none⟩ = some (.iface 115 (.agg #[.pointer (some ⟨1, 43, none⟩)]))) :
    Calls Tryz.prog 37 #[.iface 50 (.agg #[.iface ty y])] w fun e w' => e = .returned (.agg #[.iface ty y]) ∧ Below w.heap.size w w' := by
  have hgl : 0 < w.heap.size := World.block_lt_of_cell? _ _ hg
  have hta := run_typeAssert_hasB (P := Tryz.prog) (asserted := 43) (t := 50) Tryz.underlying43 (by kernel_rfl) (.agg #[.iface ty y]) 20
  obtain ⟨w2, e2⟩ : ∃ w2, w2 = (w.alloc (.cells #[.nilIface] 50)).alloc (.cells #[.nilIface] 50) := ⟨_, rfl⟩
  have hb2 : Below w.heap.size w w2 := by rw [e2]; exact ((Below.refl _ _).alloc (Nat.le_refl _) _).alloc (by simp) _
  have hs2 : w2.heap.size = w.heap.size + 1 + 1 := by rw [e2]; simp
  have hT2 : w2.heap[w.heap.size + 1]? = some (.cells #[.nilIface] 50 (0, 0)) := by
    have := heap_alloc_new (w.alloc (.cells #[.nilIface] 50)) (.cells #[.nilIface] 50)
    rw [← e2] at this
    simpa using this
  have hR2 : w2.heap[w.heap.size]? = some (.cells #[.nilIface] 50 (0, 0)) := by
    rw [e2, Go.heap_alloc_old _ _ (by simp)]; exact heap_alloc_new _ _
  have HA : Calls Tryz.prog 19 #[.iface 50 (.agg #[.iface ty y]), .iface 52 (.pointer (some ⟨w.heap.size + 1, 0, none⟩))] w2 fun e w5 => e = .returned (.bool true) ∧ Hid (Below w.heap.size w w5) ∧ w.heap.size < w5.heap.size ∧ Hid (w5.heap[w.heap.size]? = some (.cells #[.nilIface] 50 (0, 0))) ∧ Hid (w5.heap[w.heap.size + 1]? = some (.cells #[.iface ty y] 50 (0, 0))) := by
    refine (as_hit (w.heap.size + 1) ty y .nilIface w2 ((hb2.cell (p := ⟨0, 0, none⟩) hgl).trans hg) hT2).mono ?_
    rintro e w5 ⟨rfl, w4, hb4, hT4, rfl⟩
    have hb5 : Below w.heap.size w w4 := hb2.trans (hb4.mono hb2.size)
    refine ⟨rfl, below_setRow hb5 (by omega) _, ?_, ?_, setRow_heap _ _ _ _ _ _ hT4⟩
    · have := hb4.size; simp; omega
    · show _ = _
      rw [setRow_other _ _ _ _ (by omega), hb4.block _ (by omega)]; exact hR2
  rw [e2] at HA
  clear hg hgl hb2 hs2 hT2 hR2 e2
  go_enter Tryz.func37, Tryz.ntmps37
  go_wp2_with (go_at_call 19; refine HA.mono ?_; rintro e w5 ⟨rfl, HB, hlt, HR, HT⟩; obtain ⟨c0, _⟩ := twoC HT.out; obtain ⟨d0, g0⟩ := twoC HR.out)
  have hB6 : Below w.heap.size w (w5.setCell ⟨w.heap.size, 0, none⟩ (.iface ty y)) := ⟨HB.out.os, HB.out.tape, HB.out.output, by have := HB.out.size; simp; omega, fun k hk => (heap_setCell_other w5 ⟨w.heap.size, 0, none⟩ k _ (fun e => by simp at e; omega)).trans (HB.out.block k hk)⟩
  exact bodyPost_ret (v := .agg #[.iface ty y]) (by simp [results, Tryz.results37, go_sem, d0, hlt]) rfl ⟨rfl, hB6⟩

end Go.Proofs.YtpcmfdbcjegbcaaGreatDoor

namespace Go.Proofs.YtpcmfdbcjegbcaaGreatDoor
open Go Go.RowKit
set_option linter.unusedVariables false

/-- What the deferred call has written. -/
structure SaidE (w w' : World) (VB EB : Nat) (u : Value) : Prop where
  os : w'.os = w.os
  tape : w'.tape = w.tape
  output : w'.output = w.output
  size : w.heap.size ≤ w'.heap.size
  block : ∀ k, k < w.heap.size → k ≠ VB → k ≠ EB → w'.heap[k]? = w.heap[k]?
  val : w'.cell? ⟨VB, 0, none⟩ = some (.int .i64 0)
  err : w'.cell? ⟨EB, 0, none⟩ = some u

set_option maxRecDepth 100000 in
set_option maxHeartbeats 2000000 in
theorem evD_panicking (n VB EB : Nat) (vv ev : Value) (ty : TypeId) (y : Value) (w : World) (hg : w.cell? ⟨0, 0, none⟩ = some (.iface 115 (.agg #[.pointer (some ⟨1, 43, none⟩)])))
    (hV : w.cell? ⟨VB, 0, none⟩ = some vv) (hE : w.cell? ⟨EB, 0, none⟩ = some ev) (fV : w.frozen? ⟨VB, 0, none⟩ = false) (fE : w.frozen? ⟨EB, 0, none⟩ = false) (h1 : EB = VB + 1) :
    CallsDIn Fence.wide n Tryz.prog 36 #[.pointer (some ⟨VB, 0, none⟩), .pointer (some ⟨EB, 0, none⟩)] (.panicking ({ v := .iface 50 (.agg #[.iface ty y]), recovered := false } :: [])) w fun e u' w' =>
      e = .returned (.tuple #[]) ∧ u' = .panicking ({ v := .iface 50 (.agg #[.iface ty y]), recovered := true } :: []) ∧ SaidE w w' VB EB (.iface 50 (.agg #[.iface ty y])) := by
  have HF := errorTermOf_any ty y w hg
  refine callsDIn_of_wpSIn Tryz.func36 rfl trivial fun c₀ cs hu => ?_
  apply wpSIn_seq
  apply wpSIn_region
  simp [wpOpsSIn, go_sem, recoverD, hu, Tryz.ntmps36, Exit.thenS]
  refine wpSIn_of_wpIn rfl ?_
  refine wpIn_wide.2 ?_
  simp only [Array.replicate_succ, Array.replicate_zero, List.push_toArray, List.nil_append, List.cons_append, List.append_toArray, List.setIfInBounds_toArray, List.set_cons_zero, List.set_cons_succ]
  go_wp2_with fail
  refine HF.mono ?_
  rintro e w1 ⟨rfl, hb1⟩
  have lV := World.block_lt_of_cell? _ _ hV
  have lE := World.block_lt_of_cell? _ _ hE
  have kV := (hb1.cell lV).trans hV
  have kE := (hb1.cell lE).trans hE
  have gV := (hb1.frozen lV).trans fV
  have gE := (hb1.frozen lE).trans fE
  have n1 : VB ≠ EB := by omega
  have far : ∀ (W : World) (B B' o : Nat) (v : Value), B ≠ B' → (W.setCell ⟨B, 0, none⟩ v).cell? ⟨B', o, none⟩ = W.cell? ⟨B', o, none⟩ := fun W B B' o v h => World.cell?_setCell_far W ⟨B, 0, none⟩ ⟨B', o, none⟩ v h
  have s1 := (far w1 VB EB 0 (.int .i64 0) n1).trans kE
  have HFIN : Hid (SaidE w ((w1.setCell ⟨VB, 0, none⟩ (.int .i64 0)).setCell ⟨EB, 0, none⟩ (.iface 50 (.agg #[.iface ty y]))) VB EB (.iface 50 (.agg #[.iface ty y]))) := by
    refine ⟨hb1.os, hb1.tape, hb1.output, by have := hb1.size; simp; omega, fun k hk k1 k2 => ?_, ?_, ?_⟩
    · rw [heap_setCell_other _ ⟨EB, 0, none⟩ k _ (fun e => k2 (by simpa using e)), heap_setCell_other _ ⟨VB, 0, none⟩ k _ (fun e => k1 (by simpa using e))]
      exact hb1.block k hk
    · rw [far _ EB VB 0 _ (Ne.symm n1)]
      exact World.cell?_setCell_same' _ _ _ (by rw [kV]; rfl)
    · exact World.cell?_setCell_same' _ _ _ (by rw [s1]; rfl)
  clear far hb1 hV hE fV fE HF h1 hg lV lE
  go_wp2_with fail
  exact ⟨rfl, _, rfl, .tuple #[], by simp [results, Tryz.results36, go_sem], rfl, rfl, HFIN.out⟩

theorem evD_idle (n : Nat) (a b : Value) (w : World) :
    CallsDIn Fence.wide n Tryz.prog 36 #[a, b] .returning w fun e u' w' => e = .returned (.tuple #[]) ∧ u' = .returning ∧ w' = w := by
  refine callsDIn_of_wpSIn Tryz.func36 rfl trivial fun c₀ cs hu => ?_
  apply wpSIn_seq
  apply wpSIn_region
  simp [wpOpsSIn, go_sem, recoverD, hu, Tryz.ntmps36, Exit.thenS]
  refine wpSIn_of_wpIn rfl ?_
  refine wpIn_wide.2 ?_
  simp only [Array.replicate_succ, Array.replicate_zero, List.push_toArray, List.nil_append, List.cons_append, List.append_toArray, List.setIfInBounds_toArray, List.set_cons_zero, List.set_cons_succ]
  go_wp2_with fail
  cases c₀
  simp_all [bodyPostS, results, Tryz.results36]

end Go.Proofs.YtpcmfdbcjegbcaaGreatDoor

