/- Texts of AsE, AsE2, RecE, FeA, RowK, Dt16, OpsV4, OpsA, OpsMG. Own work of the verifier. -/
import Derived.Test.YtkklidpnkofipaaGreatDoorUqaf
import Derived.Recover
import Derived.TacticsInMore
import Derived.RegionIn
import Derived.LoopNIn
import Derived.RecoverIn
import Derived.OwnWalkIn
import Derived.Test.YtkklidpnkofipaaGreatDoorUqad
namespace Go.Proofs.YtkklidpnkofipaaGreatDoor
set_option linter.unusedVariables false
set_option maxRecDepth 100000
section
open Go Go.RowKit Go.Extern.Stop Go.Stop Go.Extern
set_option linter.unusedSimpArgs false
theorem asV2 (t : Addr) (w : World) : (ReflectliteValue.unpack (.iface 59 (.pointer (some t)))).run Tryz.prog w
  = .ok (.agg #[.pointer (some ⟨11, 59, none⟩), .pointer (some ⟨w.heap.size, 0, none⟩), .int .u64 150]) (w.alloc (.cells #[.pointer (some t)] 59)) := by kernel_rfl
theorem asT2 (a : Addr) (w : World) : (ReflectliteValue.methodAny (ReflectliteValue.valueError "reflectlite.Value.Type" 0) (fun t _ _ _ => ReflectliteType.toType t) #[.agg #[.pointer (some ⟨11, 59, none⟩), .pointer (some a), .int .u64 150]]).run Tryz.prog w
  = .ok (.iface 169 (.agg #[.pointer (some ⟨11, 59, none⟩)])) w := by kernel_rfl
theorem asMK (h : Value) (w : World) : (Go.method 602 169 (.agg #[h]) "Kind").run Tryz.prog w = .ok (441, h) w := by kernel_rfl
theorem asK2 (w : World) : ((ReflectliteType.abiMethod fun t => (fun a : Nat => Value.int IntKind.u8 (a : Int)) <$> Rtype.kind t) #[.pointer (some ⟨11, 59, none⟩)]).run Tryz.prog w = .ok (.int .u8 22) w := by kernel_rfl
theorem asK1 (w : World) : ((ReflectliteType.abiMethod fun t => (fun a : Nat => Value.int IntKind.u8 (a : Int)) <$> Rtype.kind t) #[.pointer (some ⟨11, 57, none⟩)]).run Tryz.prog w = .ok (.int .u8 25) w := by kernel_rfl
theorem rlm (z : Sem Value) (f : TypeId → Addr → Nat → Nat → Sem Value) (v : Value) :
  ReflectliteValue.method z f #[v] = (do match ← ReflectliteValue.parts v with | none => z | some (t, a, fl) => f t a fl (fl % 32)) := rfl
theorem asP2 (a : Addr) (w : World) : (ReflectliteValue.parts (.agg #[.pointer (some ⟨11, 59, none⟩), .pointer (some a), .int .u64 150])).run Tryz.prog w = .ok (some (59, a, 150)) w := by kernel_rfl
theorem asN2 (a p : Addr) (W : World) (ha : W.cell? a = some (.pointer (some p))) :
  (ReflectliteValue.method (ReflectliteValue.valueError "reflectlite.Value.IsNil" 0) ReflectliteValue.isNil #[.agg #[.pointer (some ⟨11, 59, none⟩), .pointer (some a), .int .u64 150]]).run Tryz.prog W = .ok (.bool false) W := by
 rw [rlm]; simp only [Sem.run_bind, asP2, Result.andThen]
 simp [ReflectliteValue.isNil, loadVar, isAgg, underlying, Tryz.underlying59, ha, Result.andThen]
theorem asME (h : Value) (w : World) : (Go.method 602 169 (.agg #[h]) "Elem").run Tryz.prog w = .ok (459, .agg #[h]) w := by kernel_rfl
theorem asMI (h : Value) (w : World) : (Go.method 602 169 (.agg #[h]) "Implements").run Tryz.prog w = .ok (460, .agg #[h]) w := by kernel_rfl
theorem asMA (h : Value) (w : World) : (Go.method 602 169 (.agg #[h]) "AssignableTo").run Tryz.prog w = .ok (457, .agg #[h]) w := by kernel_rfl
theorem asE2 (w : World) : (ReflectliteType.method ReflectliteType.elem #[.agg #[.pointer (some ⟨11, 59, none⟩)]]).run Tryz.prog w = .ok (.iface 169 (.agg #[.pointer (some ⟨11, 57, none⟩)])) w := by kernel_rfl
theorem asI1 (w : World) : (ReflectliteType.relation "Implements" ReflectliteType.implements_ #[.agg #[.pointer (some ⟨11, 57, none⟩)], .iface 169 (.agg #[.pointer (some ⟨11, 50, none⟩)])]).run Tryz.prog w = .ok (.bool true) w := by kernel_rfl
theorem asTO (v : Value) (w : World) : (ReflectliteType.typeOf #[.iface 57 v]).run Tryz.prog w = .ok (.iface 169 (.agg #[.pointer (some ⟨11, 57, none⟩)])) w := by kernel_rfl
theorem asA1 (w : World) : (ReflectliteType.relation "AssignableTo" ReflectliteType.assignableTo #[.agg #[.pointer (some ⟨11, 57, none⟩)], .iface 169 (.agg #[.pointer (some ⟨11, 57, none⟩)])]).run Tryz.prog w = .ok (.bool true) w := by kernel_rfl
theorem asV1 (ty : TypeId) (y : Value) (w : World) : (ReflectliteValue.unpack (.iface 57 (.agg #[.iface ty y]))).run Tryz.prog w
  = .ok (.agg #[.pointer (some ⟨11, 57, none⟩), .pointer (some ⟨w.heap.size, 0, none⟩), .int .u64 153]) (w.alloc (.cells #[.iface ty y] 57)) := by kernel_rfl
theorem asEO (w : World) : (Rtype.elem? 59).run Tryz.prog w = .ok (some 57) w := by kernel_rfl
theorem asM1 (p : Addr) (w : World) : (ReflectliteValue.mk 57 p ReflectliteValue.flagAddr).run Tryz.prog w = .ok (.agg #[.pointer (some ⟨11, 57, none⟩), .pointer (some p), .int .u64 409]) w := by kernel_rfl
theorem asEV (a p : Addr) (W : World) (ha : W.cell? a = some (.pointer (some p))) :
  (ReflectliteValue.method (ReflectliteValue.valueError "reflectlite.Value.Elem" 0) ReflectliteValue.elem #[.agg #[.pointer (some ⟨11, 59, none⟩), .pointer (some a), .int .u64 150]]).run Tryz.prog W
    = .ok (.agg #[.pointer (some ⟨11, 57, none⟩), .pointer (some p), .int .u64 409]) W := by
 rw [rlm]; simp only [Sem.run_bind, asP2, Result.andThen]
 simp [ReflectliteValue.elem, loadVar, isAgg, underlying, Tryz.underlying59, ha, Result.andThen, asEO, asM1]
theorem asP1a (a : Addr) (w : World) : (ReflectliteValue.parts (.agg #[.pointer (some ⟨11, 57, none⟩), .pointer (some a), .int .u64 409])).run Tryz.prog w = .ok (some (57, a, 409)) w := by kernel_rfl
theorem asP1 (a : Addr) (w : World) : (ReflectliteValue.parts (.agg #[.pointer (some ⟨11, 57, none⟩), .pointer (some a), .int .u64 153])).run Tryz.prog w = .ok (some (57, a, 153)) w := by kernel_rfl
theorem asD1 (w : World) : (Rtype.directlyAssignable 57 57).run Tryz.prog w = .ok true w := by kernel_rfl
theorem asS1 (w : World) : (sizeOf 57).run Tryz.prog w = .ok 1 w := by kernel_rfl
theorem asLd (b : Nat) (ty : TypeId) (y : Value) (W : World) (h0 : W.cell? ⟨b, 0, none⟩ = some (.iface ty y)) : (loadVar 57 ⟨b, 0, none⟩).run Tryz.prog W = .ok (.agg #[.iface ty y]) W := by
 simp [loadVar, isAgg, underlying, Tryz.underlying57, Result.andThen, asS1, loadCells, loadCellsFrom, Addr.add, h0]
theorem asSet (T b : Nat) (ty : TypeId) (y : Value) (o0 : Value) (W : World) (h0 : W.cell? ⟨b, 0, none⟩ = some (.iface ty y)) (hT : W.heap[T]? = some (.cells #[o0] 57 (0, 0))) :
  (ReflectliteValue.set #[.agg #[.pointer (some ⟨11, 57, none⟩), .pointer (some ⟨T, 0, none⟩), .int .u64 409], .agg #[.pointer (some ⟨11, 57, none⟩), .pointer (some ⟨b, 0, none⟩), .int .u64 153]]).run Tryz.prog W
    = .ok (.tuple #[]) (W.setRow T #[.iface ty y]) := by
 have hs := run_storeVar_row (P := Tryz.prog) W T 57 57 #[o0] #[.iface ty y] hT (by kernel_rfl) rfl (by simp [Value.oneCell']); have hl := asLd b ty y W h0
 change Sem.run Tryz.prog (ReflectliteValue.parts _ >>= _) W = _
 simp [Array.getLit, asP1a, asP1, ReflectliteValue.flagAddr, hl, asD1, hs, Result.andThen]
set_option maxHeartbeats 4000000 in
theorem as_hit (T : Nat) (ty : TypeId) (y : Value) (o0 : Value) (w : World) (hg : w.cell? ⟨0, 0, none⟩ = some (.iface 169 (.agg #[.pointer (some ⟨11, 50, none⟩)]))) (hT : w.heap[T]? = some (.cells #[o0] 57 (0, 0))) :
  Calls Tryz.prog 24 #[.iface 57 (.agg #[.iface ty y]), .iface 59 (.pointer (some ⟨T, 0, none⟩))] w fun ev w' => ev = .returned (.bool true) ∧ ∃ w4 : World, Below w.heap.size w w4 ∧ w4.heap[T]? = some (.cells #[o0] 57 (0, 0)) ∧ w' = w4.setRow T #[.iface ty y] := by
 have h6 := @run_callFunc_extern Tryz.prog 56 _ (fun args => ReflectliteValue.unpack (args.getD 0 (.tuple #[]))) Tryz.func56 (by kernel_rfl) (by kernel_rfl) (by kernel_rfl) (by kernel_rfl); have h7 := @run_callFunc_extern Tryz.prog 57 _ (ReflectliteValue.methodAny (ReflectliteValue.valueError "reflectlite.Value.Type" 0) (fun t _ _ _ => ReflectliteType.toType t)) Tryz.func57 (by kernel_rfl) (by kernel_rfl) (by kernel_rfl) (by kernel_rfl); have h8 := @run_callFunc_extern Tryz.prog 58 _ (ReflectliteValue.method (ReflectliteValue.valueError "reflectlite.Value.IsNil" 0) ReflectliteValue.isNil) Tryz.func58 (by kernel_rfl) (by kernel_rfl) (by kernel_rfl) (by kernel_rfl); have h27 := @run_callFunc_extern Tryz.prog 441 _ (ReflectliteType.abiMethod fun t => do pure (.int .u8 (← Rtype.kind t))) Tryz.func441 (by kernel_rfl) (by kernel_rfl) (by kernel_rfl) (by kernel_rfl)
 have h37 := @run_callFunc_extern Tryz.prog 459 _ (ReflectliteType.method ReflectliteType.elem) Tryz.func459 (by kernel_rfl) (by kernel_rfl) (by kernel_rfl) (by kernel_rfl); have h38 := @run_callFunc_extern Tryz.prog 460 _ (ReflectliteType.relation "Implements" ReflectliteType.implements_) Tryz.func460 (by kernel_rfl) (by kernel_rfl) (by kernel_rfl) (by kernel_rfl); have h10 := @run_callFunc_extern Tryz.prog 155 _ ReflectliteType.typeOf Tryz.func155 (by kernel_rfl) (by kernel_rfl) (by kernel_rfl) (by kernel_rfl); have h35 := @run_callFunc_extern Tryz.prog 457 _ (ReflectliteType.relation "AssignableTo" ReflectliteType.assignableTo) Tryz.func457 (by kernel_rfl) (by kernel_rfl) (by kernel_rfl) (by kernel_rfl)
 have h11 := @run_callFunc_extern Tryz.prog 156 _ (ReflectliteValue.method (ReflectliteValue.valueError "reflectlite.Value.Elem" 0) ReflectliteValue.elem) Tryz.func156 (by kernel_rfl) (by kernel_rfl) (by kernel_rfl) (by kernel_rfl); have h12 := @run_callFunc_extern Tryz.prog 157 _ ReflectliteValue.set Tryz.func157 (by kernel_rfl) (by kernel_rfl) (by kernel_rfl) (by kernel_rfl); have tO := asTO; have mA := asMA; have a1 := asA1; have v1 := asV1; have f6 := asV2; have f7 := asT2; have mK := asMK; have mE := asME; have mI := asMI; have k2 := asK2; have k1 := asK1; have e2 := asE2; have i1 := asI1
 have hTl : T < w.heap.size := by
  rcases Nat.lt_or_ge T w.heap.size with h | h
  ·exact h
  ·rw [Array.getElem?_eq_none h] at hT; cases hT
 have hgl : 0 < w.heap.size := World.block_lt_of_cell? _ _ hg; have n8 := asN2 ⟨w.heap.size, 0, none⟩ ⟨T, 0, none⟩ ((w.alloc (.cells #[.pointer (some ⟨T, 0, none⟩)] 59)).alloc (.cells #[.pointer (some ⟨11, 59, none⟩), .pointer (some ⟨w.heap.size, 0, none⟩), .int .u64 150] 112)) (by simp)
 have hg2 : ((w.alloc (.cells #[.pointer (some ⟨T, 0, none⟩)] 59)).alloc (.cells #[.pointer (some ⟨11, 59, none⟩), .pointer (some ⟨w.heap.size, 0, none⟩), .int .u64 150] 112)).cell? ⟨0, 0, none⟩ = some (.iface 169 (.agg #[.pointer (some ⟨11, 50, none⟩)])) := by
  rw [World.cell?_alloc_lt _ _ ⟨0, 0, none⟩ (by simp <;> omega), World.cell?_alloc_lt _ _ ⟨0, 0, none⟩ hgl]; exact hg
 have el := asEV ⟨w.heap.size, 0, none⟩ ⟨T, 0, none⟩ (((w.alloc (.cells #[.pointer (some ⟨T, 0, none⟩)] 59)).alloc (.cells #[.pointer (some ⟨11, 59, none⟩), .pointer (some ⟨w.heap.size, 0, none⟩), .int .u64 150] 112)).alloc (.cells #[.pointer (some ⟨11, 59, none⟩), .pointer (some ⟨w.heap.size, 0, none⟩), .int .u64 150] 112)) (by rw [World.cell?_alloc_lt _ _ ⟨w.heap.size, 0, none⟩ (by simp; omega)]; simp)
 obtain ⟨w3, e3⟩ : ∃ w3, w3 = (((w.alloc (.cells #[.pointer (some ⟨T, 0, none⟩)] 59)).alloc (.cells #[.pointer (some ⟨11, 59, none⟩), .pointer (some ⟨w.heap.size, 0, none⟩), .int .u64 150] 112)).alloc (.cells #[.pointer (some ⟨11, 59, none⟩), .pointer (some ⟨w.heap.size, 0, none⟩), .int .u64 150] 112)) := ⟨_, rfl⟩
 have hs3 : w3.heap.size = w.heap.size + 1 + 1 + 1 := by rw [e3]; simp
 have hb3 : Below w.heap.size w w3 := by
  rw [e3]; exact (((Below.refl _ _).alloc (Nat.le_refl _) _).alloc (by simp) _).alloc (by simp; omega) _
 have hT4 : (w3.alloc (.cells #[.iface ty y] 57)).heap[T]? = some (.cells #[o0] 57 (0, 0)) := by
  rw [Go.heap_alloc_old _ _ (by omega), hb3.block T hTl]; exact hT
 have st := asSet T (w.heap.size + 1 + 1 + 1) ty y o0 (w3.alloc (.cells #[.iface ty y] 57)) (by rw [← hs3]; unfold World.cell?; rw [heap_alloc_new]; rfl) hT4; have HB4 : Hid (Below w.heap.size w (w3.alloc (.cells #[.iface ty y] 57))) := hb3.alloc (by omega) _; have HT4 : Hid _ := hT4; rw [e3] at st HB4 HT4; clear hb3 hs3 hT4 hT hTl hgl hg e3
 go_enter Tryz.func24, Tryz.ntmps24
 go_wp2
 refine wp_loop_rounds 1 ?_; rw [rounds_succ]
 go_wp2
 go_ret; exact ⟨rfl, _, HB4.out, HT4.out, rfl⟩
theorem twoC {w5 : World} {g : Nat} {a : Value} (h : w5.heap[g]? = some (.cells #[a] 57 (0, 0))) : w5.cell? ⟨g, 0, none⟩ = some a ∧ w5.frozen? ⟨g, 0, none⟩ = false := by
 refine ⟨?_, ?_⟩
 ·unfold World.cell?; rw [h]; rfl
 ·unfold World.frozen?; rw [h]; rfl
set_option maxHeartbeats 4000000 in
theorem errorTermOf_any (ty : TypeId) (y : Value) (w : World) (hg : w.cell? ⟨0, 0, none⟩ = some (.iface 169 (.agg #[.pointer (some ⟨11, 50, none⟩)]))) :
  Calls Tryz.prog 52 #[.iface 57 (.agg #[.iface ty y])] w fun e w' => e = .returned (.agg #[.iface ty y]) ∧ Below w.heap.size w w' := by
 have hgl : 0 < w.heap.size := World.block_lt_of_cell? _ _ hg; have hta := run_typeAssert_hasB (P := Tryz.prog) (asserted := 50) (t := 57) Tryz.underlying50 (by kernel_rfl) (.agg #[.iface ty y]) 20
 obtain ⟨w2, e2⟩ : ∃ w2, w2 = (w.alloc (.cells #[.nilIface] 57)).alloc (.cells #[.nilIface] 57) := ⟨_, rfl⟩
 have hb2 : Below w.heap.size w w2 := by rw [e2]; exact ((Below.refl _ _).alloc (Nat.le_refl _) _).alloc (by simp) _
 have hs2 : w2.heap.size = w.heap.size + 1 + 1 := by rw [e2]; simp
 have hT2 : w2.heap[w.heap.size + 1]? = some (.cells #[.nilIface] 57 (0, 0)) := by
  have := heap_alloc_new (w.alloc (.cells #[.nilIface] 57)) (.cells #[.nilIface] 57); rw [← e2] at this
  simpa using this
 have hR2 : w2.heap[w.heap.size]? = some (.cells #[.nilIface] 57 (0, 0)) := by
  rw [e2, Go.heap_alloc_old _ _ (by simp)]; exact heap_alloc_new _ _
 have HA : Calls Tryz.prog 24 #[.iface 57 (.agg #[.iface ty y]), .iface 59 (.pointer (some ⟨w.heap.size + 1, 0, none⟩))] w2 fun e w5 => e = .returned (.bool true) ∧ Hid (Below w.heap.size w w5) ∧ w.heap.size < w5.heap.size ∧ Hid (w5.heap[w.heap.size]? = some (.cells #[.nilIface] 57 (0, 0))) ∧ Hid (w5.heap[w.heap.size + 1]? = some (.cells #[.iface ty y] 57 (0, 0))) := by
  refine (as_hit (w.heap.size + 1) ty y .nilIface w2 ((hb2.cell (p := ⟨0, 0, none⟩) hgl).trans hg) hT2).mono ?_; rintro e w5 ⟨rfl, w4, hb4, hT4, rfl⟩; have hb5 : Below w.heap.size w w4 := hb2.trans (hb4.mono hb2.size); refine ⟨rfl, below_setRow hb5 (by omega) _, ?_, ?_, setRow_heap _ _ _ _ _ _ hT4⟩
  ·have := hb4.size; simp; omega
  ·show _ = _
   rw [setRow_other _ _ _ _ (by omega), hb4.block _ (by omega)]; exact hR2
 rw [e2] at HA; clear hg hgl hb2 hs2 hT2 hR2 e2
 go_enter Tryz.func52, Tryz.ntmps52
 go_wp2_with (go_at_call 24; refine HA.mono ?_; rintro e w5 ⟨rfl, HB, hlt, HR, HT⟩; obtain ⟨c0, _⟩ := twoC HT.out; obtain ⟨d0, g0⟩ := twoC HR.out)
 have hB6 : Below w.heap.size w (w5.setCell ⟨w.heap.size, 0, none⟩ (.iface ty y)) := ⟨HB.out.os, HB.out.tape, HB.out.output, by have := HB.out.size; simp; omega, fun k hk => (heap_setCell_other w5 ⟨w.heap.size, 0, none⟩ k _ (fun e => by simp at e; omega)).trans (HB.out.block k hk)⟩
 exact bodyPost_ret (v := .agg #[.iface ty y]) (by simp [results, Tryz.results52, go_sem, d0, hlt]) rfl ⟨rfl, hB6⟩
end
section
open Go Go.RowKit
structure SaidE (w w' : World) (VB EB : Nat) (u : Value) : Prop where
 os : w'.os = w.os
 tape : w'.tape = w.tape
 output : w'.output = w.output
 size : w.heap.size ≤ w'.heap.size
 block : ∀ k, k < w.heap.size → k ≠ VB → k ≠ EB → w'.heap[k]? = w.heap[k]?
 val : w'.cell? ⟨VB, 0, none⟩ = some (.int .i64 0)
 err : w'.cell? ⟨EB, 0, none⟩ = some u
set_option maxHeartbeats 2000000 in
theorem evD_panicking (n VB EB : Nat) (vv ev : Value) (ty : TypeId) (y : Value) (w : World) (hg : w.cell? ⟨0, 0, none⟩ = some (.iface 169 (.agg #[.pointer (some ⟨11, 50, none⟩)])))
  (hV : w.cell? ⟨VB, 0, none⟩ = some vv) (hE : w.cell? ⟨EB, 0, none⟩ = some ev) (fV : w.frozen? ⟨VB, 0, none⟩ = false) (fE : w.frozen? ⟨EB, 0, none⟩ = false) (h1 : EB = VB + 1) :
  CallsDIn Fence.wide n Tryz.prog 51 #[.pointer (some ⟨VB, 0, none⟩), .pointer (some ⟨EB, 0, none⟩)] (.panicking ({ v := .iface 57 (.agg #[.iface ty y]), recovered := false } :: [])) w fun e u' w' =>
   e = .returned (.tuple #[]) ∧ u' = .panicking ({ v := .iface 57 (.agg #[.iface ty y]), recovered := true } :: []) ∧ SaidE w w' VB EB (.iface 57 (.agg #[.iface ty y])) := by
 have HF := errorTermOf_any ty y w hg
 refine callsDIn_of_wpSIn Tryz.func51 rfl trivial fun c₀ cs hu => ?_
 apply wpSIn_seq
 apply wpSIn_region
 simp [wpOpsSIn, go_sem, recoverD, hu, Tryz.ntmps51, Exit.thenS]
 refine wpSIn_of_wpIn rfl ?_; refine wpIn_wide.2 ?_; simp only [Array.replicate_succ, Array.replicate_zero, List.push_toArray, List.nil_append, List.cons_append, List.append_toArray, List.setIfInBounds_toArray, List.set_cons_zero, List.set_cons_succ]; go_wp2_with fail; refine HF.mono ?_; rintro e w1 ⟨rfl, hb1⟩; have lV := World.block_lt_of_cell? _ _ hV; have lE := World.block_lt_of_cell? _ _ hE; have kV := (hb1.cell lV).trans hV; have kE := (hb1.cell lE).trans hE; have gV := (hb1.frozen lV).trans fV; have gE := (hb1.frozen lE).trans fE
 have n1 : VB ≠ EB := by omega
 have far : ∀ (W : World) (B B' o : Nat) (v : Value), B ≠ B' → (W.setCell ⟨B, 0, none⟩ v).cell? ⟨B', o, none⟩ = W.cell? ⟨B', o, none⟩ := fun W B B' o v h => World.cell?_setCell_far W ⟨B, 0, none⟩ ⟨B', o, none⟩ v h
 have s1 := (far w1 VB EB 0 (.int .i64 0) n1).trans kE
 have HFIN : Hid (SaidE w ((w1.setCell ⟨VB, 0, none⟩ (.int .i64 0)).setCell ⟨EB, 0, none⟩ (.iface 57 (.agg #[.iface ty y]))) VB EB (.iface 57 (.agg #[.iface ty y]))) := by
  refine ⟨hb1.os, hb1.tape, hb1.output, by have := hb1.size; simp; omega, fun k hk k1 k2 => ?_, ?_, ?_⟩
  ·rw [heap_setCell_other _ ⟨EB, 0, none⟩ k _ (fun e => k2 (by simpa using e)), heap_setCell_other _ ⟨VB, 0, none⟩ k _ (fun e => k1 (by simpa using e))]
   exact hb1.block k hk
  ·rw [far _ EB VB 0 _ (Ne.symm n1)]
   exact World.cell?_setCell_same' _ _ _ (by rw [kV]; rfl)
  ·exact World.cell?_setCell_same' _ _ _ (by rw [s1]; rfl)
 clear far hb1 hV hE fV fE HF h1 hg lV lE; go_wp2_with fail; exact ⟨rfl, _, rfl, .tuple #[], by simp [results, Tryz.results51, go_sem], rfl, rfl, HFIN.out⟩
theorem evD_idle (n : Nat) (a b : Value) (w : World) :
  CallsDIn Fence.wide n Tryz.prog 51 #[a, b] .returning w fun e u' w' => e = .returned (.tuple #[]) ∧ u' = .returning ∧ w' = w := by
 refine callsDIn_of_wpSIn Tryz.func51 rfl trivial fun c₀ cs hu => ?_
 apply wpSIn_seq
 apply wpSIn_region
 simp [wpOpsSIn, go_sem, recoverD, hu, Tryz.ntmps51, Exit.thenS]
 refine wpSIn_of_wpIn rfl ?_; refine wpIn_wide.2 ?_; simp only [Array.replicate_succ, Array.replicate_zero, List.push_toArray, List.nil_append, List.cons_append, List.append_toArray, List.setIfInBounds_toArray, List.set_cons_zero, List.set_cons_succ]; go_wp2_with fail
 cases c₀
 simp_all [bodyPostS, results, Tryz.results51]
end
section
open Go Go.RowKit Go.Extern
theorem is_nil (a : Addr) (w : World) :
  Calls Tryz.prog 111 #[.nilIface, .iface 466 (.pointer (some a))] w fun e w' => e = .returned (.bool false) ∧ w' = w := by
 have heq := run_eql_iface_nil_left (P := Tryz.prog) w 466 (.pointer (some a)) Tryz.underlying50
 go_enter Tryz.func111, Tryz.ntmps111
 go_wp2
 go_ret; exact ⟨rfl, rfl⟩
theorem ifNoIs (v : Value) (xT : TypeId) (w : World) : (Instr.typeAssert (.iface 57 v) xT 312 true).run Tryz.prog w = .ok (.tuple #[.nilIface, .bool false]) w := run_typeAssert_lacksB Tryz.underlying312 (by kernel_rfl) (by kernel_rfl) v xT w
theorem ifNoUnwrap (v : Value) (xT : TypeId) (w : World) : (Instr.typeAssert (.iface 57 v) xT 177 true).run Tryz.prog w = .ok (.tuple #[.nilIface, .bool false]) w := run_typeAssert_lacksB Tryz.underlying177 (by kernel_rfl) (by kernel_rfl) v xT w
theorem ifNoUnwraps (v : Value) (xT : TypeId) (w : World) : (Instr.typeAssert (.iface 57 v) xT 179 true).run Tryz.prog w = .ok (.tuple #[.nilIface, .bool false]) w := run_typeAssert_lacksB Tryz.underlying179 (by kernel_rfl) (by kernel_rfl) v xT w
theorem is_errT (v : Value) (a : Addr) (w : World) :
  Calls Tryz.prog 111 #[.iface 57 v, .iface 466 (.pointer (some a))] w fun e w' => e = .returned (.bool false) ∧ w' = w := by
 have h8 := @run_callFunc_extern Tryz.prog 155 _ Extern.ReflectliteType.typeOf Tryz.func155 (by kernel_rfl) (by kernel_rfl) (by kernel_rfl) (by kernel_rfl); have tT := eiTypeOf; have cT := eiCall; have mR := eiMethod; have nE := ifNoIs; have uE := ifNoUnwrap; have vE := ifNoUnwraps; have heq := run_eql_iface_types (P := Tryz.prog) 57 466 v (.pointer (some a)) Tryz.underlying50 (by decide) w
 go_enter Tryz.func111, Tryz.ntmps111
 go_wp2
 refine wp_loop_rounds 1 ?_; rw [rounds_succ]
 go_wp2
 go_ret; exact ⟨rfl, rfl⟩
theorem as_nilE (v : Value) (w : World) :
  Calls Tryz.prog 24 #[.nilIface, v] w fun e w' => e = .returned (.bool false) ∧ w' = w := by
 go_enter Tryz.func24, Tryz.ntmps24
 go_wp2
 go_ret; exact ⟨rfl, rfl⟩
end
section
open Go Go.RowKit
theorem infoCelM : (Tryz.prog.info? 63).map (fun i => (i.zero, i.size, i.bytes)) = some (some (.agg #[.int .i64 0, .int .i64 0, .slice none 0 0]), 3, 40) := by kernel_rfl
def RFit (W0 : World) (r : RC) (c : Cel) : Prop := r.1 = c.1 ∧ r.2.1 = c.2.1 ∧ r.2.2.2.1 = c.2.2.length ∧ BIn W0 r.2.2.1 c.2.2
theorem RFit.below {W W' : World} {r : RC} {c : Cel} (h : RFit W r c) (hb : Below W.heap.size W W') : RFit W' r c := ⟨h.1, h.2.1, h.2.2.1, h.2.2.2.below hb⟩
theorem rows_of {w : World} {b : Nat} : ∀ (xs : List Cel) (o : Nat), (∀ i, i < xs.length → CAt w b (o + i * 3) (xs.getD i Cel.none)) → ∃ rs : List RC, rs.length = xs.length ∧ (∀ i, i < xs.length → RFit w (rs.getD i RC.zero) (xs.getD i Cel.none)) ∧ ∀ j u, (flat rs)[j]? = some u → w.cell? ⟨b, o + j, none⟩ = some u
 | [], o, _ => ⟨[], rfl, fun i h => absurd h (Nat.not_lt_zero _), fun j u h => by simp [flat] at h⟩
 | c :: r, o, h => by
   obtain ⟨rs, hl, hf, hc⟩ := rows_of r (o + 3) (fun i hi => by
    have := h (i + 1) (by simpa using hi); rw [List.getD_cons_succ, show o + (i + 1) * 3 = o + 3 + i * 3 by omega] at this
    exact this)
   obtain ⟨p, cap, h0, h1, h2, h3⟩ := h 0 (by simp); simp only [List.getD_cons_zero, Nat.zero_mul, Nat.add_zero] at h0 h1 h2 h3; refine ⟨(c.1, c.2.1, p, c.2.2.length, cap) :: rs, by simp [hl], fun i hi => ?_, fun j u hj => ?_⟩
   ·cases i with
    | zero => exact ⟨rfl, rfl, rfl, h3⟩
    | succ i => exact hf i (by simpa using hi)
   ·rw [flat_cons] at hj
    match j, hj with
    | 0, hj => rw [Nat.add_zero, h0]; simpa using hj
    | 1, hj => rw [h1]; simpa using hj
    | 2, hj => rw [h2]; simpa using hj
    | j + 3, hj =>
      rw [show o + (j + 3) = o + 3 + j by omega]; exact hc j u (by simpa using hj)
def RowC (W0 w : World) (p : Option Addr) (n c : Nat) (xs : List Cel) : Prop :=
 n = xs.length ∧ ∃ rs : List RC, rs.length = xs.length ∧ w.ownsRow W0.heap.size 63 3 (.slice p n c) n (flat rs) ∧ ∀ i, i < xs.length → RFit W0 (rs.getD i RC.zero) (xs.getD i Cel.none)
theorem RowC.below {W0 w w' : World} {p : Option Addr} {n c : Nat} {xs : List Cel} (h : RowC W0 w p n c xs) (hb : Below w.heap.size w w') : RowC W0 w' p n c xs := by
 obtain ⟨hn, rs, hl, hr, hf⟩ := h; exact ⟨hn, rs, hl, row_below hr hb, hf⟩
theorem RowC.at {W0 w : World} {p : Option Addr} {n c : Nat} {xs : List Cel} (h : RowC W0 w p n c xs) (i : Nat) (hi : i < xs.length) : ∃ g q cq, p = some ⟨g, 0, none⟩ ∧ W0.heap.size ≤ g ∧ g < w.heap.size ∧ w.cell? ⟨g, i * 3, none⟩ = some (.int .i64 (xs.getD i Cel.none).1) ∧ w.cell? ⟨g, i * 3 + 1, none⟩ = some (.int .i64 (xs.getD i Cel.none).2.1) ∧ w.cell? ⟨g, i * 3 + 2, none⟩ = some (.slice q (xs.getD i Cel.none).2.2.length cq) ∧ BIn W0 q (xs.getD i Cel.none).2.2 := by
 obtain ⟨hn, rs, hl, hr, hf⟩ := h; obtain ⟨g, cap, hv, hb, hg⟩ := hr.form (by omega); simp only [Value.slice.injEq, true_and] at hv; obtain ⟨rfl, rfl⟩ := hv; obtain ⟨a0, a1, a2⟩ := flat_at rs i (by omega); obtain ⟨f0, f1, f2, f3⟩ := hf i hi; have d0 := (hr.cellAt (i * 3) (by omega)).trans a0; have d1 := (hr.cellAt (i * 3 + 1) (by omega)).trans a1; have d2 := (hr.cellAt (i * 3 + 2) (by omega)).trans a2; rw [f0] at d0; rw [f1] at d1; rw [f2] at d2; exact ⟨g, _, _, rfl, hb, hg, d0, d1, d2, f3⟩
theorem flat_oneM (rs : List RC) : ∀ u ∈ flat rs, u.oneCell' = true := fun u hu => by
 simp only [flat, List.mem_flatMap] at hu; obtain ⟨r, _, hr⟩ := hu
 simp [rcV] at hr
 rcases hr with rfl | rfl | rfl <;> rfl
theorem RowC.cin {W0 w : World} {p : Option Addr} {n c : Nat} {xs : List Cel} (h : RowC W0 w p n c xs) (hb : Below W0.heap.size W0 w) : CIn w p xs := fun hn => by
 obtain ⟨g, q, cq, rfl, _, _, _, _, _, _⟩ := h.at 0 hn; refine ⟨g, 0, rfl, fun i hi => ?_⟩; obtain ⟨g', q', cq', e, _, _, h0, h1, h2, h3⟩ := h.at i hi
 obtain rfl : g = g' := by simpa using e
 exact ⟨q', cq', by simpa using h0, by simpa using h1, by simpa using h2, h3.below hb⟩
theorem flat_catM (a b : List RC) : flat (a ++ b) = flat a ++ flat b := by simp [flat]
theorem run_app_row (W0 w : World) (ty : TypeId) (p : Option Addr) (n c : Nat) (xs : List Cel) (q : Option Addr) (m cq : Nat) (ds : List Cel) (hrow : RowC W0 w p n c xs) (hW : Below W0.heap.size W0 w) (hds : CIn W0 q ds) (hm : m = ds.length) (h0 : 0 < m) (hl : n + m ≤ 1000000000) :
  ∃ g cap w', (Builtin.append_ #[23, 23] ty #[.slice p n c, .slice q m cq]).run Tryz.prog w = .ok (.slice (some ⟨g, 0, none⟩) (n + m) cap) w' ∧ RowC W0 w' (some ⟨g, 0, none⟩) (n + m) cap (xs ++ ds) ∧ Below W0.heap.size W0 w' := by
 obtain ⟨i0, hi, hz0, hz1, hz2⟩ := info_parts infoCelM; subst hm; obtain ⟨hn, rs, hrl, hown, hf⟩ := hrow; obtain ⟨g, o, rfl, hc⟩ := hds h0; obtain ⟨rs', hrl', hrf', hrc'⟩ := rows_of ds o hc; obtain ⟨g', cap, w', hr, h2, h3, h4, _⟩ := run_append_lies (P := Tryz.prog) w 23 ty W0.heap.size 63 i0 (.agg #[.int .i64 0, .int .i64 0, .slice none 0 0]) 3 40 Tryz.underlying23 hi hz0 hz1 hz2 rfl (by decide) (.slice p n c) n (flat rs) hown ⟨g, o, none⟩ ds.length cq (flat rs') (by rw [flat_len]; omega)
  (fun j u hj => by
    rw [show (⟨g, o, none⟩ : Addr).add j = ⟨g, o + j, none⟩ from WideShapes.add_plain _ _ _]; have := hrc' j u hj
    exact (hW.cell (World.block_lt_of_cell? _ _ this)).trans this) (flat_oneM rs') h0 (by unfold maxLen; omega) (by omega) hW.size _ rfl
 refine ⟨g', cap, w', hr, ⟨by simp [hn], rs ++ rs', by simp [hrl, hrl'], by rw [flat_catM]; exact h2, fun i hi => ?_⟩, hW.grown h3 hW.size (fun k hk => (hown.lt k hk).1)⟩
 rcases Nat.lt_or_ge i xs.length with h | h
 ·have e1 : (rs ++ rs').getD i RC.zero = rs.getD i RC.zero := by simp [List.getD, List.getElem?_append_left (show i < rs.length by omega)]
  have e2 : (xs ++ ds).getD i Cel.none = xs.getD i Cel.none := by simp [List.getD, List.getElem?_append_left h]
  rw [e1, e2]; exact hf i h
 ·have e1 : (rs ++ rs').getD i RC.zero = rs'.getD (i - xs.length) RC.zero := by simp [List.getD, List.getElem?_append_right (show rs.length ≤ i by omega), hrl]
  have e2 : (xs ++ ds).getD i Cel.none = ds.getD (i - xs.length) Cel.none := by simp [List.getD, List.getElem?_append_right h]
  rw [e1, e2]; exact hrf' _ (by simp at hi; omega)
theorem sameB_any (p q : Option Addr) (c1 c2 : Nat) (xs ys : List Int) (w : World) (hn : xs.length ≤ 1000000000) (hm : ys.length ≤ 1000000000) (hx : BIn w p xs) (hy : BIn w q ys) :
  Calls Tryz.prog 60 #[.slice p xs.length c1, .slice q ys.length c2] w fun e w' => e = .returned (.bool (decide (xs = ys))) ∧ ∃ n, w' = w.drewN n := by
 by_cases hl : xs.length = ys.length
 ·have HL : Hid (xs.length = ys.length) := hl
  obtain ⟨n, en⟩ : ∃ n, ys.length = n := ⟨_, rfl⟩
  rw [hl]; rw [hl] at hn; rw [en] at hn hm hl ⊢; have HE : Hid (ys.length = n) := en; clear hl en
  go_enter Tryz.func60, Tryz.ntmps60
  go_wp2
  go_loopw [5] (fun i wr => ∃ k m : Nat, k ≤ n ∧ i = .int .i64 k ∧ Hid (wr = w.drewN m) ∧ Hid (∀ j, j < k → xs.getD j 0 = ys.getD j 0)) (fun i _ => n - (intOf i).toNat)
  case atStart => exact ⟨0, 0, Nat.zero_le _, rfl, rfl, fun _ h => absurd h (Nat.not_lt_zero _)⟩
  case round =>
   obtain ⟨k, m, hk, rfl, HW, HN⟩ := hrel
   by_cases hlt : k < n
   ·obtain ⟨b, o, rfl, hcx⟩ := hx (by rw [HL.out, HE.out]; omega)
    obtain ⟨b', o', rfl, hcy⟩ := hy (by rw [HE.out]; omega)
    have h1 : wr.cell? ⟨b, o + k, none⟩ = some (.int .u8 (xs.getD k 0)) := by rw [HW.out]; exact hcx k (by rw [HL.out, HE.out]; exact hlt)
    have h2 : wr.cell? ⟨b', o' + k, none⟩ = some (.int .u8 (ys.getD k 0)) := by rw [HW.out]; exact hcy k (by rw [HE.out]; exact hlt)
    obtain ⟨x, ex⟩ : ∃ x, x = xs.getD k 0 := ⟨_, rfl⟩
    obtain ⟨y, ey⟩ : ∃ y, y = ys.getD k 0 := ⟨_, rfl⟩
    rw [← ex] at h1; rw [← ey] at h2; have HX : Hid (x = xs.getD k 0) := ex; have HY : Hid (y = ys.getD k 0) := ey; clear ex ey hcx hcy hx hy
    by_cases ht : x = y
    ·subst ht
     go_wp2
     go_region
     all_goals go_wp2
     all_goals go_roundw
     case rel => exact ⟨k + 1, m + 1, by omega, by go_num, by rw [HW.out]; rfl, fun j hj => by
      by_cases e : j = k
      ·subst e; rw [← HX.out, ← HY.out]
      ·exact HN.out j (by omega)⟩
     case measure => simp [intOf]; omega
    ·have ht' : (x != y) = true := by simpa using ht
     go_wp2
     go_region
     all_goals go_wp2
     all_goals go_ret
     exact ⟨ret_bool (by
      symm; rw [decide_eq_false_iff_not]; intro e
      exact ht (by rw [HX.out, HY.out, e])), m + 1, by rw [HW.out]; rfl⟩
   ·obtain rfl : k = n := by omega
    go_wp2
    go_ret; exact ⟨ret_bool (by symm; rw [decide_eq_true_iff]; exact same_every HL.out (by rw [HL.out, HE.out]; exact HN.out)), m, HW.out⟩
 ·have hne : ¬ ((xs.length : Int) = (ys.length : Int)) := by omega
  have e : decide (xs = ys) = false := by rw [decide_eq_false_iff_not]; intro e; exact hl (by rw [e])
  rw [e]; clear e hx hy
  go_enter Tryz.func60, Tryz.ntmps60
  go_wp2
  go_ret; exact ⟨rfl, 0, rfl⟩
theorem sameCell_any (k1 n1 k2 n2 : Int) (p q : Option Addr) (m1 m2 c1 c2 : Nat) (xs ys : List Int) (w : World) (hl1 : m1 = xs.length) (hl2 : m2 = ys.length) (hn : m1 ≤ 1000000000) (hm : m2 ≤ 1000000000) (hx : BIn w p xs) (hy : BIn w q ys) :
  Calls Tryz.prog 26 #[.agg #[.int .i64 k1, .int .i64 n1, .slice p m1 c1], .agg #[.int .i64 k2, .int .i64 n2, .slice q m2 c2]] w fun e w' => e = .returned (.bool (decide (((k1, n1, xs) : Cel) = (k2, n2, ys)))) ∧ Below w.heap.size w w' := by
 subst hl1 hl2
 have HSS : Hid (∀ W, Below w.heap.size w W → Calls Tryz.prog 60 #[.slice p xs.length c1, .slice q ys.length c2] W fun e w' => e = .returned (.bool (decide (xs = ys))) ∧ ∃ n, w' = W.drewN n) := fun W hW => sameB_any p q c1 c2 xs ys W hn hm (hx.below hW) (hy.below hW)
 have hb0 : Below w.heap.size w ((w.alloc (Obj.cells #[Value.int IntKind.i64 k1, Value.int IntKind.i64 n1, Value.slice p xs.length c1] 63)).alloc (Obj.cells #[Value.int IntKind.i64 k2, Value.int IntKind.i64 n2, Value.slice q ys.length c2] 63)) := ((Below.refl _ _).alloc (Nat.le_refl _) _).alloc (by simp) _; clear hx hy
 by_cases hk : k1 = k2
 ·subst hk
  by_cases hnn : n1 = n2
  ·subst hnn
   have HS := HSS.out _ hb0; have HB : Hid _ := hb0; clear hb0 HSS
   have hd : decide (((k1, n1, xs) : Cel) = (k1, n1, ys)) = decide (xs = ys) := by simp
   rw [hd]
   cases ht : decide (xs = ys)
   rotate_right
   case' _ =>
    rw [ht] at HS
   rotate_right
   case' _ =>
    rw [ht] at HS
   all_goals
    clear ht hd
    go_enter Tryz.func26, Tryz.ntmps26
    go_wp2_with (go_at_call 60; refine HS.mono ?_; rintro e w' ⟨rfl, m, rfl⟩); go_ret; exact ⟨rfl, below_drewN HB.out _⟩
  ·have hd : decide (((k1, n1, xs) : Cel) = (k1, n2, ys)) = false := by simp [hnn]
   rw [hd]; have HB : Hid _ := hb0; clear hd HSS hb0
   have hnn' : (n1 == n2) = false := by simpa using hnn
   have hnq : ¬ n1 = n2 := hnn
   go_enter Tryz.func26, Tryz.ntmps26
   go_wp2
   go_ret; exact ⟨rfl, HB.out⟩
 ·have hd : decide (((k1, n1, xs) : Cel) = (k2, n2, ys)) = false := by simp [hk]
  rw [hd]; have HB : Hid _ := hb0; clear hd HSS hb0
  have hk' : (k1 == k2) = false := by simpa using hk
  have hkq : ¬ k1 = k2 := hk
  go_enter Tryz.func26, Tryz.ntmps26
  go_wp2
  go_ret; exact ⟨rfl, HB.out⟩
theorem sameT_any (p q : Option Addr) (c1 c2 : Nat) (xs ys : List Cel) (w : World) (hn : xs.length + tl xs ≤ 1000000000) (hm : ys.length + tl ys ≤ 1000000000) (hx : CIn w p xs) (hy : CIn w q ys) :
  Calls Tryz.prog 7 #[.slice p xs.length c1, .slice q ys.length c2] w fun e w' => e = .returned (.bool (decide (xs = ys))) ∧ Below w.heap.size w w' := by
 have HX : Hid (CIn w p xs) := hx; have HY : Hid (CIn w q ys) := hy; clear hx hy
 by_cases hl : xs.length = ys.length
 ·have HL : Hid (xs.length = ys.length) := hl
  obtain ⟨n, en⟩ : ∃ n, ys.length = n := ⟨_, rfl⟩
  rw [hl]; rw [hl] at hn; rw [en] at hn hm hl ⊢; have HE : Hid (ys.length = n) := en; clear hl en
  go_enter Tryz.func7, Tryz.ntmps7
  go_wp2
  go_loopw [5] (fun i wr => ∃ k : Nat, k ≤ n ∧ i = .int .i64 k ∧ Hid (Below w.heap.size w wr) ∧ Hid (∀ j, j < k → xs.getD j Cel.none = ys.getD j Cel.none)) (fun i _ => n - (intOf i).toNat)
  case atStart => exact ⟨0, Nat.zero_le _, rfl, Below.refl _ _, fun _ h => absurd h (Nat.not_lt_zero _)⟩
  case round =>
   obtain ⟨k, hk, rfl, HB, HN⟩ := hrel
   by_cases hlt : k < n
   ·have hkx : k < xs.length := by rw [HL.out, HE.out]; exact hlt
    have hky : k < ys.length := by rw [HE.out]; exact hlt
    obtain ⟨b, o, rfl, hcx⟩ := HX.out (by omega); obtain ⟨b', o', rfl, hcy⟩ := HY.out (by omega); obtain ⟨px, qx, x0, x1, x2, x3⟩ := (hcx k hkx).below HB.out; obtain ⟨py, qy, y0, y1, y2, y3⟩ := (hcy k hky).below HB.out; have bx := tl_at xs k hkx; have bY := tl_at ys k hky; have HEQ : Hid (decide (((xs.getD k Cel.none).1, (xs.getD k Cel.none).2.1, (xs.getD k Cel.none).2.2) = (((ys.getD k Cel.none).1, (ys.getD k Cel.none).2.1, (ys.getD k Cel.none).2.2) : Cel)) = decide (xs.getD k Cel.none = ys.getD k Cel.none)) := rfl
    obtain ⟨a0, ea0⟩ : ∃ x, x = (xs.getD k Cel.none).1 := ⟨_, rfl⟩
    obtain ⟨a1, ea1⟩ : ∃ x, x = (xs.getD k Cel.none).2.1 := ⟨_, rfl⟩
    obtain ⟨am, eam⟩ : ∃ x, x = (xs.getD k Cel.none).2.2.length := ⟨_, rfl⟩
    obtain ⟨e0, ee0⟩ : ∃ x, x = (ys.getD k Cel.none).1 := ⟨_, rfl⟩
    obtain ⟨e1, ee1⟩ : ∃ x, x = (ys.getD k Cel.none).2.1 := ⟨_, rfl⟩
    obtain ⟨em, eem⟩ : ∃ x, x = (ys.getD k Cel.none).2.2.length := ⟨_, rfl⟩
    have HS : Hid (∀ W, Below wr.heap.size wr W → Calls Tryz.prog 26 #[.agg #[.int .i64 a0, .int .i64 a1, .slice px am qx], .agg #[.int .i64 e0, .int .i64 e1, .slice py em qy]] W fun e w' => e = .returned (.bool (decide (xs.getD k Cel.none = ys.getD k Cel.none))) ∧ Below W.heap.size W w') := fun W hW => by
     have := sameCell_any a0 a1 e0 e1 px py am em qx qy _ _ W eam eem (by omega) (by omega) (x3.below hW) (y3.below hW)
     rwa [ea0, ea1, ee0, ee1, HEQ.out, ← ea0, ← ea1, ← ee0, ← ee1] at this
    rw [← ea0] at x0; rw [← ea1] at x1; rw [← eam] at x2; rw [← ee0] at y0; rw [← ee1] at y1; rw [← eem] at y2; clear ea0 ea1 eam ee0 ee1 eem HEQ x3 y3 hcx hcy HX HY bx bY hkx hky
    cases ht : decide (xs.getD k Cel.none = ys.getD k Cel.none)
    ·rw [ht] at HS
     have HT : Hid _ := ht; clear ht
     go_wp2
     go_region_with (go_at_call 26; refine (HS.out _ (Below.refl _ _).drew).mono ?_; rintro e w2 ⟨rfl, hb2⟩)
     all_goals go_wp2
     all_goals go_ret
     all_goals exact ⟨ret_bool (by
      symm; rw [decide_eq_false_iff_not]; intro e
      have := HT.out; rw [decide_eq_false_iff_not] at this
      exact this (by rw [e])), Below.on HB.out ((Below.refl _ _).drew.trans hb2)⟩
    ·rw [ht] at HS
     have HT : Hid _ := ht; clear ht
     go_wp2
     go_region_with (go_at_call 26; refine (HS.out _ (Below.refl _ _).drew).mono ?_; rintro e w2 ⟨rfl, hb2⟩)
     all_goals go_wp2
     all_goals go_roundw
     all_goals first
      | (simp [intOf]; omega)
      | exact ⟨k + 1, by omega, by go_num, Below.on HB.out ((Below.refl _ _).drew.trans hb2), fun j hj => by
         by_cases e : j = k
         ·subst e; exact of_decide_eq_true HT.out
         ·exact HN.out j (by omega)⟩
   ·obtain rfl : k = n := by omega
    go_wp2
    go_ret; exact ⟨ret_bool (by symm; rw [decide_eq_true_iff]; exact same_cells HL.out (by rw [HL.out, HE.out]; exact HN.out)), HB.out⟩
 ·have hne : ¬ ((xs.length : Int) = (ys.length : Int)) := by omega
  have e : decide (xs = ys) = false := by rw [decide_eq_false_iff_not]; intro e; exact hl (by rw [e])
  rw [e]; clear e
  go_enter Tryz.func7, Tryz.ntmps7
  go_wp2
  go_ret; exact ⟨rfl, Below.refl _ _⟩
end
section
open Go Go.RowKit Go.Sort
theorem below_grow {w : World} (q : Nat) (os : Array Obj) : Below w.heap.size w (grow (w.drewN q) os) :=
 ⟨rfl, rfl, rfl, by simp [grow], fun k hk => (heap_grow_old (w.drewN q) os hk).trans rfl⟩
theorem wrap_small {x : Int} (h0 : -9223372036854775808 ≤ x) (h1 : x ≤ 9223372036854775807) : IntKind.i64.wrap x = x := by rw [IntKind.wrap_i64]; omega
set_option maxHeartbeats 1000000 in
theorem implTab_any (p : Option Addr) (c : Nat) (cs : List Cel) (w : World) (hn : cs.length + tl cs ≤ 1000000000) (hc : OIn w p cs) :
  Calls Tryz.prog 31 #[.slice p cs.length c] w fun e w' => e = .returned (.bool (tabB cs)) ∧ Below w.heap.size w w' := by
 have HC : Hid (OIn w p cs) := hc; clear hc
 by_cases hl : cs.length ≤ 200
 ·have hl' : ¬ (200 : Int) < cs.length := by omega
  have HV : Hid (tabB cs = (chainO none cs && cs.any comC)) := by show _ = _; simp [tabB, hl]
  have HF : Hid (∀ b, b = tabB cs → Ending.returned (.bool b) = .returned (.bool (tabB cs))) := fun b h => ret_bool h
  go_enter Tryz.func31, Tryz.ntmps31
  go_wp2
  clear hl'
  go_loopw [3, 11] (fun s i wr => ∃ (k : Nat) (b : Bool), k ≤ cs.length ∧ s = .bool b ∧ i = .int .i64 k ∧ Hid (tabB cs = (chainO (befO cs k) (cs.drop k) && (b || (cs.drop k).any comC))) ∧ Hid (Below w.heap.size w wr)) (fun _ i _ => cs.length - (intOf i).toNat)
  case atStart => exact ⟨0, false, Nat.zero_le _, rfl, rfl, by show _ = _; rw [HV.out]; simp [befO], Below.refl _ _⟩
  case round =>
   obtain ⟨k, b, hk, rfl, rfl, HQ, HB⟩ := hrel
   by_cases hlt : k < cs.length
   ·obtain ⟨g, o, rfl, hcs⟩ := HC.out (by omega)
    have hat := (hcs k hlt).below HB.out
    have hpr : 0 < k → OAt wr g (o + (k - 1) * 3) (cs.getD (k - 1) Cel.none) := fun h => (hcs (k - 1) (by omega)).below HB.out
    have hbe : 0 < k → befO cs k = some (cs.getD (k - 1) Cel.none) := fun h => by simp [befO]; omega
    have hb0 : k = 0 → befO cs k = none := fun h => by simp [befO, h]
    have hlk := tl_at cs k hlt
    have hlp : 0 < k → (cs.getD (k - 1) Cel.none).2.2.length ≤ tl cs := fun h => tl_at cs (k - 1) (by omega)
    have HD : Hid (tabB cs = ((okC (cs.getD k Cel.none) && (match befO cs k with | none => true | some x => ltO x (cs.getD k Cel.none)) && chainO (befO cs (k + 1)) (cs.drop (k + 1))) && (b || (comC (cs.getD k Cel.none) || (cs.drop (k + 1)).any comC)))) := by
     show _ = _
     rw [HQ.out, chainO_at cs k hlt, drop_at cs k hlt]; rfl
    obtain ⟨x, ex⟩ : ∃ x, x = cs.getD k Cel.none := ⟨_, rfl⟩
    obtain ⟨y, ey⟩ : ∃ y, y = cs.getD (k - 1) Cel.none := ⟨_, rfl⟩
    rw [← ex] at hat HD hlk; rw [← ey] at hpr hbe hlp; obtain ⟨q, qc, h0, h1, h2, h3⟩ := hat; obtain ⟨x0, x1, x2⟩ := x; simp only at h0 h1 h2 h3 hlk; have hW : Below wr.heap.size wr (wr.alloc (Obj.cells #[.slice q x2.length qc, .int .i64 x0, .int .i64 x1] 132)) := (Below.refl _ _).alloc (Nat.le_refl _) _
    have HI : Hid (∀ W, Below wr.heap.size wr W → Calls Tryz.prog 110 #[.agg #[.slice q x2.length qc, .int .i64 x0, .int .i64 x1]] W fun e w' => e = .returned (.bool (okC (x0, x1, x2))) ∧ Below W.heap.size W w') := fun W hB => isOp_any x0 x1 q x2.length qc x2 W rfl (by omega) (h3.below hB)
    have HCV : Hid (∀ W, Below wr.heap.size wr W → (convert 22 9 (.slice q x2.length qc)).run Tryz.prog W = .ok (.string (strOfNums x2)) W) := fun W hB => conv_str (h3.below hB) x2.length qc rfl 9 Tryz.underlying9
    have HB0 : Hid (Below w.heap.size w (wr.alloc (Obj.cells #[.slice q x2.length qc, .int .i64 x0, .int .i64 x1] 132))) := Below.on HB.out hW; have HW : Hid _ := hW; have G : Box3 (wr.alloc (Obj.cells #[.slice q x2.length qc, .int .i64 x0, .int .i64 x1] 132)) wr.heap.size (.slice q x2.length qc) (.int .i64 x0) (.int .i64 x1) := Box3.of_block (t := 132) (heap_alloc_new _ _); obtain ⟨c0, c1, c2, _⟩ := G; have HOK : Hid (okC (x0, x1, x2) = okC (x0, x1, x2)) := rfl; have HCO : Hid (comC (x0, x1, x2) = ((strOfNums x2).toList == [44])) := rfl; have HXX : Hid ((x0, x1, x2) = cs.getD k Cel.none) := ex; clear ex hlk
    obtain ⟨l2, el2⟩ : ∃ l, l = x2.length := ⟨_, rfl⟩
    rw [← el2] at h2 HI HCV HB0 HW c0 c1 c2 hW; have HL2 : Hid (l2 = x2.length) := el2; clear el2 hW
    obtain ⟨sx, esx⟩ : ∃ s, s = strOfNums x2 := ⟨_, rfl⟩
    rw [← esx] at HCV HCO; have HSX : Hid _ := esx; clear esx
    cases hok : okC (x0, x1, x2) with
    | false =>
      rw [hok] at HI HD
      have HZ : Hid (tabB cs = false) := by show _ = _; rw [HD.out]; simp
      clear hok hcs hpr hbe hb0 hlp h3 HC HV HQ HD HCV HCO HSX HL2 HXX HOK; go_wp2_with fail; refine wp_region_held_drew (S := fun W => W.cell? ⟨wr.heap.size, 0, none⟩ = some (.slice q l2 qc) ∧ W.cell? ⟨wr.heap.size, 1, none⟩ = some (.int .i64 x0) ∧ W.cell? ⟨wr.heap.size, 2, none⟩ = some (.int .i64 x1)) (by kernel_rfl) ?_ (fun hHeld => ?_)
      ·exact ⟨c0, c1, c2⟩
      refine hTk (i := 0) (v := .agg #[.slice q l2 qc, .int .i64 x0, .int .i64 x1]) (some 16) (fun o ho W hSw => ?y0) (by assumption) ?_
      case y0 => cases ho; simp [execOp, go_sem, Act.eval, hSw.1, hSw.2.1, hSw.2.2]
      simp only [Act.put, zzA, zzB, zzC]; refine hCall (i := 1) (some 17) (by kernel_rfl) (by kernel_rfl) (by kernel_rfl) (fun o ho => ?y1) (HI.out _ HW.out.drew) ?_
      case y1 => cases ho; simp [execOp, go_sem, Act.eval]
      intro w1 hb1
      have kk : w1.cell? ⟨wr.heap.size, 0, none⟩ = some (.slice q l2 qc) ∧ w1.cell? ⟨wr.heap.size, 1, none⟩ = some (.int .i64 x0) ∧ w1.cell? ⟨wr.heap.size, 2, none⟩ = some (.int .i64 x1) := ⟨(hb1.cell (p := ⟨_, _, none⟩) (by simp)).trans c0, (hb1.cell (p := ⟨_, _, none⟩) (by simp)).trans c1, (hb1.cell (p := ⟨_, _, none⟩) (by simp)).trans c2⟩
      refine ⟨kk, ?_⟩; clear hHeld; simp only [Act.put, zzA, zzB, zzC]; refine hTk (i := 2) (v := .bool true) (some 18) (fun o ho W hSw => ?y2) (by assumption) ?_
      case y2 => cases ho; simp [execOp, go_sem, Act.eval]
      simp only [Act.put, zzA, zzB, zzC]; refine hTk (i := 3) (v := .bool true) (some 19) (fun o ho W hSw => ?y3) (by assumption) ?_
      case y3 => cases ho; simp [execOp, go_sem, Act.eval]
      simp only [Act.put, zzA, zzB, zzC]; refine hSk (i := 4) (some 20) (by assumption) ?_; refine hSk (i := 5) (some 21) (by assumption) ?_; refine hSk (i := 6) (some 22) (by assumption) ?_; refine hSk (i := 7) (some 23) (by assumption) ?_; simp only [Act.put, zzA, zzB, zzC]; refine hSk (i := 8) (some 24) (by assumption) ?_; refine hSk (i := 9) (some 25) (by assumption) ?_; refine hSk (i := 10) (some 26) (by assumption) ?_; refine hSk (i := 11) (some 27) (by assumption) ?_; simp only [Act.put, zzA, zzB, zzC]; refine hSk (i := 12) (some 28) (by assumption) ?_; refine hSk (i := 13) (some 29) (by assumption) ?_; refine hSk (i := 14) (some 30) (by assumption) ?_; refine hSk (i := 15) (some 31) (by assumption) ?_; simp only [Act.put, zzA, zzB, zzC]; refine hTk (i := 16) (v := .bool true) (some 32) (fun o ho W hSw => ?y16) (by assumption) ?_
      case y16 => cases ho; simp [execOp, go_sem, Act.eval]
      simp only [Act.put, zzA, zzB, zzC]; refine wpAnyH_done (by kernel_rfl) ?_ _
      all_goals go_wp2_with fail
      all_goals go_ret
      all_goals exact ⟨HF.out _ HZ.out.symm, (HB0.out.drew).trans (hb1.mono (Nat.le_trans HB.out.size (by simp)))⟩
    | true =>
      rw [hok] at HI HD; clear hok HOK
      by_cases hk0 : k = 0
      ·subst hk0
       have e0 := hb0 rfl; simp only [Nat.zero_mul, Nat.add_zero] at h0 h1 h2; rw [e0] at HD
       have HZ : Hid (tabB cs = (chainO (befO cs 1) (cs.drop 1) && ((b || (sx.toList == [44])) || (cs.drop 1).any comC))) := by
        show _ = _
        rw [HD.out, HCO.out]; simp [Bool.or_assoc]
       clear e0 hcs hpr hbe hb0 hlp h3 HC HV HQ HD HCO HSX HL2 HXX; go_wp2_with fail; refine wp_region_held_drew (S := fun W => W.cell? ⟨wr.heap.size, 0, none⟩ = some (.slice q l2 qc) ∧ W.cell? ⟨wr.heap.size, 1, none⟩ = some (.int .i64 x0) ∧ W.cell? ⟨wr.heap.size, 2, none⟩ = some (.int .i64 x1)) (by kernel_rfl) ?_ (fun hHeld => ?_)
       ·exact ⟨c0, c1, c2⟩
       refine hTk (i := 0) (v := .agg #[.slice q l2 qc, .int .i64 x0, .int .i64 x1]) (some 16) (fun o ho W hSw => ?y0) (by assumption) ?_
       case y0 => cases ho; simp [execOp, go_sem, Act.eval, hSw.1, hSw.2.1, hSw.2.2]
       simp only [Act.put, zzA, zzB, zzC]; refine hCall (i := 1) (some 17) (by kernel_rfl) (by kernel_rfl) (by kernel_rfl) (fun o ho => ?y1) (HI.out _ HW.out.drew) ?_
       case y1 => cases ho; simp [execOp, go_sem, Act.eval]
       intro w1 hb1
       have kk : w1.cell? ⟨wr.heap.size, 0, none⟩ = some (.slice q l2 qc) ∧ w1.cell? ⟨wr.heap.size, 1, none⟩ = some (.int .i64 x0) ∧ w1.cell? ⟨wr.heap.size, 2, none⟩ = some (.int .i64 x1) := ⟨(hb1.cell (p := ⟨_, _, none⟩) (by simp)).trans c0, (hb1.cell (p := ⟨_, _, none⟩) (by simp)).trans c1, (hb1.cell (p := ⟨_, _, none⟩) (by simp)).trans c2⟩
       refine ⟨kk, ?_⟩; clear hHeld; simp only [Act.put, zzA, zzB, zzC]; refine hTk (i := 2) (v := .bool false) (some 18) (fun o ho W hSw => ?y2) (by assumption) ?_
       case y2 => cases ho; simp [execOp, go_sem, Act.eval]
       simp only [Act.put, zzA, zzB, zzC]; refine hTk (i := 3) (v := .bool false) (some 19) (fun o ho W hSw => ?y3) (by assumption) ?_
       case y3 => cases ho; simp [execOp, go_sem, Act.eval]
       simp only [Act.put, zzA, zzB, zzC]; refine hTk (i := 4) (v := .int .i64 0) (some 20) (fun o ho W hSw => ?y4) (by assumption) ?_
       case y4 => cases ho; simp [execOp, go_sem, Act.eval]
       simp only [Act.put, zzA, zzB, zzC]; refine hTk (i := 5) (v := .bool false) (some 21) (fun o ho W hSw => ?y5) (by assumption) ?_
       case y5 => cases ho; simp [execOp, go_sem, Act.eval]
       simp only [Act.put, zzA, zzB, zzC]; refine hTk (i := 6) (v := .bool false) (some 22) (fun o ho W hSw => ?y6) (by assumption) ?_
       case y6 => cases ho; simp [execOp, go_sem, Act.eval]
       simp only [Act.put, zzA, zzB, zzC]; refine hSk (i := 7) (some 23) (by assumption) ?_; simp only [Act.put, zzA, zzB, zzC]; refine hSk (i := 8) (some 24) (by assumption) ?_; refine hSk (i := 9) (some 25) (by assumption) ?_; refine hSk (i := 10) (some 26) (by assumption) ?_; refine hSk (i := 11) (some 27) (by assumption) ?_; simp only [Act.put, zzA, zzB, zzC]; refine hSk (i := 12) (some 28) (by assumption) ?_; refine hSk (i := 13) (some 29) (by assumption) ?_; refine hSk (i := 14) (some 30) (by assumption) ?_; simp only [Act.put, zzA, zzB, zzC]; refine hTk (i := 15) (v := .bool false) (some 31) (fun o ho W hSw => ?y15) (by assumption) ?_
       case y15 => cases ho; simp [execOp, go_sem, Act.eval]
       simp only [Act.put, zzA, zzB, zzC]; refine hTk (i := 16) (v := .bool false) (some 32) (fun o ho W hSw => ?y16) (by assumption) ?_
       case y16 => cases ho; simp [execOp, go_sem, Act.eval]
       simp only [Act.put, zzA, zzB, zzC]; refine wpAnyH_done (by kernel_rfl) ?_ _
       all_goals
        have HB1 : Hid (Below w.heap.size w w1) := (HB0.out.drew).trans (hb1.mono (Nat.le_trans HB.out.size (by simp))); have cv := HCV.out w1 (HW.out.drew.trans (hb1.mono (by simp))); obtain ⟨k0, k1, k2⟩ := kk; clear hb1 HI HCV HW HB0 c0 c1 c2
        cases b with
        | true =>
          go_wp2_with fail; go_roundw
          case rel => exact ⟨1, true, by omega, by go_num, by go_num, by show _ = _; rw [HZ.out]; simp, HB1⟩
          case measure => simp [intOf]; omega
        | false =>
          go_wp2_with fail; go_roundw
          case rel => exact ⟨1, sx.toList == [44], by omega, by go_num, by go_num, by show _ = _; rw [HZ.out]; simp, HB1⟩
          case measure => simp [intOf]; omega
      ·obtain ⟨j, ej⟩ : ∃ j, k = j + 1 := ⟨k - 1, by omega⟩
       have hkj : ((k : Int) - 1) = (j : Int) := by omega
       have hk1 : 0 < k := by omega
       have hkd : decide (0 < k) = true := by simp; omega
       have hjl : j < cs.length := by omega
       have hjl' : (j : Int) < (cs.length : Int) := by omega
       have hj0 : (0 : Int) ≤ (j : Int) := by omega
       have hwrap : IntKind.i64.wrap ((k : Int) - 1) = (j : Int) := by rw [hkj]; exact wrap_small (by omega) (by omega)
       clear hkj; have e0 := hbe (by omega); have hpj := hpr (by omega); have hlj := hlp (by omega); rw [e0] at HD; rw [show k - 1 = j by omega] at hpj; obtain ⟨r, rc, d1, d2, d0, d3⟩ := hpj; obtain ⟨y0, y1, y2⟩ := y; simp only at d0 d1 d2 d3 hlj HD; have hg0 : g < wr.heap.size := World.block_lt_of_cell? _ _ d0
       have HCM : Hid (∀ W, Below wr.heap.size wr W → Calls Tryz.prog 66 #[.agg #[.slice r y2.length rc, .int .i64 y0, .int .i64 y1], .agg #[.slice q l2 qc, .int .i64 x0, .int .i64 x1]] W fun e w' => e = .returned (.int .i64 (opCmp (y0, y1, y2) (x0, x1, x2))) ∧ ∃ q os', w' = grow (W.drewN q) os') := fun W hB => compareOps_any y0 y1 x0 x1 r q y2.length l2 rc qc y2 x2 W rfl HL2.out (d3.below hB) (h3.below hB)
       obtain ⟨m2, em2⟩ : ∃ l, l = y2.length := ⟨_, rfl⟩
       rw [← em2] at HCM d0; have HLT : Hid (ltO (y0, y1, y2) (x0, x1, x2) = decide (opCmp (y0, y1, y2) (x0, x1, x2) < 0)) := rfl
       generalize opCmp (y0, y1, y2) (x0, x1, x2) = oc at HCM HLT
       have hW3 : Below wr.heap.size wr (wr.alloc (Obj.cells #[.slice q l2 qc, .int .i64 x0, .int .i64 x1] 132)) := HW.out; have d0 := (hW3.cell (p := ⟨_, _, none⟩) hg0).trans d0; have d1 := (hW3.cell (p := ⟨_, _, none⟩) hg0).trans d1; have d2 := (hW3.cell (p := ⟨_, _, none⟩) hg0).trans d2
       have hg0 : g < (wr.alloc (Obj.cells #[.slice q l2 qc, .int .i64 x0, .int .i64 x1] 132)).heap.size := by simp; omega
       have HEJ : Hid (k = j + 1) := ej; clear e0 hpr hbe hb0 hlp h3 HC HV HQ HSX HL2 HXX hcs em2 d3 ey hW3 ej hk0 hlj
       by_cases hoc : oc < 0
       ·have hoc' : decide (0 ≤ oc) = false := by simp; omega
        have HZ : Hid (tabB cs = (chainO (befO cs (k + 1)) (cs.drop (k + 1)) && ((b || (sx.toList == [44])) || (cs.drop (k + 1)).any comC))) := by
         show _ = _
         rw [HD.out, HLT.out, HCO.out]; simp [hoc, Bool.or_assoc]
        clear HD HLT HCO; go_wp2_with fail
        go_region_held3 (fun W => (W.cell? ⟨wr.heap.size, 0, none⟩ = some (.slice q l2 qc) ∧ W.cell? ⟨wr.heap.size, 1, none⟩ = some (.int .i64 x0) ∧ W.cell? ⟨wr.heap.size, 2, none⟩ = some (.int .i64 x1)) ∧ W.cell? ⟨g, o + j * 3, none⟩ = some (.slice r m2 rc) ∧ W.cell? ⟨g, o + j * 3 + 1, none⟩ = some (.int .i64 y0) ∧ W.cell? ⟨g, o + j * 3 + 2, none⟩ = some (.int .i64 y1)) (first | exact kk2 | exact kk | go_keep)
         (first | (go_at_call 110; refine (HI.out _ HW.out.drew).mono ?_; rintro e w1 ⟨rfl, hb1⟩; have kk : (w1.cell? ⟨wr.heap.size, 0, none⟩ = some (.slice q l2 qc) ∧ w1.cell? ⟨wr.heap.size, 1, none⟩ = some (.int .i64 x0) ∧ w1.cell? ⟨wr.heap.size, 2, none⟩ = some (.int .i64 x1)) ∧ w1.cell? ⟨g, o + j * 3, none⟩ = some (.slice r m2 rc) ∧ w1.cell? ⟨g, o + j * 3 + 1, none⟩ = some (.int .i64 y0) ∧ w1.cell? ⟨g, o + j * 3 + 2, none⟩ = some (.int .i64 y1) := ⟨⟨(hb1.cell (p := ⟨_, _, none⟩) (by simp)).trans c0, (hb1.cell (p := ⟨_, _, none⟩) (by simp)).trans c1, (hb1.cell (p := ⟨_, _, none⟩) (by simp)).trans c2⟩, ⟨(hb1.cell (p := ⟨_, _, none⟩) hg0).trans d0, (hb1.cell (p := ⟨_, _, none⟩) hg0).trans d1, (hb1.cell (p := ⟨_, _, none⟩) hg0).trans d2⟩⟩) | (go_at_call 66; refine (HCM.out _ (HW.out.drew.trans (hb1.mono (by simp)))).mono ?_; rintro e w2 ⟨rfl, q2, os2, rfl⟩; have kk2 : ((grow (w1.drewN q2) os2).cell? ⟨wr.heap.size, 0, none⟩ = some (.slice q l2 qc) ∧ (grow (w1.drewN q2) os2).cell? ⟨wr.heap.size, 1, none⟩ = some (.int .i64 x0) ∧ (grow (w1.drewN q2) os2).cell? ⟨wr.heap.size, 2, none⟩ = some (.int .i64 x1)) ∧ (grow (w1.drewN q2) os2).cell? ⟨g, o + j * 3, none⟩ = some (.slice r m2 rc) ∧ (grow (w1.drewN q2) os2).cell? ⟨g, o + j * 3 + 1, none⟩ = some (.int .i64 y0) ∧ (grow (w1.drewN q2) os2).cell? ⟨g, o + j * 3 + 2, none⟩ = some (.int .i64 y1) := ⟨⟨((below_grow q2 os2).cell (World.block_lt_of_cell? _ _ kk.1.1)).trans kk.1.1, ((below_grow q2 os2).cell (World.block_lt_of_cell? _ _ kk.1.2.1)).trans kk.1.2.1, ((below_grow q2 os2).cell (World.block_lt_of_cell? _ _ kk.1.2.2)).trans kk.1.2.2⟩, ((below_grow q2 os2).cell (World.block_lt_of_cell? _ _ kk.2.1)).trans kk.2.1, ((below_grow q2 os2).cell (World.block_lt_of_cell? _ _ kk.2.2.1)).trans kk.2.2.1, ((below_grow q2 os2).cell (World.block_lt_of_cell? _ _ kk.2.2.2)).trans kk.2.2.2⟩))
        all_goals
         have HB1 : Hid (Below w.heap.size w (grow (w1.drewN q2) os2)) := ((HB0.out.drew).trans (hb1.mono (Nat.le_trans HB.out.size (by simp)))).trans ((below_grow q2 os2).mono (Nat.le_trans HB.out.size (Nat.le_trans (by simp) hb1.size))); have cv := HCV.out _ (HW.out.drew.trans ((hb1.trans ((below_grow q2 os2).mono hb1.size)).mono (by simp))); obtain ⟨⟨k0, k1, k2⟩, _⟩ := kk2; clear kk hb1 HI HCM HCV HW HB0 c0 c1 c2 d0 d1 d2 hg0
         revert HB1 cv k0 k1 k2
         generalize grow (w1.drewN q2) os2 = w3
         intro HB1 cv k0 k1 k2
         cases b with
         | true =>
           go_wp2_with fail; go_roundw
           case rel => exact ⟨k + 1, true, by omega, by go_num, by go_num, by show _ = _; rw [HZ.out]; simp, HB1⟩
           case measure => simp [intOf]; omega
         | false =>
           go_wp2_with fail; go_roundw
           case rel => exact ⟨k + 1, sx.toList == [44], by omega, by go_num, by go_num, by show _ = _; rw [HZ.out]; simp, HB1⟩
           case measure => simp [intOf]; omega
       ·have hoc' : decide (0 ≤ oc) = true := by simp; omega
        have HZ : Hid (tabB cs = false) := by
         show _ = _
         rw [HD.out, HLT.out]; simp [hoc]
        clear HD HLT HCO HCV; go_wp2_with fail
        go_region_held3 (fun W => (W.cell? ⟨wr.heap.size, 0, none⟩ = some (.slice q l2 qc) ∧ W.cell? ⟨wr.heap.size, 1, none⟩ = some (.int .i64 x0) ∧ W.cell? ⟨wr.heap.size, 2, none⟩ = some (.int .i64 x1)) ∧ W.cell? ⟨g, o + j * 3, none⟩ = some (.slice r m2 rc) ∧ W.cell? ⟨g, o + j * 3 + 1, none⟩ = some (.int .i64 y0) ∧ W.cell? ⟨g, o + j * 3 + 2, none⟩ = some (.int .i64 y1)) (first | exact kk2 | exact kk | go_keep)
         (first | (go_at_call 110; refine (HI.out _ HW.out.drew).mono ?_; rintro e w1 ⟨rfl, hb1⟩; have kk : (w1.cell? ⟨wr.heap.size, 0, none⟩ = some (.slice q l2 qc) ∧ w1.cell? ⟨wr.heap.size, 1, none⟩ = some (.int .i64 x0) ∧ w1.cell? ⟨wr.heap.size, 2, none⟩ = some (.int .i64 x1)) ∧ w1.cell? ⟨g, o + j * 3, none⟩ = some (.slice r m2 rc) ∧ w1.cell? ⟨g, o + j * 3 + 1, none⟩ = some (.int .i64 y0) ∧ w1.cell? ⟨g, o + j * 3 + 2, none⟩ = some (.int .i64 y1) := ⟨⟨(hb1.cell (p := ⟨_, _, none⟩) (by simp)).trans c0, (hb1.cell (p := ⟨_, _, none⟩) (by simp)).trans c1, (hb1.cell (p := ⟨_, _, none⟩) (by simp)).trans c2⟩, ⟨(hb1.cell (p := ⟨_, _, none⟩) hg0).trans d0, (hb1.cell (p := ⟨_, _, none⟩) hg0).trans d1, (hb1.cell (p := ⟨_, _, none⟩) hg0).trans d2⟩⟩) | (go_at_call 66; refine (HCM.out _ (HW.out.drew.trans (hb1.mono (by simp)))).mono ?_; rintro e w2 ⟨rfl, q2, os2, rfl⟩; have kk2 : ((grow (w1.drewN q2) os2).cell? ⟨wr.heap.size, 0, none⟩ = some (.slice q l2 qc) ∧ (grow (w1.drewN q2) os2).cell? ⟨wr.heap.size, 1, none⟩ = some (.int .i64 x0) ∧ (grow (w1.drewN q2) os2).cell? ⟨wr.heap.size, 2, none⟩ = some (.int .i64 x1)) ∧ (grow (w1.drewN q2) os2).cell? ⟨g, o + j * 3, none⟩ = some (.slice r m2 rc) ∧ (grow (w1.drewN q2) os2).cell? ⟨g, o + j * 3 + 1, none⟩ = some (.int .i64 y0) ∧ (grow (w1.drewN q2) os2).cell? ⟨g, o + j * 3 + 2, none⟩ = some (.int .i64 y1) := ⟨⟨((below_grow q2 os2).cell (World.block_lt_of_cell? _ _ kk.1.1)).trans kk.1.1, ((below_grow q2 os2).cell (World.block_lt_of_cell? _ _ kk.1.2.1)).trans kk.1.2.1, ((below_grow q2 os2).cell (World.block_lt_of_cell? _ _ kk.1.2.2)).trans kk.1.2.2⟩, ((below_grow q2 os2).cell (World.block_lt_of_cell? _ _ kk.2.1)).trans kk.2.1, ((below_grow q2 os2).cell (World.block_lt_of_cell? _ _ kk.2.2.1)).trans kk.2.2.1, ((below_grow q2 os2).cell (World.block_lt_of_cell? _ _ kk.2.2.2)).trans kk.2.2.2⟩))
        all_goals go_wp2_with fail
        all_goals go_ret
        all_goals exact ⟨HF.out _ HZ.out.symm, ((HB0.out.drew).trans (hb1.mono (Nat.le_trans HB.out.size (by simp)))).trans ((below_grow q2 os2).mono (Nat.le_trans HB.out.size (Nat.le_trans (by simp) hb1.size)))⟩
   ·obtain rfl : k = cs.length := by omega
    have HQ' : Hid (tabB cs = b) := by
     have := HQ.out; rw [List.drop_length] at this
     show _ = _
     simpa [chainO] using this
    clear HQ HC HV
    go_wp2
    go_ret; exact ⟨HF.out _ HQ'.out.symm, HB.out⟩
 ·have hl' : (200 : Int) < cs.length := by omega
  have hv : tabB cs = false := by simp [tabB]; omega
  rw [hv]; clear hv
  go_enter Tryz.func31, Tryz.ntmps31
  go_wp2
  go_ret; exact ⟨rfl, Below.refl _ _⟩
end
section
open Go Go.RowKit
theorem flatO_one (r : RC) : flatO [r] = roV r := by simp [flatO]
theorem ownO_grew {W0 w w' : World} {B g n cap cp : Nat} {p : Option Addr} {cs : List Cel} {rs : List RC} (hn : n = cs.length) (hl : rs.length = cs.length) (hr0 : W0.ownsRow B 132 3 (.slice p n cp) n (flatO rs))
  (hf : ∀ i, i < cs.length → Fits W0 B (rs.getD i RC.zero) (cs.getD i Cel.none)) (ha : ApartC p rs) (hb0 : Below W0.heap.size W0 w) (hB : B ≤ W0.heap.size)
  {kd nn : Int} {tp : Option Addr} {tn tc : Nat} {t : List Int} (ht : OwnT w W0.heap.size tp tn tc t)
  (hr : w'.ownsRow B 132 3 (.slice (some ⟨g, 0, none⟩) (n + 1) cap) (n + 1) (flatO rs ++ roV (kd, nn, tp, tn, tc))) (hg : w.grownBy w' (Value.ownBlock (.slice p n cp))) (hat : Value.ownBlock (.slice p n cp) = some g ∨ g = w.heap.size) :
  OwnO w' B (some ⟨g, 0, none⟩) (n + 1) cap (cs ++ [(kd, nn, t)]) := by
 have hown : ∀ k, Value.ownBlock (.slice p n cp) = some k → p = some ⟨k, 0, none⟩ ∧ k < W0.heap.size := fun k hk => by
  rcases hr0.2 with ⟨hv, _⟩ | ⟨g', cap', cur, hv, hb, hg', _⟩
  ·simp only [Value.slice.injEq] at hv; rw [hv.1] at hk; simp [Value.ownBlock] at hk
  ·simp only [Value.slice.injEq] at hv
   rw [hv.1] at hk ⊢
   simp [Value.ownBlock] at hk
   subst hk; exact ⟨rfl, (Array.getElem?_eq_some_iff.1 hg').1⟩
 have hold : ∀ i, i < cs.length → OwnT w B (rs.getD i RC.zero).2.2.1 (rs.getD i RC.zero).2.2.2.1 (rs.getD i RC.zero).2.2.2.2 (cs.getD i Cel.none).2.2 := fun i hi => (hf i hi).2.2.below hb0
 have hlow : ∀ i, i < cs.length → 0 < (rs.getD i RC.zero).2.2.2.1 → ∃ k, (rs.getD i RC.zero).2.2.1 = some ⟨k, 0, none⟩ ∧ k < W0.heap.size := fun i hi hp => by
  obtain ⟨k, e, _, hlt, _⟩ := (hf i hi).2.2.2 hp; exact ⟨k, e, hlt⟩
 have hhigh : 0 < tn → ∃ k, tp = some ⟨k, 0, none⟩ ∧ W0.heap.size ≤ k ∧ k < w.heap.size := fun hp => by
  obtain ⟨k, e, h1, h2, _⟩ := ht.2 hp; exact ⟨k, e, h1, h2⟩
 have hnewg : g < W0.heap.size ∨ g = w.heap.size := by
  rcases hat with h | h
  ·exact .inl (hown g h).2
  ·exact .inr h
 refine ⟨by simp; omega, rs ++ [(kd, nn, tp, tn, tc)], by simp; omega, by rw [flatO_append, flatO_one]; exact hr, fun i hi => ?_, fun i hi hp => ?_, fun i j hi hj hij hpi hpj => ?_⟩
 ·have hi' : i ≤ cs.length := by simp at hi; omega
  rw [rs_append_at _ _ _ (by omega), cs_append_at _ _ _ hi']
  by_cases e : i = cs.length
  ·rw [if_pos (by omega), if_pos e]
   refine ⟨rfl, rfl, (ht.mono hB).other hg.size (fun k hn0 e' => ?_)⟩; obtain ⟨k', e'', h1, h2⟩ := hhigh hn0
   have hkk : k = k' := by
    have := e'.symm.trans e''; exact congrArg Addr.block (Option.some.inj this)
   refine hg.block k (by omega) (fun hk => ?_); have := (hown k hk.symm).2
   omega
  ·rw [if_neg (by omega), if_neg e]
   refine ⟨(hf i (by omega)).1, (hf i (by omega)).2.1, (hold i (by omega)).other hg.size (fun k hn0 e' => ?_)⟩; obtain ⟨k', e'', h1⟩ := hlow i (by omega) hn0; have hkk : k = k' := congrArg Addr.block (Option.some.inj (e'.symm.trans e'')); refine hg.block k (by have := hb0.size; omega) (fun hk => ?_); exact ha.1 i (by omega) hn0 (by rw [e', (hown k hk.symm).1])
 ·have hi' : i ≤ rs.length := by simp at hi; omega
  rw [rs_append_at _ _ _ hi'] at hp ⊢
  by_cases e : i = rs.length
  ·rw [if_pos e] at hp ⊢
   obtain ⟨k', e'', h1, h2⟩ := hhigh hp; rw [show ((kd, nn, tp, tn, tc) : RC).2.2.1 = tp from rfl, e'']; exact ne_block (by omega) hp
  ·rw [if_neg e] at hp ⊢
   obtain ⟨k', e'', h1⟩ := hlow i (by omega) hp
   rcases hat with h | h
   ·rw [← (hown g h).1]
    exact ha.1 i (by omega) hp
   ·rw [e'']
    exact ne_block (by have := hb0.size; omega) hp
 ·have hi' : i ≤ rs.length := by simp at hi; omega
  have hj' : j ≤ rs.length := by simp at hj; omega
  rw [rs_append_at _ _ _ hi'] at hpi ⊢; rw [rs_append_at _ _ _ hj'] at hpj ⊢
  by_cases e : i = rs.length
  ·rw [if_pos e] at hpi ⊢
   rw [if_neg (by omega)] at hpj ⊢; obtain ⟨k', e'', h1, h2⟩ := hhigh hpi; obtain ⟨k2, e2, h3⟩ := hlow j (by omega) hpj; rw [show ((kd, nn, tp, tn, tc) : RC).2.2.1 = tp from rfl, e'', e2]; exact ne_block (by omega) hpi
  ·rw [if_neg e] at hpi ⊢
   by_cases e' : j = rs.length
   ·rw [if_pos e'] at hpj ⊢
    obtain ⟨k', e'', h1, h2⟩ := hhigh hpj; obtain ⟨k2, e2, h3⟩ := hlow i (by omega) hpi; rw [show ((kd, nn, tp, tn, tc) : RC).2.2.1 = tp from rfl, e'', e2]; exact ne_block (by omega) hpi
   ·rw [if_neg e'] at hpj ⊢
    exact ha.2 i j (by omega) (by omega) hij hpi hpj
theorem roV_one (r : RC) : ∀ u ∈ roV r, u.oneCell' = true := fun u hu => by
 simp [roV] at hu
 rcases hu with rfl | rfl | rfl <;> rfl
end
section
open Go Go.RowKit Go.Maps
theorem below_grownBy {w w' : World} (h : Below w.heap.size w w') : w.grownBy w' none := ⟨h.os, h.tape, h.output, h.size, fun k hk _ => h.block k hk⟩
theorem app_op2 (W0 w : World) {ops : Array Oper} {rest : List Oper} {o : Oper} {a : Act} {Q : Exit → Act → World → Prop} (hgd : o.guard = none) (s x : Operand)
  (ho : o.op = .call { callee := .builtin .append, args := #[s, x], argTypes := #[28, 28] }) (B : Nat) (p : Option Addr) (n c : Nat) (cs : List Cel)
  (hs : a.eval s = .slice p n c) (hown : OwnO W0 B p n c cs) (hb0 : Below W0.heap.size W0 w) (hB : B ≤ W0.heap.size) (ad : Addr) (c' : Nat) (hx : a.eval x = .slice (some ad) 1 c') (kd nn : Int) (tp : Option Addr) (tn tc : Nat) (t : List Int)
  (ht : OwnT w W0.heap.size tp tn tc t) (hnews : ∀ j u, (roV (kd, nn, tp, tn, tc))[j]? = some u → w.cell? (ad.add j) = some u) (hlen : n + 1 ≤ 1000000000)
  (h : ∀ g n' cap w', OwnO w' B (some ⟨g, 0, none⟩) n' cap (cs ++ [(kd, nn, t)]) → w.grownBy w' (Value.ownBlock (.slice p n c)) → (Value.ownBlock (.slice p n c) = some g ∨ g = w.heap.size) → Hid (n' = n + 1) → wpList Tryz.prog ops Q rest (a.put o.dst (.slice (some ⟨g, 0, none⟩) n' cap)) w') : wpList Tryz.prog ops Q (o :: rest) a w := by
 obtain ⟨i0, hi, hz0, hz1, hz2⟩ := info_parts infoOp; obtain ⟨hn, rs, hl, hr, hf, ha⟩ := hown; refine wpList_append_lies w hgd s x 28 ho B 132 i0 (.agg #[.slice none 0 0, .int .i64 0, .int .i64 0]) 3 40 Tryz.underlying28 hi hz0 hz1 hz2 rfl (by decide) (.slice p n c) n (flatO rs) hs (row_below hr hb0) ad 1 c' (roV (kd, nn, tp, tn, tc)) hx rfl hnews (roV_one _) (by decide) (by unfold maxLen; omega) (by omega) (Nat.le_trans hB hb0.size) w.heap.size rfl ?_
 intro g cap w' hown' hgrow hat hlt
 exact h g _ cap w' (ownO_grew hn hl hr hf ha hb0 hB ht hown' hgrow hat) hgrow hat rfl
theorem OwnO.row {w : World} {B : Nat} {p : Option Addr} {n c : Nat} {cs : List Cel} (h : OwnO w B p n c cs) {k : Nat} (e : Value.ownBlock (.slice p n c) = some k) : B ≤ k ∧ k < w.heap.size := by
 obtain ⟨hn, rs, hl, hr, _⟩ := h; exact hr.lt k e
theorem OwnO.kept {w w' : World} {B r : Nat} {p : Option Addr} {n c : Nat} {cs : List Cel} (h : OwnO w B p n c cs) (hg : w.grownBy w' (some r)) (hr0 : r < B) : OwnO w' B p n c cs := by
 obtain ⟨hn, rs, hl, hr, hf, ha⟩ := h; refine ⟨hn, rs, hl, hr.kept hg (.inr (fun e => ?_)), fun i hi => ⟨(hf i hi).1, (hf i hi).2.1, (hf i hi).2.2.other hg.size (fun k hp e => ?_)⟩, ha⟩
 ·have := (hr.lt r e).1
  omega
 ·obtain ⟨k', e', h1, h2, _⟩ := (hf i hi).2.2.2 hp
  have ek : k = k' := by rw [e] at e'; exact congrArg Addr.block (Option.some.inj e')
  exact hg.block k (by omega) (fun e2 => by have := Option.some.inj e2; omega)
theorem news_ro {w : World} {d : Nat} {r : RC} (h : Box3 w d (.slice r.2.2.1 r.2.2.2.1 r.2.2.2.2) (.int .i64 r.1) (.int .i64 r.2.1)) : ∀ j u, (roV r)[j]? = some u → w.cell? ((⟨d, 0, none⟩ : Addr).add j) = some u := fun j u hu => by
 match j, hu with
 | 0, hu => simp [roV] at hu; rw [← hu]; exact h.1
 | 1, hu => simp [roV] at hu; rw [← hu]; exact h.2.1
 | 2, hu => simp [roV] at hu; rw [← hu]; exact h.2.2.1
 | j + 3, hu => simp [roV] at hu
end
end Go.Proofs.YtkklidpnkofipaaGreatDoor
