/- Texts of RgP, AsF, AsG, RecF. Own work of the verifier. -/
import Derived.Test.YtfgmenkoeflhaaaGreatDoorUqbu
import Derived.LaidEql
import Derived.Stop.Asserts
import Derived.RowKitTokens
import Derived.Laws.CopyOwn
import Derived.Recover
import Derived.RegionIn
import Derived.RecoverIn
namespace Go.Proofs.YtfgmenkoeflhaaaGreatDoor
set_option linter.unusedVariables false
set_option maxRecDepth 100000
section
open Go Go.RowKit Go.Shelf
theorem wpIn_range_pan {P : Program} {n : Nat} {g : Operand} {ps : Array Tmp} {assign body : Code} {Q : Exit → Act → World → Prop} {a : Act} {w : World} {gf : Nat} {first : Array Value}
  (hg : a.eval g = .func (.func gf) first #[]) (eg : ∀ args w, (callFunc gf args).run P w = .ok (.enter gf args) w)
  (h : ∀ (l D : Nat) (ready busy done : Obj) (W1 : World), D = w.heap.size → l = w.heap.size + 1 → W1 = (w.alloc (.deferred (some []))).alloc ready → ready.isCells = false → busy.isCells = false → done.isCells = false →
    (∀ (args : Array Value) (W : World) (R : Ending → World → Prop), args.size = ps.size → W.heap[l]? = some ready →
      assign.wpIn (Fence.wide.inRound l) (n - 1 - 1) P (Exit.then (fun a₁ W₁ => W₁.heap[l]? = some ready ∧ body.wpIn (Fence.wide.inRound l) (n - 1 - 1) P (fun e _ W₂ => e = .normal ∧ W₂.heap[l]? = some busy ∧ R (.returned (.bool true)) (W₂.putObj l ready)) a₁ (W₁.putObj l busy)) (fun _ _ _ => False))
       { tmps := (ps.zip args).foldl (fun t (p, v) => t.setIfInBounds p v) a.tmps, defers := [] } W → YieldAt Fence.wide (n - 1 - 1) P l args W R) →
    CallsIn Fence.wide (n - 1) P gf (first ++ #[.func (.yield l) #[] #[]]) W1 (fun e W' => match e with
     | .returned _ => W'.heap[l]? = some ready ∧ Q .normal { a with defers := { target := .collected D, args := #[] } :: a.defers } (W'.putObj l done)
     | .panicked chain => Q (.panic chain) { a with defers := { target := .collected D, args := #[] } :: a.defers } W'
     | .outgrown => False)) :
  (Code.rangeFunc g ps assign body).wpIn Fence.wide n P Q a w := by
 refine wpIn_rangeFunc ?_
 intro fn hfn
 have e0 : Fence.wide.round = none := rfl; rw [e0]
 obtain ⟨rec, hrec⟩ : ∃ rec : LoopState → Option Code → Loop, rec = fun st pe => { state := st, pending := pe, fn, tmps := a.tmps, params := ps, assign, body, defers := w.heap.size } := ⟨_, rfl⟩
 obtain ⟨W1, hW1⟩ : ∃ W1, W1 = (w.alloc (.deferred (some []))).alloc (.loop (rec .ready none)) := ⟨_, rfl⟩
 refine ⟨w.heap.size + 1, [{ target := .collected w.heap.size, args := #[] }], W1, { target := .fn (.func gf) #[], args := first ++ #[.func (.yield (w.heap.size + 1)) #[] #[]] }, W1, gf, first ++ #[.func (.yield (w.heap.size + 1)) #[] #[]], W1, ?_, ?_, ?_, ?_, fun h => (by cases h), ?_⟩
 ·rw [hW1, hrec]; exact run_enterLoop_outer _ _ _ _ _
 ·simp only [resolve, hg]
  simp [go_sem]
 ·intro f' _; trivial
 ·simp [invoke, go_sem, eg]
 ·refine (h _ _ (.loop (rec .ready none)) (.loop (rec .busy none)) (.loop (rec .exhausted none)) W1 rfl rfl hW1 rfl rfl rfl ?_).mono ?_
  ·intro args W R hs hl hw
   have hy := run_yield (P := P) (args := args) hl (by rw [hrec]; exact hs)
   have hb : ∀ W₁ : World, W₁.heap[w.heap.size + 1]? = some (.loop (rec .ready none)) → (Instr.beginRound (w.heap.size + 1)).run P W₁ = .ok () (W₁.putObj (w.heap.size + 1) (.loop (rec .busy none))) := fun W₁ h1 => by
    have := run_beginRound (P := P) h1 (by rw [hrec]); rw [this, hrec]
   have he : ∀ W₂ : World, W₂.heap[w.heap.size + 1]? = some (.loop (rec .busy none)) → (Instr.endRound (w.heap.size + 1) none).run P W₂ = .ok (.bool true) (W₂.putObj (w.heap.size + 1) (.loop (rec .ready none))) := fun W₂ h2 => by
    have := run_endRound (P := P) none h2; rw [this, hrec]
    rfl
   rw [hrec] at hy; refine ⟨fn, _, assign, body, hy, roundIn_of_wpIn hfn (wpIn_mono hw ?_)⟩; rintro e a1 W2 hq
   cases e with
   | normal =>
     obtain ⟨hl1, hbody⟩ := hq; refine ⟨_, hb _ hl1, wpIn_mono hbody ?_⟩; rintro e2 a2 W3 ⟨rfl, hl3, hR⟩; exact ⟨_, _, he _ hl3, hR⟩
   | ret => exact hq.elim
   | exit id => exact hq.elim
   | goto t => exact hq.elim
   | panic ch => exact hq.elim
   | outgrown => exact hq.elim
  ·rintro e W' hq
   cases e with
   | returned v =>
     obtain ⟨hl, hQ⟩ := hq; refine ⟨none, _, ?_, hQ⟩; have := run_endLoop (P := P) hl (by rw [hrec]; simp); rw [this, hrec]
   | panicked chain => exact hq
   | outgrown => exact hq.elim
end
section
open Go Go.RowKit Go.Extern.Stop Go.Stop Go.Extern
set_option linter.unusedSimpArgs false
theorem asV2 (t : Addr) (w : World) : (ReflectliteValue.unpack (.iface 65 (.pointer (some t)))).run Tryz.prog w
  = .ok (.agg #[.pointer (some ⟨3, 65, none⟩), .pointer (some ⟨w.heap.size, 0, none⟩), .int .u64 150]) (w.alloc (.cells #[.pointer (some t)] 65)) := by kernel_rfl
theorem asT2 (a : Addr) (w : World) : (ReflectliteValue.methodAny (ReflectliteValue.valueError "reflectlite.Value.Type" 0) (fun t _ _ _ => ReflectliteType.toType t) #[.agg #[.pointer (some ⟨3, 65, none⟩), .pointer (some a), .int .u64 150]]).run Tryz.prog w
  = .ok (.iface 123 (.agg #[.pointer (some ⟨3, 65, none⟩)])) w := by kernel_rfl
theorem asMK (h : Value) (w : World) : (Go.method 281 123 (.agg #[h]) "Kind").run Tryz.prog w = .ok (133, h) w := by kernel_rfl
theorem asK2 (w : World) : ((ReflectliteType.abiMethod fun t => (fun a : Nat => Value.int IntKind.u8 (a : Int)) <$> Rtype.kind t) #[.pointer (some ⟨3, 65, none⟩)]).run Tryz.prog w = .ok (.int .u8 22) w := by kernel_rfl
theorem asK1 (w : World) : ((ReflectliteType.abiMethod fun t => (fun a : Nat => Value.int IntKind.u8 (a : Int)) <$> Rtype.kind t) #[.pointer (some ⟨3, 38, none⟩)]).run Tryz.prog w = .ok (.int .u8 25) w := by kernel_rfl
theorem rlm (z : Sem Value) (f : TypeId → Addr → Nat → Nat → Sem Value) (v : Value) :
  ReflectliteValue.method z f #[v] = (do match ← ReflectliteValue.parts v with | none => z | some (t, a, fl) => f t a fl (fl % 32)) := rfl
theorem asP2 (a : Addr) (w : World) : (ReflectliteValue.parts (.agg #[.pointer (some ⟨3, 65, none⟩), .pointer (some a), .int .u64 150])).run Tryz.prog w = .ok (some (65, a, 150)) w := by kernel_rfl
theorem asN2 (a p : Addr) (W : World) (ha : W.cell? a = some (.pointer (some p))) :
  (ReflectliteValue.method (ReflectliteValue.valueError "reflectlite.Value.IsNil" 0) ReflectliteValue.isNil #[.agg #[.pointer (some ⟨3, 65, none⟩), .pointer (some a), .int .u64 150]]).run Tryz.prog W = .ok (.bool false) W := by
 rw [rlm]; simp only [Sem.run_bind, asP2, Result.andThen]
 simp [ReflectliteValue.isNil, loadVar, isAgg, underlying, Tryz.underlying65, ha, Result.andThen]
theorem asME (h : Value) (w : World) : (Go.method 281 123 (.agg #[h]) "Elem").run Tryz.prog w = .ok (143, .agg #[h]) w := by kernel_rfl
theorem asMI (h : Value) (w : World) : (Go.method 281 123 (.agg #[h]) "Implements").run Tryz.prog w = .ok (144, .agg #[h]) w := by kernel_rfl
theorem asMA (h : Value) (w : World) : (Go.method 281 123 (.agg #[h]) "AssignableTo").run Tryz.prog w = .ok (141, .agg #[h]) w := by kernel_rfl
theorem asE2 (w : World) : (ReflectliteType.method ReflectliteType.elem #[.agg #[.pointer (some ⟨3, 65, none⟩)]]).run Tryz.prog w = .ok (.iface 123 (.agg #[.pointer (some ⟨3, 38, none⟩)])) w := by kernel_rfl
theorem asI1 (w : World) : (ReflectliteType.relation "Implements" ReflectliteType.implements_ #[.agg #[.pointer (some ⟨3, 38, none⟩)], .iface 123 (.agg #[.pointer (some ⟨3, 62, none⟩)])]).run Tryz.prog w = .ok (.bool true) w := by kernel_rfl
theorem asTO (v : Value) (w : World) : (ReflectliteType.typeOf #[.iface 38 v]).run Tryz.prog w = .ok (.iface 123 (.agg #[.pointer (some ⟨3, 38, none⟩)])) w := by kernel_rfl
theorem asA1 (w : World) : (ReflectliteType.relation "AssignableTo" ReflectliteType.assignableTo #[.agg #[.pointer (some ⟨3, 38, none⟩)], .iface 123 (.agg #[.pointer (some ⟨3, 38, none⟩)])]).run Tryz.prog w = .ok (.bool true) w := by kernel_rfl
theorem asV1 (c p : Int) (w : World) : (ReflectliteValue.unpack (.iface 38 (.agg #[.int .i64 c, .int .i64 p]))).run Tryz.prog w
  = .ok (.agg #[.pointer (some ⟨3, 38, none⟩), .pointer (some ⟨w.heap.size, 0, none⟩), .int .u64 153]) (w.alloc (.cells #[.int .i64 c, .int .i64 p] 38)) := by kernel_rfl
theorem asEO (w : World) : (Rtype.elem? 65).run Tryz.prog w = .ok (some 38) w := by kernel_rfl
theorem asM1 (p : Addr) (w : World) : (ReflectliteValue.mk 38 p ReflectliteValue.flagAddr).run Tryz.prog w = .ok (.agg #[.pointer (some ⟨3, 38, none⟩), .pointer (some p), .int .u64 409]) w := by kernel_rfl
theorem asEV (a p : Addr) (W : World) (ha : W.cell? a = some (.pointer (some p))) :
  (ReflectliteValue.method (ReflectliteValue.valueError "reflectlite.Value.Elem" 0) ReflectliteValue.elem #[.agg #[.pointer (some ⟨3, 65, none⟩), .pointer (some a), .int .u64 150]]).run Tryz.prog W
    = .ok (.agg #[.pointer (some ⟨3, 38, none⟩), .pointer (some p), .int .u64 409]) W := by
 rw [rlm]; simp only [Sem.run_bind, asP2, Result.andThen]
 simp [ReflectliteValue.elem, loadVar, isAgg, underlying, Tryz.underlying65, ha, Result.andThen, asEO, asM1]
theorem asP1a (a : Addr) (w : World) : (ReflectliteValue.parts (.agg #[.pointer (some ⟨3, 38, none⟩), .pointer (some a), .int .u64 409])).run Tryz.prog w = .ok (some (38, a, 409)) w := by kernel_rfl
theorem asP1 (a : Addr) (w : World) : (ReflectliteValue.parts (.agg #[.pointer (some ⟨3, 38, none⟩), .pointer (some a), .int .u64 153])).run Tryz.prog w = .ok (some (38, a, 153)) w := by kernel_rfl
theorem asD1 (w : World) : (Rtype.directlyAssignable 38 38).run Tryz.prog w = .ok true w := by kernel_rfl
theorem asS1 (w : World) : (sizeOf 38).run Tryz.prog w = .ok 2 w := by kernel_rfl
theorem asLd (b : Nat) (c p : Int) (W : World) (h0 : W.cell? ⟨b, 0, none⟩ = some (.int .i64 c)) (h1 : W.cell? ⟨b, 1, none⟩ = some (.int .i64 p)) : (loadVar 38 ⟨b, 0, none⟩).run Tryz.prog W = .ok (.agg #[.int .i64 c, .int .i64 p]) W := by
 simp [loadVar, isAgg, underlying, Tryz.underlying38, Result.andThen, asS1, loadCells, loadCellsFrom, Addr.add, h0, h1]
theorem asSet (T b : Nat) (c p : Int) (o0 o1 : Value) (W : World) (h0 : W.cell? ⟨b, 0, none⟩ = some (.int .i64 c)) (h1 : W.cell? ⟨b, 1, none⟩ = some (.int .i64 p)) (hT : W.heap[T]? = some (.cells #[o0, o1] 38 (0, 0))) :
  (ReflectliteValue.set #[.agg #[.pointer (some ⟨3, 38, none⟩), .pointer (some ⟨T, 0, none⟩), .int .u64 409], .agg #[.pointer (some ⟨3, 38, none⟩), .pointer (some ⟨b, 0, none⟩), .int .u64 153]]).run Tryz.prog W
    = .ok (.tuple #[]) (W.setRow T #[.int .i64 c, .int .i64 p]) := by
 have hs := run_storeVar_row (P := Tryz.prog) W T 38 38 #[o0, o1] #[.int .i64 c, .int .i64 p] hT (by kernel_rfl) rfl (by simp [Value.oneCell']); have hl := asLd b c p W h0 h1
 change Sem.run Tryz.prog (ReflectliteValue.parts _ >>= _) W = _
 simp [Array.getLit, asP1a, asP1, ReflectliteValue.flagAddr, hl, asD1, hs, Result.andThen]
set_option maxHeartbeats 4000000 in
theorem as_hit (T : Nat) (c p : Int) (o0 o1 : Value) (w : World) (hg : w.cell? ⟨0, 0, none⟩ = some (.iface 123 (.agg #[.pointer (some ⟨3, 62, none⟩)]))) (hT : w.heap[T]? = some (.cells #[o0, o1] 38 (0, 0))) :
  Calls Tryz.prog 39 #[.iface 38 (.agg #[.int .i64 c, .int .i64 p]), .iface 65 (.pointer (some ⟨T, 0, none⟩))] w fun ev w' => ev = .returned (.bool true) ∧ ∃ w4 : World, Below w.heap.size w w4 ∧ w4.heap[T]? = some (.cells #[o0, o1] 38 (0, 0)) ∧ w' = w4.setRow T #[.int .i64 c, .int .i64 p] := by
 have h6 := @run_callFunc_extern Tryz.prog 63 _ (fun args => ReflectliteValue.unpack (args.getD 0 (.tuple #[]))) Tryz.func63 (by kernel_rfl) (by kernel_rfl) (by kernel_rfl) (by kernel_rfl); have h7 := @run_callFunc_extern Tryz.prog 64 _ (ReflectliteValue.methodAny (ReflectliteValue.valueError "reflectlite.Value.Type" 0) (fun t _ _ _ => ReflectliteType.toType t)) Tryz.func64 (by kernel_rfl) (by kernel_rfl) (by kernel_rfl) (by kernel_rfl); have h8 := @run_callFunc_extern Tryz.prog 65 _ (ReflectliteValue.method (ReflectliteValue.valueError "reflectlite.Value.IsNil" 0) ReflectliteValue.isNil) Tryz.func65 (by kernel_rfl) (by kernel_rfl) (by kernel_rfl) (by kernel_rfl); have h27 := @run_callFunc_extern Tryz.prog 133 _ (ReflectliteType.abiMethod fun t => do pure (.int .u8 (← Rtype.kind t))) Tryz.func133 (by kernel_rfl) (by kernel_rfl) (by kernel_rfl) (by kernel_rfl)
 have h37 := @run_callFunc_extern Tryz.prog 143 _ (ReflectliteType.method ReflectliteType.elem) Tryz.func143 (by kernel_rfl) (by kernel_rfl) (by kernel_rfl) (by kernel_rfl); have h38 := @run_callFunc_extern Tryz.prog 144 _ (ReflectliteType.relation "Implements" ReflectliteType.implements_) Tryz.func144 (by kernel_rfl) (by kernel_rfl) (by kernel_rfl) (by kernel_rfl); have h10 := @run_callFunc_extern Tryz.prog 87 _ ReflectliteType.typeOf Tryz.func87 (by kernel_rfl) (by kernel_rfl) (by kernel_rfl) (by kernel_rfl); have h35 := @run_callFunc_extern Tryz.prog 141 _ (ReflectliteType.relation "AssignableTo" ReflectliteType.assignableTo) Tryz.func141 (by kernel_rfl) (by kernel_rfl) (by kernel_rfl) (by kernel_rfl)
 have h11 := @run_callFunc_extern Tryz.prog 88 _ (ReflectliteValue.method (ReflectliteValue.valueError "reflectlite.Value.Elem" 0) ReflectliteValue.elem) Tryz.func88 (by kernel_rfl) (by kernel_rfl) (by kernel_rfl) (by kernel_rfl); have h12 := @run_callFunc_extern Tryz.prog 89 _ ReflectliteValue.set Tryz.func89 (by kernel_rfl) (by kernel_rfl) (by kernel_rfl) (by kernel_rfl); have tO := asTO; have mA := asMA; have a1 := asA1; have v1 := asV1; have f6 := asV2; have f7 := asT2; have mK := asMK; have mE := asME; have mI := asMI; have k2 := asK2; have k1 := asK1; have e2 := asE2; have i1 := asI1
 have hTl : T < w.heap.size := by
  rcases Nat.lt_or_ge T w.heap.size with h | h
  ·exact h
  ·rw [Array.getElem?_eq_none h] at hT; cases hT
 have hgl : 0 < w.heap.size := World.block_lt_of_cell? _ _ hg; have n8 := asN2 ⟨w.heap.size, 0, none⟩ ⟨T, 0, none⟩ ((w.alloc (.cells #[.pointer (some ⟨T, 0, none⟩)] 65)).alloc (.cells #[.pointer (some ⟨3, 65, none⟩), .pointer (some ⟨w.heap.size, 0, none⟩), .int .u64 150] 99)) (by simp)
 have hg2 : ((w.alloc (.cells #[.pointer (some ⟨T, 0, none⟩)] 65)).alloc (.cells #[.pointer (some ⟨3, 65, none⟩), .pointer (some ⟨w.heap.size, 0, none⟩), .int .u64 150] 99)).cell? ⟨0, 0, none⟩ = some (.iface 123 (.agg #[.pointer (some ⟨3, 62, none⟩)])) := by
  rw [World.cell?_alloc_lt _ _ ⟨0, 0, none⟩ (by first | (simp; done) | (simp; omega)), World.cell?_alloc_lt _ _ ⟨0, 0, none⟩ hgl]; exact hg
 have el := asEV ⟨w.heap.size, 0, none⟩ ⟨T, 0, none⟩ (((w.alloc (.cells #[.pointer (some ⟨T, 0, none⟩)] 65)).alloc (.cells #[.pointer (some ⟨3, 65, none⟩), .pointer (some ⟨w.heap.size, 0, none⟩), .int .u64 150] 99)).alloc (.cells #[.pointer (some ⟨3, 65, none⟩), .pointer (some ⟨w.heap.size, 0, none⟩), .int .u64 150] 99)) (by rw [World.cell?_alloc_lt _ _ ⟨w.heap.size, 0, none⟩ (by simp; omega)]; simp)
 obtain ⟨w3, e3⟩ : ∃ w3, w3 = (((w.alloc (.cells #[.pointer (some ⟨T, 0, none⟩)] 65)).alloc (.cells #[.pointer (some ⟨3, 65, none⟩), .pointer (some ⟨w.heap.size, 0, none⟩), .int .u64 150] 99)).alloc (.cells #[.pointer (some ⟨3, 65, none⟩), .pointer (some ⟨w.heap.size, 0, none⟩), .int .u64 150] 99)) := ⟨_, rfl⟩
 have hs3 : w3.heap.size = w.heap.size + 1 + 1 + 1 := by rw [e3]; simp
 have hb3 : Below w.heap.size w w3 := by
  rw [e3]; exact (((Below.refl _ _).alloc (Nat.le_refl _) _).alloc (by simp) _).alloc (by simp; omega) _
 have hT4 : (w3.alloc (.cells #[.int .i64 c, .int .i64 p] 38)).heap[T]? = some (.cells #[o0, o1] 38 (0, 0)) := by
  rw [Go.heap_alloc_old _ _ (by omega), hb3.block T hTl]; exact hT
 have st := asSet T (w.heap.size + 1 + 1 + 1) c p o0 o1 (w3.alloc (.cells #[.int .i64 c, .int .i64 p] 38)) (by rw [← hs3]; unfold World.cell?; rw [heap_alloc_new]; rfl) (by rw [← hs3]; unfold World.cell?; rw [heap_alloc_new]; rfl) hT4; have HB4 : Hid (Below w.heap.size w (w3.alloc (.cells #[.int .i64 c, .int .i64 p] 38))) := hb3.alloc (by omega) _; have HT4 := Hid.mk hT4; rw [e3] at st HB4 HT4; clear hb3 hs3 hT4 hT hTl hgl hg e3
 go_enter Tryz.func39, Tryz.ntmps39
 go_wp2
 refine wp_loop_rounds 1 ?_; rw [rounds_succ]
 go_wp2
 go_ret; exact ⟨rfl, _, HB4.out, HT4.out, rfl⟩
theorem fourC {w5 : World} {g : Nat} {a b : Value} (h : w5.heap[g]? = some (.cells #[a, b] 38 (0, 0))) : w5.cell? ⟨g, 0, none⟩ = some a ∧ w5.cell? ⟨g, 1, none⟩ = some b ∧ w5.frozen? ⟨g, 0, none⟩ = false ∧ w5.frozen? ⟨g, 1, none⟩ = false := by
 refine ⟨?_, ?_, ?_, ?_⟩
 ·unfold World.cell?; rw [h]; rfl
 ·unfold World.cell?; rw [h]; rfl
 ·unfold World.frozen?; rw [h]; rfl
 ·unfold World.frozen?; rw [h]; rfl
set_option maxHeartbeats 4000000 in
theorem faultOf_any (c p : Int) (w : World) (hg : w.cell? ⟨0, 0, none⟩ = some (.iface 123 (.agg #[.pointer (some ⟨3, 62, none⟩)]))) :
  Calls Tryz.prog 15 #[.iface 38 (.agg #[.int .i64 c, .int .i64 p])] w fun e w' => e = .returned (.agg #[.int .i64 c, .int .i64 p]) ∧ Below w.heap.size w w' := by
 have hgl : 0 < w.heap.size := World.block_lt_of_cell? _ _ hg; have hta := run_typeAssert_hasB (P := Tryz.prog) (asserted := 62) (t := 38) Tryz.underlying62 (by kernel_rfl) (.agg #[.int .i64 c, .int .i64 p]) 20
 obtain ⟨w2, e2⟩ : ∃ w2, w2 = (w.alloc (.cells #[.int .i64 0, .int .i64 0] 38)).alloc (.cells #[.int .i64 0, .int .i64 0] 38) := ⟨_, rfl⟩
 have hb2 : Below w.heap.size w w2 := by rw [e2]; exact ((Below.refl _ _).alloc (Nat.le_refl _) _).alloc (by simp) _
 have hs2 : w2.heap.size = w.heap.size + 1 + 1 := by rw [e2]; simp
 have hT2 : w2.heap[w.heap.size + 1]? = some (.cells #[.int .i64 0, .int .i64 0] 38 (0, 0)) := by
  have := heap_alloc_new (w.alloc (.cells #[.int .i64 0, .int .i64 0] 38)) (.cells #[.int .i64 0, .int .i64 0] 38); rw [← e2] at this
  simpa using this
 have hR2 : w2.heap[w.heap.size]? = some (.cells #[.int .i64 0, .int .i64 0] 38 (0, 0)) := by
  rw [e2, Go.heap_alloc_old _ _ (by simp)]; exact heap_alloc_new _ _
 have HA : Calls Tryz.prog 39 #[.iface 38 (.agg #[.int .i64 c, .int .i64 p]), .iface 65 (.pointer (some ⟨w.heap.size + 1, 0, none⟩))] w2 fun e w5 => e = .returned (.bool true) ∧ Hid (Below w.heap.size w w5) ∧ w.heap.size < w5.heap.size ∧ Hid (w5.heap[w.heap.size]? = some (.cells #[.int .i64 0, .int .i64 0] 38 (0, 0))) ∧ Hid (w5.heap[w.heap.size + 1]? = some (.cells #[.int .i64 c, .int .i64 p] 38 (0, 0))) := by
  refine (as_hit (w.heap.size + 1) c p (.int .i64 0) (.int .i64 0) w2 ((hb2.cell (p := ⟨0, 0, none⟩) hgl).trans hg) hT2).mono ?_; rintro e w5 ⟨rfl, w4, hb4, hT4, rfl⟩; have hb5 : Below w.heap.size w w4 := hb2.trans (hb4.mono hb2.size); refine ⟨rfl, below_setRow hb5 (by omega) _, ?_, ?_, setRow_heap _ _ _ _ _ _ hT4⟩
  ·have := hb4.size; simp; omega
  ·show _ = _
   rw [setRow_other _ _ _ _ (by omega), hb4.block _ (by omega)]; exact hR2
 rw [e2] at HA; clear hg hgl hb2 hs2 hT2 hR2 e2
 go_enter Tryz.func15, Tryz.ntmps15
 go_wp2_with (go_at_call 39; refine HA.mono ?_; rintro e w5 ⟨rfl, HB, hlt, HR, HT⟩; obtain ⟨c0, c1, _, _⟩ := fourC HT.out; obtain ⟨d0, d1, g0, g1⟩ := fourC HR.out)
 have hB6 : Below w.heap.size w ((w5.setCell ⟨w.heap.size, 0, none⟩ (.int .i64 c)).setCell ⟨w.heap.size, 1, none⟩ (.int .i64 p)) :=
  (HB.out.trans (Below.of_grown (grown_setCell _ _ _) (Nat.le_of_lt hlt) (fun k e => by cases e; exact Nat.le_refl _))).trans (Below.of_grown (grown_setCell _ _ _) (by simp; omega) (fun k e => by cases e; exact Nat.le_refl _))
 exact bodyPost_ret (v := .agg #[.int .i64 c, .int .i64 p]) (by simp [results, Tryz.results15, go_sem, d0, d1, hlt]) rfl ⟨rfl, hB6⟩
end
section
open Go Go.RowKit
structure Said (w w' : World) (TB CB AB : Nat) (code at_ : Int) : Prop where
 os : w'.os = w.os
 tape : w'.tape = w.tape
 output : w'.output = w.output
 size : w.heap.size ≤ w'.heap.size
 block : ∀ k, k < w.heap.size → k ≠ TB → k ≠ CB → k ≠ AB → w'.heap[k]? = w.heap[k]?
 toks : w'.cell? ⟨TB, 0, none⟩ = some (.slice none 0 0)
 code : w'.cell? ⟨CB, 0, none⟩ = some (.int .i64 code)
 at_ : w'.cell? ⟨AB, 0, none⟩ = some (.int .i64 at_)
set_option maxHeartbeats 2000000 in
theorem lexD_panicking (n TB CB AB : Nat) (tv cv av : Value) (code at_ : Int) (w : World) (hg : w.cell? ⟨0, 0, none⟩ = some (.iface 123 (.agg #[.pointer (some ⟨3, 62, none⟩)])))
  (hT : w.cell? ⟨TB, 0, none⟩ = some tv) (hC : w.cell? ⟨CB, 0, none⟩ = some cv) (hA : w.cell? ⟨AB, 0, none⟩ = some av) (fT : w.frozen? ⟨TB, 0, none⟩ = false) (fC : w.frozen? ⟨CB, 0, none⟩ = false) (fA : w.frozen? ⟨AB, 0, none⟩ = false) (h1 : CB = TB + 1) (h2 : AB = TB + 2) :
  CallsDIn Fence.wide n Tryz.prog 14 #[.pointer (some ⟨TB, 0, none⟩), .pointer (some ⟨CB, 0, none⟩), .pointer (some ⟨AB, 0, none⟩)] (.panicking ({ v := .iface 38 (.agg #[.int .i64 code, .int .i64 at_]), recovered := false } :: [])) w fun e u' w' =>
   e = .returned (.tuple #[]) ∧ u' = .panicking ({ v := .iface 38 (.agg #[.int .i64 code, .int .i64 at_]), recovered := true } :: []) ∧ Said w w' TB CB AB code at_ := by
 have HF := faultOf_any code at_ w hg
 refine callsDIn_of_wpSIn Tryz.func14 rfl trivial fun c₀ cs hu => ?_
 apply wpSIn_seq
 apply wpSIn_region
 simp [wpOpsSIn, go_sem, recoverD, hu, Tryz.ntmps14, Exit.thenS]
 refine wpSIn_of_wpIn rfl ?_; refine wpIn_wide.2 ?_; simp only [Array.replicate_succ, Array.replicate_zero, List.push_toArray, List.nil_append, List.cons_append, List.append_toArray, List.setIfInBounds_toArray, List.set_cons_zero, List.set_cons_succ]; go_wp2_with fail; refine HF.mono ?_; rintro e w1 ⟨rfl, hb1⟩; have lT := World.block_lt_of_cell? _ _ hT; have lC := World.block_lt_of_cell? _ _ hC; have lA := World.block_lt_of_cell? _ _ hA; have kT := (hb1.cell lT).trans hT; have kC := (hb1.cell lC).trans hC; have kA := (hb1.cell lA).trans hA; have gT := (hb1.frozen lT).trans fT; have gC := (hb1.frozen lC).trans fC; have gA := (hb1.frozen lA).trans fA; have hsz := hb1.size
 have nT : TB ≠ w1.heap.size := by simp only at lT; omega
 have nC : CB ≠ w1.heap.size := by simp only at lC; omega
 have nA : AB ≠ w1.heap.size := by simp only at lA; omega
 have HB1 : Hid (Below w.heap.size w w1) := hb1
 have HH : Hid (CB = TB + 1 ∧ AB = TB + 2) := ⟨h1, h2⟩
 have n1 : TB ≠ CB := by omega
 have n2 : TB ≠ AB := by omega
 have n3 : CB ≠ AB := by omega
 clear hb1 hT hC hA fT fC fA HF h1 h2 hg; go_wp2_with fail
 obtain ⟨g, eg⟩ : ∃ g, g = w1.heap.size := ⟨_, rfl⟩
 obtain ⟨W1, eW1⟩ : ∃ W1, W1 = w1.alloc (Obj.cells #[Value.int IntKind.i64 code, Value.int IntKind.i64 at_] 38) := ⟨_, rfl⟩
 have hnew := heap_alloc_new w1 (Obj.cells #[Value.int IntKind.i64 code, Value.int IntKind.i64 at_] 38)
 have HB2 : Hid (Below w.heap.size w W1) := by show Below _ _ _; rw [eW1]; exact HB1.out.alloc HB1.out.size _
 have x0 : W1.cell? ⟨g, 0, none⟩ = some (.int .i64 code) := by rw [eW1, eg]; exact cell_of_row _ _ 0 _ _ _ hnew
 have x1 : W1.cell? ⟨g, 1, none⟩ = some (.int .i64 at_) := by rw [eW1, eg]; exact cell_of_row _ _ 1 _ _ _ hnew
 have yT : W1.cell? ⟨TB, 0, none⟩ = some tv := by rw [eW1]; exact Lib.cell?_alloc_marked _ kT
 have yC : W1.cell? ⟨CB, 0, none⟩ = some cv := by rw [eW1]; exact Lib.cell?_alloc_marked _ kC
 have yA : W1.cell? ⟨AB, 0, none⟩ = some av := by rw [eW1]; exact Lib.cell?_alloc_marked _ kA
 have zf : ∀ B : Nat, B < w1.heap.size → W1.frozen? ⟨B, 0, none⟩ = w1.frozen? ⟨B, 0, none⟩ := fun B hB => by rw [eW1]; exact ((Below.refl w1.heap.size w1).alloc (Nat.le_refl _) _).frozen (p := ⟨B, 0, none⟩) hB
 have zT : W1.frozen? ⟨TB, 0, none⟩ = false := (zf TB (by omega)).trans gT; have zC : W1.frozen? ⟨CB, 0, none⟩ = false := (zf CB (by omega)).trans gC; have zA : W1.frozen? ⟨AB, 0, none⟩ = false := (zf AB (by omega)).trans gA; rw [← eg, ← eW1]; rw [← eg] at nT nC nA
 have HSZ : Hid (W1.heap.size = g + 1) := by show _ = _; rw [eW1, eg]; simp
 clear eW1 kT kC kA gT gC gA zf hnew hsz eg HB1
 obtain ⟨V1, eV1⟩ : ∃ V, V = W1.setCell ⟨TB, 0, none⟩ (.slice none 0 0) := ⟨_, rfl⟩
 have far : ∀ (W : World) (B B' o : Nat) (v : Value), B ≠ B' → (W.setCell ⟨B, 0, none⟩ v).cell? ⟨B', o, none⟩ = W.cell? ⟨B', o, none⟩ := fun W B B' o v h => World.cell?_setCell_far W ⟨B, 0, none⟩ ⟨B', o, none⟩ v h
 have s1 := (far W1 TB CB 0 (.slice none 0 0) n1).trans yC; have s2 := (far W1 TB AB 0 (.slice none 0 0) n2).trans yA; have s3 := (far W1 TB g 0 (.slice none 0 0) nT).trans x0; have s4 := (far W1 TB g 1 (.slice none 0 0) nT).trans x1; have s5 := (far (W1.setCell ⟨TB, 0, none⟩ (.slice none 0 0)) CB AB 0 (.int .i64 code) n3).trans s2; have s6 := (far (W1.setCell ⟨TB, 0, none⟩ (.slice none 0 0)) CB g 1 (.int .i64 code) nC).trans s4
 have HFIN : Hid (Said w (((W1.setCell ⟨TB, 0, none⟩ (.slice none 0 0)).setCell ⟨CB, 0, none⟩ (.int .i64 code)).setCell ⟨AB, 0, none⟩ (.int .i64 at_)).drew TB CB AB code at_) := by
  refine ⟨?_, ?_, ?_, by have := HB2.out.size; simp; omega, fun k hk k1 k2 k3 => ?_, ?_, ?_, ?_⟩
  ·exact ((grown_setCell (((W1.setCell ⟨TB, 0, none⟩ (.slice none 0 0)).setCell ⟨CB, 0, none⟩ (.int .i64 code))) ⟨AB, 0, none⟩ (.int .i64 at_)).os.trans ((grown_setCell (W1.setCell ⟨TB, 0, none⟩ (.slice none 0 0)) ⟨CB, 0, none⟩ (.int .i64 code)).os.trans (grown_setCell W1 ⟨TB, 0, none⟩ (.slice none 0 0)).os)).trans HB2.out.os
  ·exact ((grown_setCell (((W1.setCell ⟨TB, 0, none⟩ (.slice none 0 0)).setCell ⟨CB, 0, none⟩ (.int .i64 code))) ⟨AB, 0, none⟩ (.int .i64 at_)).tape.trans ((grown_setCell (W1.setCell ⟨TB, 0, none⟩ (.slice none 0 0)) ⟨CB, 0, none⟩ (.int .i64 code)).tape.trans (grown_setCell W1 ⟨TB, 0, none⟩ (.slice none 0 0)).tape)).trans HB2.out.tape
  ·exact ((grown_setCell (((W1.setCell ⟨TB, 0, none⟩ (.slice none 0 0)).setCell ⟨CB, 0, none⟩ (.int .i64 code))) ⟨AB, 0, none⟩ (.int .i64 at_)).output.trans ((grown_setCell (W1.setCell ⟨TB, 0, none⟩ (.slice none 0 0)) ⟨CB, 0, none⟩ (.int .i64 code)).output.trans (grown_setCell W1 ⟨TB, 0, none⟩ (.slice none 0 0)).output)).trans HB2.out.output
  ·show (((W1.setCell ⟨TB, 0, none⟩ (.slice none 0 0)).setCell ⟨CB, 0, none⟩ (.int .i64 code)).setCell ⟨AB, 0, none⟩ (.int .i64 at_)).heap[k]? = _
   rw [heap_setCell_other _ ⟨AB, 0, none⟩ k _ (fun e => k3 (by simpa using e)), heap_setCell_other _ ⟨CB, 0, none⟩ k _ (fun e => k2 (by simpa using e)), heap_setCell_other _ ⟨TB, 0, none⟩ k _ (fun e => k1 (by simpa using e))]; exact HB2.out.block k hk
  ·show (((W1.setCell ⟨TB, 0, none⟩ (.slice none 0 0)).setCell ⟨CB, 0, none⟩ (.int .i64 code)).setCell ⟨AB, 0, none⟩ (.int .i64 at_)).cell? _ = _
   rw [far _ AB TB 0 _ (Ne.symm n2), far _ CB TB 0 _ (Ne.symm n1)]; exact World.cell?_setCell_same' _ _ _ (by rw [yT]; rfl)
  ·show (((W1.setCell ⟨TB, 0, none⟩ (.slice none 0 0)).setCell ⟨CB, 0, none⟩ (.int .i64 code)).setCell ⟨AB, 0, none⟩ (.int .i64 at_)).cell? _ = _
   rw [far _ AB CB 0 _ (Ne.symm n3)]; exact World.cell?_setCell_same' _ _ _ (by rw [s1]; rfl)
  ·show (((W1.setCell ⟨TB, 0, none⟩ (.slice none 0 0)).setCell ⟨CB, 0, none⟩ (.int .i64 code)).setCell ⟨AB, 0, none⟩ (.int .i64 at_)).cell? _ = _
   exact World.cell?_setCell_same' _ _ _ (by rw [s5]; rfl)
 clear far eV1
 go_region
 exact ⟨rfl, _, rfl, .tuple #[], by simp [results, Tryz.results14, go_sem], rfl, rfl, HFIN.out⟩
theorem lexD_idle (n : Nat) (a b c : Value) (w : World) :
  CallsDIn Fence.wide n Tryz.prog 14 #[a, b, c] .returning w fun e u' w' => e = .returned (.tuple #[]) ∧ u' = .returning ∧ w' = w := by
 refine callsDIn_of_wpSIn Tryz.func14 rfl trivial fun c₀ cs hu => ?_
 apply wpSIn_seq
 apply wpSIn_region
 simp [wpOpsSIn, go_sem, recoverD, hu, Tryz.ntmps14, Exit.thenS]
 refine wpSIn_of_wpIn rfl ?_; refine wpIn_wide.2 ?_; simp only [Array.replicate_succ, Array.replicate_zero, List.push_toArray, List.nil_append, List.cons_append, List.append_toArray, List.setIfInBounds_toArray, List.set_cons_zero, List.set_cons_succ]; go_wp2_with fail
 cases c₀
 simp_all [bodyPostS, results, Tryz.results14]
end
end Go.Proofs.YtfgmenkoeflhaaaGreatDoor
