/- Texts of ErrIs, NbB, NbI. Own work of the verifier. -/
import Derived.Test.YtemohfhblpejmaaDoorUqaa
import Derived.LaidEql
import Derived.Stop.Asserts
import Derived.RowKitTokens
import Derived.Test.YtemohfhblpejmaaDoorUqar
namespace Go.Proofs.YtemohfhblpejmaaDoor
open Go Go.RowKit Go.Extern
set_option linter.unusedVariables false

theorem eiTypeOf (v : Value) (w : World) : (Extern.ReflectliteType.typeOf #[.iface 142 v]).run Tryd.prog w = .ok (.iface 125 (.agg #[.pointer (some ⟨2, 142, none⟩)])) w := by kernel_rfl
theorem eiFind : (Extern.find Tryd.f120).isSome = true := by kernel_rfl
theorem eiComparable (w : World) : (((Extern.find Tryd.f120).get eiFind) #[.agg #[.pointer (some ⟨2, 142, none⟩)]]).run Tryd.prog w = .ok (.bool true) w := by kernel_rfl
theorem eiCall (w : World) : (callFunc 120 #[.agg #[.pointer (some ⟨2, 142, none⟩)]]).run Tryd.prog w = .ok (.value (.bool true)) w := by
  rw [run_callFunc_extern Tryd.func120 (by kernel_rfl) (by kernel_rfl) (by kernel_rfl) (Option.some_get eiFind).symm, eiComparable]
  rfl
theorem eiMethod (v : Value) (w : World) : (Go.method 280 125 v "Comparable").run Tryd.prog w = .ok (120, v) w := by kernel_rfl
theorem eiComp : (Tryd.prog.info? 142).map (·.comparable) = some true := by kernel_rfl
theorem eiSize : (Tryd.prog.info? 168).map (·.size) = some 1 := by kernel_rfl
theorem eiNoIs (v : Value) (xT : TypeId) (w : World) : (Instr.typeAssert (.iface 142 v) xT 127 true).run Tryd.prog w = .ok (.tuple #[.nilIface, .bool false]) w := run_typeAssert_lacksB Tryd.underlying127 (by kernel_rfl) (by kernel_rfl) v xT w
theorem eiNoUnwrap (v : Value) (xT : TypeId) (w : World) : (Instr.typeAssert (.iface 142 v) xT 130 true).run Tryd.prog w = .ok (.tuple #[.nilIface, .bool false]) w := run_typeAssert_lacksB Tryd.underlying130 (by kernel_rfl) (by kernel_rfl) v xT w
theorem eiNoUnwraps (v : Value) (xT : TypeId) (w : World) : (Instr.typeAssert (.iface 142 v) xT 132 true).run Tryd.prog w = .ok (.tuple #[.nilIface, .bool false]) w := run_typeAssert_lacksB Tryd.underlying132 (by kernel_rfl) (by kernel_rfl) v xT w

theorem is_same (a : Addr) (w : World) :
    Calls Tryd.prog 62 #[.iface 142 (.pointer (some a)), .iface 142 (.pointer (some a))] w fun e w' => e = .returned (.bool true) ∧ w' = w := by
  obtain ⟨i, hi, hcmp⟩ := Option.map_eq_some_iff.1 eiComp
  obtain ⟨j, hj, hjs⟩ := Option.map_eq_some_iff.1 eiSize
  have h8 := @run_callFunc_extern Tryd.prog 80 _ Extern.ReflectliteType.typeOf Tryd.func80 (by kernel_rfl) (by kernel_rfl) (by kernel_rfl) (by kernel_rfl)
  have tT := eiTypeOf
  have cT := eiCall
  have mR := eiMethod
  have heq := run_eql_iface_ptr_same (P := Tryd.prog) w a Tryd.underlying42 Tryd.underlying142 hi hcmp hj
  go_enter Tryd.func62, Tryd.ntmps62
  go_wp2
  refine wp_loop_rounds 1 ?_
  rw [rounds_succ]
  go_wp2
  go_ret
  exact ⟨rfl, rfl⟩

theorem is_other (a b : Addr) (ca cb : Array Value) (ta tb : TypeId) (w : World) (hne : a ≠ b) (ha : w.heap[a.block]? = some (.cells ca ta (0, 0))) (hb : w.heap[b.block]? = some (.cells cb tb (0, 0))) :
    Calls Tryd.prog 62 #[.iface 142 (.pointer (some a)), .iface 142 (.pointer (some b))] w fun e w' => e = .returned (.bool false) ∧ w' = w := by
  obtain ⟨i, hi, hcmp⟩ := Option.map_eq_some_iff.1 eiComp
  obtain ⟨j, hj, hjs⟩ := Option.map_eq_some_iff.1 eiSize
  have h8 := @run_callFunc_extern Tryd.prog 80 _ Extern.ReflectliteType.typeOf Tryd.func80 (by kernel_rfl) (by kernel_rfl) (by kernel_rfl) (by kernel_rfl)
  have tT := eiTypeOf
  have cT := eiCall
  have mR := eiMethod
  have nE := eiNoIs
  have uE := eiNoUnwrap
  have vE := eiNoUnwraps
  have heq := run_eql_iface_ptr_other (P := Tryd.prog) w Tryd.underlying42 Tryd.underlying142 hi hcmp hj (by rw [hjs]; decide) hne ha hb
  go_enter Tryd.func62, Tryd.ntmps62
  go_wp2
  refine wp_loop_rounds 1 ?_
  rw [rounds_succ]
  go_wp2
  go_ret
  exact ⟨rfl, rfl⟩

end Go.Proofs.YtemohfhblpejmaaDoor

namespace Go.Proofs.YtemohfhblpejmaaDoor
open Go Go.RowKit
set_option linter.unusedVariables false

theorem normal_all (a : Addr) : ∀ M, NormOk a M := by
  intro M
  induction M using Nat.strongRecOn with
  | ind M ih =>
    intro c k v Bt w0 w hM hok hfo hg hw
    have hfo0 := hfo
    obtain ⟨v', vr, e, hnode, _⟩ := hfo
    obtain ⟨rfl, rfl⟩ := List.cons.inj e
    have hg' := (hw.cell (World.block_lt_of_cell? _ _ hg)).trans hg
    have hcl := hok.1
    rcases hnode with ⟨h0, rfl⟩ | ⟨h0, rfl⟩ | ⟨h0, rfl⟩ | ⟨h0, b, g, vs, rfl, hcomp⟩
    · have hk : k = .nil := hok.2.2.2.1 (by rw [h0]; decide)
      obtain ⟨c0, c1, c2⟩ := c
      simp only at h0 hcl
      subst h0 hk
      have e2 : c2 = [] := by simp [cellB] at hcl; exact hcl.2.2
      subst e2
      exact normal_var c1 a w0 w hw.size
    · have hk : k = .nil := hok.2.2.2.1 (by rw [h0]; decide)
      obtain ⟨c0, c1, c2⟩ := c
      simp only at h0 hcl
      subst h0 hk
      have e2 : c2 = [] := by simp [cellB] at hcl; exact hcl.2.2
      subst e2
      exact normal_num c1 a w0 w hg'
    · have hk : k = .nil := hok.2.2.2.1 (by rw [h0]; decide)
      obtain ⟨c0, c1, c2⟩ := c
      simp only at h0 hcl
      subst h0 hk
      have e2 : c1 = 0 := by simp [cellB] at hcl; exact hcl.2
      subst e2
      exact normal_atom c2 hok.2.1 (by simp [cellB] at hcl; omega) a w0 w hg'
    · obtain ⟨c0, c1, c2⟩ := c
      simp only at h0
      subst h0
      exact normal_comp c2 c1 k b g vs a Bt w0 w (fun m hm => ih m (by omega)) hok hcomp hg hw

/-- What NormalBody answers: cells, and a code. -/
def normR (cs : List Cel) (G : Option Fo) : List Cel × Int :=
  match G with
  | none => ([], 4)
  | some G => if G.cells.length ≤ 2000 then (G.cells, 0) else ([], 3)
def NbRes (w : World) (r : List Cel × Int) (e : Ending) (w' : World) : Prop :=
  ∃ q m c2, e = .returned (.tuple #[.slice q m c2, .int .i64 r.2]) ∧ OwnC w' w.heap.size q m c2 r.1 ∧ Below w.heap.size w w'

theorem codeOf_fail (a : Addr) (w : World) (hg : w.cell? ⟨1, 0, none⟩ = some (efV a)) : Calls Tryd.prog 45 #[efV a] w fun e w' => e = .returned (.int .i64 4) ∧ w' = w := by
  have HI := fun W => is_same a W
  go_enter Tryd.func45, Tryd.ntmps45
  go_wp2_with (go_at_call 62; refine (HI _).mono ?_; rintro e w' ⟨rfl, rfl⟩)
  go_ret
  exact ⟨rfl, rfl⟩
theorem codeOf_limit (a a2 : Addr) (ca cb : Array Value) (ta tb : TypeId) (w : World) (hne : a2 ≠ a) (hg : w.cell? ⟨1, 0, none⟩ = some (efV a)) (ha : w.heap[a2.block]? = some (.cells ca ta (0, 0))) (hb : w.heap[a.block]? = some (.cells cb tb (0, 0))) : Calls Tryd.prog 45 #[efV a2] w fun e w' => e = .returned (.int .i64 3) ∧ w' = w := by
  have HI := is_other a2 a ca cb ta tb w hne ha hb
  clear ha hb hne
  go_enter Tryd.func45, Tryd.ntmps45
  go_wp2_with (go_at_call 62; refine HI.mono ?_; rintro e w' ⟨rfl, rfl⟩)
  go_ret
  exact ⟨rfl, rfl⟩
theorem tooLong_any (c : Cel) (k : Fo) (v : Value) (w : World) (hok : (Fo.node c k .nil).ok) (hfo : FoIn w 0 (.node c k .nil) [v]) (hl : k.cells.length ≤ 10000) :
    Calls Tryd.prog 63 #[v] w fun e w' => e = .returned (.bool (decide (2000 < k.cells.length + 1))) ∧ Below w.heap.size w w' := by
  have HC := cellsOf_any c k v 0 w hok hfo hl
  obtain ⟨t, x, rfl⟩ := hfo.iface
  obtain ⟨L, eL⟩ : ∃ L, L = k.cells.length + 1 := ⟨_, rfl⟩
  have HL : Hid (L = (c :: k.cells).length) := by rw [eL]; rfl
  rw [← eL]
  have hLl : L ≤ 10001 := by omega
  clear hok hfo hl eL
  go_enter Tryd.func63, Tryd.ntmps63
  go_wp2_with fail
  refine HC.mono ?_
  rintro e w1 ⟨p, n, cp, rfl, ho, hb⟩
  have hn : n = L := by rw [ho.1, HL.out]
  subst hn
  have HB : Hid (Below w.heap.size w w1) := hb
  clear ho hb HC
  go_wp2_with fail
  go_ret
  exact ⟨ret_bool (by rw [Bool.eq_iff_iff]; simp; omega), HB.out⟩

end Go.Proofs.YtemohfhblpejmaaDoor

namespace Go.Proofs.YtemohfhblpejmaaDoor
open Go Go.RowKit
set_option linter.unusedVariables false

/-- The two errors lie as they were laid. -/
structure ErrAt (w : World) (a a2 : Addr) : Prop where
  fail : w.cell? ⟨1, 0, none⟩ = some (efV a)
  beyond : w.cell? ⟨0, 0, none⟩ = some (efV a2)
  ne : a2 ≠ a
  ba : ∃ ca ta, w.heap[a.block]? = some (.cells ca ta (0, 0))
  bb : ∃ ca ta, w.heap[a2.block]? = some (.cells ca ta (0, 0))
theorem lt_of_block {w : World} {b : Nat} {o : Obj} (h : w.heap[b]? = some o) : b < w.heap.size := by
  rcases Nat.lt_or_ge b w.heap.size with h1 | h1
  · exact h1
  · rw [Array.getElem?_eq_none h1] at h; cases h
theorem ErrAt.below {w w' : World} {a a2 : Addr} (h : ErrAt w a a2) (hb : Below w.heap.size w w') : ErrAt w' a a2 := by
  obtain ⟨ca, ta, h3⟩ := h.ba
  obtain ⟨cb, tb, h4⟩ := h.bb
  exact ⟨(hb.cell (World.block_lt_of_cell? _ _ h.fail)).trans h.fail, (hb.cell (World.block_lt_of_cell? _ _ h.beyond)).trans h.beyond, h.ne, ⟨ca, ta, (hb.block _ (lt_of_block h3)).trans h3⟩, ⟨cb, tb, (hb.block _ (lt_of_block h4)).trans h4⟩⟩
theorem codeBeyond {w : World} {a a2 : Addr} (h : ErrAt w a a2) : Calls Tryd.prog 45 #[efV a2] w fun e w' => e = .returned (.int .i64 3) ∧ w' = w := by
  obtain ⟨ca, ta, h3⟩ := h.ba
  obtain ⟨cb, tb, h4⟩ := h.bb
  exact codeOf_limit a a2 cb ca tb ta w h.ne h.fail h4 h3
/-- kept hands an error on. -/
theorem kept_err (a : Addr) (w : World) : Calls Tryd.prog 47 #[.nilIface, efV a] w fun e w' => e = .returned (.tuple #[.nilIface, efV a]) ∧ w' = w := by
  go_enter Tryd.func47, Tryd.ntmps47
  go_wp2_with fail
  go_ret2
  exact ⟨rfl, rfl⟩
theorem kept_tree (c : Cel) (k : Fo) (v : Value) (a a2 : Addr) (w : World) (hok : (Fo.node c k .nil).ok) (hfo : FoIn w 0 (.node c k .nil) [v]) (hl : k.cells.length ≤ 10000) (he : ErrAt w a a2) :
    Calls Tryd.prog 47 #[v, .nilIface] w fun e w' => e = .returned (.tuple #[v, if k.cells.length + 1 ≤ 2000 then .nilIface else efV a2]) ∧ Below w.heap.size w w' := by
  have HT := tooLong_any c k v w hok hfo hl
  obtain ⟨t, x, rfl⟩ := hfo.iface
  have HE : Hid (ErrAt w a a2) := he
  clear hok hfo hl he
  by_cases hs : k.cells.length + 1 ≤ 2000
  · have e1 : decide (2000 < k.cells.length + 1) = false := by simp; omega
    rw [e1] at HT
    rw [if_pos hs]
    clear e1 hs
    go_enter Tryd.func47, Tryd.ntmps47
    go_wp2_with fail
    refine HT.mono ?_
    rintro e w1 ⟨rfl, hb⟩
    have HB : Hid (Below w.heap.size w w1) := hb
    clear hb HT
    go_wp2_with fail
    go_ret2
    exact ⟨rfl, HB.out⟩
  · have e1 : decide (2000 < k.cells.length + 1) = true := by simp; omega
    rw [e1] at HT
    rw [if_neg hs]
    clear e1 hs
    go_enter Tryd.func47, Tryd.ntmps47
    go_wp2_with fail
    refine HT.mono ?_
    rintro e w1 ⟨rfl, hb⟩
    have HB : Hid (Below w.heap.size w w1) := hb
    have hc := (HE.out.below hb).beyond
    clear hb HT
    go_wp2_with fail
    go_ret2
    exact ⟨rfl, HB.out⟩
/-- What normalBody answers. -/
def NbMid (w : World) (a a2 : Addr) (G : Option Fo) (e : Ending) (w' : World) : Prop :=
  Below w.heap.size w w' ∧ match G with
    | none => e = .returned (.tuple #[.nilIface, efV a])
    | some G => ∃ v, FoIn w' 0 G [v] ∧ e = .returned (.tuple #[v, if G.cells.length ≤ 2000 then .nilIface else efV a2])
theorem normalBody_any (c : Cel) (k : Fo) (v : Value) (Bt : Nat) (a a2 : Addr) (w0 w : World) (hok : (Fo.node c k .nil).ok) (hfo : FoIn w0 Bt (.node c k .nil) [v]) (hw : Below w0.heap.size w0 w) (hl : k.cells.length ≤ 2000) (he : ErrAt w0 a a2) :
    Calls Tryd.prog 20 #[v] w (NbMid w a a2 (normT c k)) := by
  have HN := normal_all a k.cells.length c k v Bt w0 w (Nat.le_refl _) hok hfo he.fail hw
  have HE : Hid (ErrAt w a a2) := he.below hw
  obtain ⟨t, x, rfl⟩ := hfo.iface
  cases hn : normT c k with
  | none =>
    rw [hn] at HN
    clear hok hfo hw hl he hn
    go_enter Tryd.func20, Tryd.ntmps20
    go_wp2_with fail
    refine HN.mono ?_
    rintro e w1 hout
    obtain ⟨hb, rfl⟩ := hout
    have HB : Hid (Below w.heap.size w w1) := hb
    have HK := kept_err a w1
    clear hb HN
    go_wp2_with fail
    refine HK.mono ?_
    rintro e w2 ⟨rfl, rfl⟩
    go_wp2_with fail
    go_ret2
    exact ⟨HB.out, rfl⟩
  | some G =>
    rw [hn] at HN
    obtain ⟨c', k', rfl, hok', hl'⟩ := normT_ok hn hok
    have HK : Hid ((Fo.node c' k' .nil).ok ∧ k'.cells.length ≤ 10000) := ⟨hok', by simp [Fo.cells] at hl'; omega⟩
    clear hok hfo hw he hn hok' hl' hl
    go_enter Tryd.func20, Tryd.ntmps20
    go_wp2_with fail
    refine HN.mono ?_
    rintro e w1 hout
    obtain ⟨hb, v1, rfl, hfo1⟩ := hout
    have HB : Hid (Below w.heap.size w w1) := hb
    have HF : Hid (FoIn w1 0 (.node c' k' .nil) [v1]) := hfo1.foIn
    have HKT := kept_tree c' k' v1 a a2 w1 HK.out.1 HF.out HK.out.2 (HE.out.below hb)
    obtain ⟨t1, x1, rfl⟩ := HF.out.iface
    obtain ⟨ev, eev⟩ : ∃ ev, ev = (if k'.cells.length + 1 ≤ 2000 then Value.nilIface else efV a2) := ⟨_, rfl⟩
    have hev : ev = .nilIface ∨ ev = efV a2 := by rw [eev]; split <;> simp
    have HEV : Hid (ev = (if (Fo.node c' k' .nil).cells.length ≤ 2000 then Value.nilIface else efV a2)) := by show _ = _; rw [eev]; simp [Fo.cells]
    rw [← eev] at HKT
    clear hb HN hfo1 eev
    go_wp2_with fail
    refine HKT.mono ?_
    rintro e w2 ⟨rfl, hb2⟩
    have HF2 : Hid (FoIn w2 0 (.node c' k' .nil) [.iface t1 x1]) := HF.out.below hb2
    have HB2 : Hid (Below w.heap.size w w2) := Below.on HB.out hb2
    clear hb2 HKT
    rcases hev with rfl | rfl
    all_goals
      go_wp2_with fail
      go_ret2
      refine ⟨HB2.out, _, HF2.out, ?_⟩
      rw [← HEV.out]
      rfl
theorem answered_err (a a2 : Addr) (ev : Value) (v : Value) (w : World) (he : ErrAt w a a2) (b : Bool) (hev : ev = if b then efV a else efV a2) (hv : v = .nilIface ∨ ∃ t x, v = .iface t x) :
    Calls Tryd.prog 19 #[v, ev] w fun e w' => e = .returned (.tuple #[.slice none 0 0, .int .i64 (if b then 4 else 3)]) ∧ w' = w := by
  cases b with
  | true =>
    simp only [if_true] at hev ⊢
    subst hev
    have HC := codeOf_fail a w he.fail
    clear he
    rcases hv with rfl | ⟨t, x, rfl⟩
    all_goals
      go_enter Tryd.func19, Tryd.ntmps19
      go_wp2_with fail
      refine HC.mono ?_
      rintro e w' ⟨rfl, rfl⟩
      go_wp2_with fail
      go_ret2
      exact ⟨rfl, rfl⟩
  | false =>
    simp only [Bool.false_eq_true, if_false] at hev ⊢
    subst hev
    have HC := codeBeyond he
    clear he
    rcases hv with rfl | ⟨t, x, rfl⟩
    all_goals
      go_enter Tryd.func19, Tryd.ntmps19
      go_wp2_with fail
      refine HC.mono ?_
      rintro e w' ⟨rfl, rfl⟩
      go_wp2_with fail
      go_ret2
      exact ⟨rfl, rfl⟩
theorem answered_tree (c : Cel) (k : Fo) (v : Value) (w : World) (hok : (Fo.node c k .nil).ok) (hfo : FoIn w 0 (.node c k .nil) [v]) (hl : k.cells.length ≤ 10000) :
    Calls Tryd.prog 19 #[v, .nilIface] w (NbRes w (c :: k.cells, 0)) := by
  have HC := cellsOf_any c k v 0 w hok hfo hl
  obtain ⟨t, x, rfl⟩ := hfo.iface
  clear hok hfo hl
  go_enter Tryd.func19, Tryd.ntmps19
  go_wp2_with fail
  refine HC.mono ?_
  rintro e w' ⟨p, n, cp, rfl, ho, hb⟩
  have HF : Hid (NbRes w (c :: k.cells, 0) (.returned (.tuple #[.slice p n cp, .int .i64 0])) w') := ⟨p, n, cp, rfl, ho, hb⟩
  clear ho hb HC
  go_wp2_with fail
  go_ret2
  exact HF.out

/-- What NormalBody answers, of any cells. -/
def normalR (cs : List Cel) (r : List Cel × Int) : Prop :=
  if validB cs = true then ∃ c k, cs = c :: k.cells ∧ (Fo.node c k .nil).ok ∧ cs.length ≤ 2000 ∧ r = normR cs (normT c k) else r = ([], 1)
theorem NbRes.on {w w1 : World} {r : List Cel × Int} {e : Ending} {w' : World} (h : NbRes w1 r e w') (hb : Below w.heap.size w w1) : NbRes w r e w' := by
  obtain ⟨q, m, c2, h1, h2, h3⟩ := h
  exact ⟨q, m, c2, h1, h2.mono hb.size, Below.on hb h3⟩
set_option maxRecDepth 100000 in
theorem implNormal_any (cs : List Cel) (p : Option Addr) (n cap : Nat) (a a2 : Addr) (w : World) (hn : n = cs.length) (hc : n ≤ cap) (hm : cap ≤ 1000000000) (hcb : ∀ i, i < cs.length → Byte (cs.getD i Cel.none).2.2) (hin : CIn w p cs) (he : ErrAt w a a2) (r : List Cel × Int) (hr : normalR cs r) :
    Calls Tryd.prog 8 #[.slice p n cap] w (NbRes w r) := by
  have HV : Calls Tryd.prog 18 #[.slice p n cap] w fun e w' => e = .returned (.bool (validB cs)) ∧ Below w.heap.size w w' := by rw [hn]; exact implValid_any p cap cs w (by omega) hin
  unfold normalR at hr
  cases hv : validB cs with
  | false =>
    rw [hv] at HV hr
    rw [if_neg (by decide)] at hr
    subst hr
    clear hin he hcb hn hc hm hv
    go_enter Tryd.func8, Tryd.ntmps8
    go_wp2_with fail
    refine HV.mono ?_
    rintro e w1 ⟨rfl, hb⟩
    have HF : Hid (NbRes w ([], 1) (.returned (.tuple #[.slice none 0 0, .int .i64 1])) w1) := ⟨none, 0, 0, rfl, OwnC.nil _ _, hb⟩
    clear hb HV
    go_wp2_with fail
    go_ret2
    exact HF.out
  | true =>
    rw [hv] at HV hr
    rw [if_pos rfl] at hr
    obtain ⟨c, k, ec, hok, hl, hre⟩ := hr
    have HRE : Hid (r = normR cs (normT c k)) := hre
    have HT : Hid (∀ W, Below w.heap.size w W → Calls Tryd.prog 21 #[.slice p n cap] W fun e w' => ∃ v, e = .returned v ∧ FoIn w' W.heap.size (.node c k .nil) [v] ∧ Below W.heap.size W w') := fun W hW => termOf_any c k p n cap W hok (by rw [hn, ec]; simp) hc hm (by have := hin.below hW; rwa [ec] at this)
    have HOK : Hid ((Fo.node c k .nil).ok ∧ k.cells.length ≤ 2000) := ⟨hok, by rw [ec] at hl; simp at hl; omega⟩
    have HE : Hid (ErrAt w a a2) := he
    clear hin hcb hn hc hm hv ec hok hl he hre
    go_enter Tryd.func8, Tryd.ntmps8
    go_wp2_with fail
    refine HV.mono ?_
    rintro e w1 ⟨rfl, hb⟩
    have HB1 : Hid (Below w.heap.size w w1) := hb
    have HT1 := HT.out w1 hb
    clear hb HV HT
    go_wp2_with fail
    refine HT1.mono ?_
    rintro e w2 ⟨v2, rfl, hf2, hb2⟩
    have HB2 : Hid (Below w.heap.size w w2) := Below.on HB1.out hb2
    have HN := normalBody_any c k v2 w1.heap.size a a2 w2 w2 HOK.out.1 hf2 (Below.refl _ _) HOK.out.2 (HE.out.below HB2.out)
    obtain ⟨t2, x2, rfl⟩ := hf2.iface
    clear hb2 HT1 hf2
    cases hnt : normT c k with
    | none =>
      rw [hnt] at HN
      have HRR : Hid (r = ([], 4)) := by show _ = _; rw [HRE.out, hnt]; rfl
      clear hnt
      go_wp2_with fail
      refine HN.mono ?_
      rintro e w3 hout
      obtain ⟨hb3, rfl⟩ := hout
      have HB3 : Hid (Below w.heap.size w w3) := Below.on HB2.out hb3
      have HA := answered_err a a2 (efV a) .nilIface w3 (HE.out.below HB3.out) true rfl (.inl rfl)
      clear hb3 HN
      go_wp2_with fail
      refine HA.mono ?_
      rintro e w4 ⟨rfl, rfl⟩
      go_wp2_with fail
      go_ret2
      rw [HRR.out]
      exact ⟨none, 0, 0, rfl, OwnC.nil _ _, HB3.out⟩
    | some G =>
      rw [hnt] at HN
      obtain ⟨c', k', rfl, hok', hl'⟩ := normT_ok hnt HOK.out.1
      have hl2 : k'.cells.length ≤ 10000 := by have := HOK.out.2; simp [Fo.cells] at hl'; omega
      have HK : Hid ((Fo.node c' k' .nil).ok ∧ k'.cells.length ≤ 10000) := ⟨hok', hl2⟩
      have hcl : (Fo.node c' k' .nil).cells = c' :: k'.cells := by simp [Fo.cells]
      have HRE2 : Hid (r = normR cs (some (.node c' k' .nil))) := by show _ = _; rw [HRE.out, hnt]
      clear hnt hok' hl' hl2
      by_cases hs : (Fo.node c' k' .nil).cells.length ≤ 2000
      · have HRR : Hid (r = (c' :: k'.cells, 0)) := by show _ = _; rw [HRE2.out]; unfold normR; simp only; rw [if_pos hs, hcl]
        go_wp2_with fail
        refine HN.mono ?_
        rintro e w3 hout
        obtain ⟨hb3, v3, hf3, rfl⟩ := hout
        rw [if_pos hs]
        have HB3 : Hid (Below w.heap.size w w3) := Below.on HB2.out hb3
        have HA := answered_tree c' k' v3 w3 HK.out.1 hf3 HK.out.2
        obtain ⟨t3, x3, rfl⟩ := hf3.iface
        clear hb3 HN hf3 hs hcl
        go_wp2_with fail
        refine HA.mono ?_
        rintro e w4 hout
        have HR := hout.on HB3.out
        obtain ⟨q, m, c2, rfl, ho, hb⟩ := HR
        have HF : Hid (NbRes w (c' :: k'.cells, 0) (.returned (.tuple #[.slice q m c2, .int .i64 0])) w4) := ⟨q, m, c2, rfl, ho, hb⟩
        clear hout ho hb HA
        go_wp2_with fail
        go_ret2
        rw [HRR.out]
        exact HF.out
      · have HRR : Hid (r = ([], 3)) := by show _ = _; rw [HRE2.out]; unfold normR; simp only; rw [if_neg hs]
        go_wp2_with fail
        refine HN.mono ?_
        rintro e w3 hout
        obtain ⟨hb3, v3, hf3, rfl⟩ := hout
        rw [if_neg hs]
        have HB3 : Hid (Below w.heap.size w w3) := Below.on HB2.out hb3
        obtain ⟨t3, x3, rfl⟩ := hf3.iface
        have HA := answered_err a a2 (efV a2) (.iface t3 x3) w3 (HE.out.below HB3.out) false rfl (.inr ⟨t3, x3, rfl⟩)
        clear hb3 HN hf3 hs hcl
        go_wp2_with fail
        refine HA.mono ?_
        rintro e w4 ⟨rfl, rfl⟩
        go_wp2_with fail
        go_ret2
        rw [HRR.out]
        exact ⟨none, 0, 0, rfl, OwnC.nil _ _, HB3.out⟩

end Go.Proofs.YtemohfhblpejmaaDoor

