/- Texts of VarF, PtB, RegE. Own work of the verifier. -/
import Derived.Test.YtedkkghekboahaaUqaq
import Derived.Test.YtedkkghekboahaaUqaw
import Derived.Test.YtedkkghekboahaaUqaf
import Derived.Test.YtedkkghekboahaaUqar
import Derived.Test.YtedkkghekboahaaUqav
namespace Go.Proofs.Ytedkkghekboahaa
open Go Go.RowKit Go.Maps
set_option linter.unusedVariables false

theorem infoVar : (Try.prog.info? 120).map (fun i => (i.zero, i.size, i.bytes)) = some (some (.int .i64 0), 1, 8) := by kernel_rfl
/-- What a visit of a cell makes of the list of variables. -/
def visitL (ks : List Int) (c : Cel) : List Int := if c.1 = 0 then putV ks c.2.1 else ks
theorem noVar_num (w : World) (x : Value) : (Instr.typeAssert (.iface 121 x) 80 120 true).run Try.prog w = .ok (.tuple #[.int .i64 0, .bool false]) w := by kernel_rfl
theorem noVar_atom (w : World) (x : Value) : (Instr.typeAssert (.iface 122 x) 80 120 true).run Try.prog w = .ok (.tuple #[.int .i64 0, .bool false]) w := by kernel_rfl
theorem noVar_comp (w : World) (x : Value) : (Instr.typeAssert (.iface 158 x) 80 120 true).run Try.prog w = .ok (.tuple #[.int .i64 0, .bool false]) w := by kernel_rfl
theorem isVar (w : World) (x : Value) : (Instr.typeAssert (.iface 120 x) 80 120 true).run Try.prog w = .ok (.tuple #[x, .bool true]) w := by kernel_rfl
theorem noComp_var (w : World) (x : Value) : (Instr.typeAssert (.iface 120 x) 80 158 true).run Try.prog w = .ok (.tuple #[.pointer none, .bool false]) w := by kernel_rfl
theorem noComp_num (w : World) (x : Value) : (Instr.typeAssert (.iface 121 x) 80 158 true).run Try.prog w = .ok (.tuple #[.pointer none, .bool false]) w := by kernel_rfl
theorem noComp_atom (w : World) (x : Value) : (Instr.typeAssert (.iface 122 x) 80 158 true).run Try.prog w = .ok (.tuple #[.pointer none, .bool false]) w := by kernel_rfl
theorem isComp (w : World) (x : Value) : (Instr.typeAssert (.iface 158 x) 80 158 true).run Try.prog w = .ok (.tuple #[x, .bool true]) w := by kernel_rfl
theorem blk_app {wc w2 : World} {X : Obj} {row : Option Nat} (h : (wc.alloc X).grownBy w2 row) {k : Nat} (h1 : k < wc.heap.size) (h2 : some k ≠ row) : w2.heap[k]? = wc.heap[k]? :=
  (h.block k (by simp; omega) h2).trans (Below.heap_alloc wc _ k h1)
theorem argsLeaf_any (t : TypeId) (x : Value) (w : World) (ht : t = 120 ∨ t = 121 ∨ t = 122) :
    Calls Try.prog 118 #[.iface t x] w fun e w' => e = .returned (.slice none 0 0) ∧ w' = w := by
  have n1 := noComp_var
  have n2 := noComp_num
  have n3 := noComp_atom
  rcases ht with rfl | rfl | rfl
  all_goals
    go_enter Try.func118, Try.ntmps118
    go_wp2_with fail
    go_ret
    exact ⟨rfl, rfl⟩
theorem argsComp_any (b g q : Nat) (w : World) (h : w.cell? ⟨b, 1, none⟩ = some (.slice (some ⟨g, 0, none⟩) q q)) :
    Calls Try.prog 118 #[.iface 158 (.pointer (some ⟨b, 0, none⟩))] w fun e w' => e = .returned (.slice (some ⟨g, 0, none⟩) q q) ∧ w' = w := by
  have n1 := isComp
  go_enter Try.func118, Try.ntmps118
  go_wp2_with fail
  go_ret
  exact ⟨rfl, rfl⟩
def visits (ks : List Int) (cs : List Cel) : List Int := cs.foldl visitL ks
theorem putV_len (ks : List Int) (x : Int) : (putV ks x).length ≤ ks.length + 1 := by unfold putV; split <;> simp
theorem visitL_len (ks : List Int) (c : Cel) : (visitL ks c).length ≤ ks.length + 1 := by unfold visitL; split; exact putV_len _ _; omega
theorem visits_len : ∀ (cs : List Cel) (ks : List Int), (visits ks cs).length ≤ ks.length + cs.length
  | [], ks => by simp [visits]
  | c :: r, ks => by have := visits_len r (visitL ks c); have := visitL_len ks c; simp only [visits, List.foldl_cons, List.length_cons] at *; omega
theorem visits_append (ks : List Int) (a b : List Cel) : visits ks (a ++ b) = visits (visits ks a) b := by simp [visits]
theorem visits_cons (ks : List Int) (c : Cel) (b : List Cel) : visits ks (c :: b) = visits (visitL ks c) b := rfl
def findI (ks : List Int) (x : Int) : Int := if x ∈ ks then (ks.idxOf x : Nat) else -1
theorem mem_getD {ks : List Int} {i : Nat} (h : i < ks.length) : ks.getD i 0 ∈ ks := by simp [List.getD, h]
theorem idxOf_le : ∀ (ks : List Int) (j : Nat) (x : Int), j < ks.length → ks.getD j 0 = x → ks.idxOf x ≤ j
  | [], j, x, h, _ => by simp at h
  | a :: r, 0, x, _, e => by
    have e : a = x := by simpa using e
    simp [e]
  | a :: r, j + 1, x, h, e => by
    have := idxOf_le r j x (by simpa using h) (by simpa using e)
    rw [List.idxOf_cons]
    cases a == x
    · simp; omega
    · simp
theorem find_at {ks : List Int} {x : Int} {j : Nat} (hj : j < ks.length) (h : ∀ i, i < j → ks.getD i 0 ≠ x) (e : ks.getD j 0 = x) : findI ks x = j := by
  have hm : x ∈ ks := e ▸ mem_getD hj
  have hlt := List.idxOf_lt_length_of_mem hm
  have hat : ks.getD (ks.idxOf x) 0 = x := by simp [List.getD, hlt]
  rw [findI, if_pos hm]
  have h1 : ¬ ks.idxOf x < j := fun hl => h _ hl hat
  have h2 : ks.idxOf x ≤ j := idxOf_le ks j x hj e
  omega
theorem find_none {ks : List Int} {x : Int} (h : ∀ i, i < ks.length → ks.getD i 0 ≠ x) : findI ks x = -1 := by
  rw [findI, if_neg]
  intro hm
  have hlt := List.idxOf_lt_length_of_mem hm
  exact h _ hlt (by simp [List.getD, hlt])
theorem l2find_any (p : Option Addr) (n c : Nat) (ks : List Int) (x : Int) (w : World) (hn : n = ks.length) (hl : n ≤ 1000000) (hin : IIn w p ks) :
    Calls Try.prog 107 #[.slice p n c, .int .i64 x] w fun e w' => e = .returned (.int .i64 (findI ks x)) ∧ w' = w := by
  have HI : Hid (IIn w p ks) := hin
  have HN : Hid (n = ks.length) := hn
  clear hin hn
  go_enter Try.func107, Try.ntmps107
  go_wp2_with fail
  go_loop [5] (fun i => ∃ j : Nat, j ≤ n ∧ i = .int .i64 j ∧ Hid (∀ i, i < j → ks.getD i 0 ≠ x)) (fun i => n - (intOf i).toNat)
  case atStart => exact ⟨0, Nat.zero_le _, rfl, fun _ h => absurd h (Nat.not_lt_zero _)⟩
  case round =>
    obtain ⟨j, hj, rfl, HF⟩ := hrel
    by_cases hlt : j < n
    · have hjl : j < ks.length := by rw [← HN.out]; exact hlt
      obtain ⟨b, o, rfl, hc⟩ := HI.out (by omega)
      have hx := hc j hjl
      obtain ⟨y, ey⟩ : ∃ y, y = ks.getD j 0 := ⟨_, rfl⟩
      rw [← ey] at hx
      have HY : Hid (y = ks.getD j 0) := ey
      clear hc ey
      by_cases he : y = x
      · have he' : (y == x) = true := by simpa using he
        have HE : Hid (y = x) := he
        clear he
        go_wp2_with fail
        go_ret
        exact ⟨ret_int (find_at hjl HF.out (by rw [← HY.out]; exact HE.out)).symm, rfl⟩
      · have he' : (y == x) = false := by simpa using he
        have HE : Hid (y ≠ x) := he
        clear he
        go_wp2_with fail
        go_round
        case rel => exact ⟨j + 1, by omega, by go_num, fun i hi => by
          by_cases e : i = j
          · subst e; rw [← HY.out]; exact HE.out
          · exact HF.out i (by omega)⟩
        case measure => simp [intOf]; omega
    · obtain rfl : j = n := by omega
      go_wp2_with fail
      go_ret
      exact ⟨ret_int (find_none (by rw [← HN.out]; exact HF.out)).symm, rfl⟩
theorem visits_take (cs : List Cel) (j : Nat) (h : j < cs.length) (ks : List Int) : visits ks (cs.take (j + 1)) = visitL (visits ks (cs.take j)) (cs.getD j Cel.none) := by
  rw [List.take_succ_eq_append_getElem h, visits_append, List.getD, List.getElem?_eq_getElem h]; rfl

end Go.Proofs.Ytedkkghekboahaa

namespace Go.Proofs.Ytedkkghekboahaa
open Go Go.RowKit Go.Maps
set_option linter.unusedVariables false

/-- All blocks but the heap's, the map's and rows of words stay. -/
def FrP (h mf : Nat) (w w' : World) : Prop := w.heap.size ≤ w'.heap.size ∧ ∀ k, k < w.heap.size → k ≠ h → k ≠ mf → (∀ cur, w.heap[k]? ≠ some (.cells cur 70 (0, 0))) → w'.heap[k]? = w.heap[k]?
theorem FrP.refl (h mf : Nat) (w : World) : FrP h mf w w := ⟨Nat.le_refl _, fun _ _ _ _ _ => rfl⟩
theorem FrP.trans {h mf : Nat} {w w1 w2 : World} (a : FrP h mf w w1) (b : FrP h mf w1 w2) : FrP h mf w w2 := ⟨Nat.le_trans a.1 b.1, fun k hk h1 h2 h3 => by
  have e := a.2 k hk h1 h2 h3
  exact (b.2 k (Nat.lt_of_lt_of_le hk a.1) h1 h2 (fun cur => by rw [e]; exact h3 cur)).trans e⟩
theorem FrP.of_below {h mf : Nat} {w w' : World} (hb : Below w.heap.size w w') : FrP h mf w w' := ⟨hb.size, fun k hk _ _ _ => hb.block k hk⟩
/-- A box that holds no words stays. -/
theorem FrP.box {h mf : Nat} {w w' : World} (f : FrP h mf w w') {k : Nat} {cs : Array Value} {t : TypeId} (hk : w.heap[k]? = some (.cells cs t)) (h1 : k ≠ h) (h2 : k ≠ mf) (ht : t ≠ 70) : w'.heap[k]? = some (.cells cs t) :=
  (f.2 k (Array.getElem?_eq_some_iff.1 hk).1 h1 h2 (fun cur e => by rw [hk] at e; simp at e; exact ht e.2)).trans hk
section
variable {B0 Bt Z h m mf N : Nat} {lk : Int} {W0 : World} {tr : List Int} {V : List Value} {E : PSt} {pw : Option Addr} {cw : Nat} {W W' : World}
theorem PSo.growF (H : PSo B0 Bt Z h m mf N lk W0 tr V E pw cw W) (hg : W.grownBy W' (Value.ownBlock (.slice pw V.length cw))) (v : Value) : FrP h mf W (W'.setCell ⟨h, 0, none⟩ v) := by
  refine ⟨by simpa using hg.size, fun k hk h1 h2 h3 => ?_⟩
  rw [heap_setCell_other _ _ _ _ h1]
  exact hg.block k hk (fun e => by obtain ⟨_, _, cur, hc⟩ := row_type H.2.1 e.symm; exact h3 cur hc)
theorem PSo.setF {g : Nat} (H : PSo B0 Bt Z h m mf N lk W0 tr V E (some ⟨g, 0, none⟩) cw W) (j : Nat) (v : Value) : FrP h mf W (W.setCell ⟨g, j, none⟩ v) := by
  refine ⟨by simp, fun k hk h1 h2 h3 => ?_⟩
  obtain ⟨_, _, cur, hc⟩ := row_type H.2.1 (g := g) rfl
  exact heap_setCell_other _ _ _ _ (fun e => h3 cur (by simp at e; rw [e]; exact hc))
theorem noteF {h mf : Nat} (hg : W.grownBy W' (some mf)) : FrP h mf W W' := ⟨hg.size, fun k hk h1 h2 h3 => hg.block k hk (fun e => h2 (Option.some.inj e))⟩
/-- The tree's cells are where they were. -/
theorem PS.tree (H : PS B0 Bt Z h m mf N lk W0 tr V E W) {b o : Nat} {v : Value} (h1 : Bt ≤ b) (h2 : b < Z) (hc : W0.cell? ⟨b, o, none⟩ = some v) : W.cell? ⟨b, o, none⟩ = some v := by
  obtain ⟨pw, cw, H⟩ := H
  obtain ⟨_, _, _, _, _, _, h7, _⟩ := H
  have := h7 b h1 h2
  simpa [World.cell?, this] using hc
end
theorem look_mapv : ∀ (E : PSt) (x : Int), look (E.map fun e => (e.1, Value.int .i64 e.2)) x = (look E x).map (Value.int .i64)
  | [], x => rfl
  | y :: r, x => by
    have := look_mapv r x
    by_cases h : y.1 = x
    · simp [look, h]
    · simp [look, h, this]
theorem zeroRefK (w : World) : (zeroValue 100).run Try.prog w = .ok (.int .i64 0) w := by kernel_rfl
/-- What keep answers. -/
def keptA (E : PSt) (x a : Int) : Int := match look E x with | some u => u | none => a
def keptE (E : PSt) (x a : Int) : PSt := match look E x with | some _ => E | none => E ++ [(x, a)]
set_option maxRecDepth 100000 in
theorem keepR_any (b N : Nat) (E : PSt) (x a : Int) (w : World) (h0 : 0 ≤ x) (h1 : x ≤ 1000000) (hN : N ≤ 1000000) (hm : VMap w b N (E.map fun e => (e.1, .int .i64 e.2))) :
    Calls Try.prog 113 #[.map (some b), .int .i64 x, .int .i64 a] w fun e w' => e = .returned (.int .i64 (keptA E x a)) ∧ VMap w' b (N + 1) ((keptE E x a).map fun e => (e.1, .int .i64 e.2)) ∧ w.grownBy w' (some b) := by
  have hlk := hm.look (t := 111) Try.underlying111 (zeroRefK w) x h0 h1
  rw [look_mapv] at hlk
  cases hl : look E x with
  | none =>
    obtain ⟨w', hrun, hm', hg⟩ := hm.put (t := 111) Try.underlying111 hN x h0 h1 (.int .i64 a)
    rw [putE_new _ (by rw [look_mapv, hl]; rfl)] at hm'
    rw [hl] at hlk
    simp only [Option.map_none, Option.isSome_none] at hlk
    have HF : Hid (VMap w' b (N + 1) ((keptE E x a).map fun e => (e.1, .int .i64 e.2)) ∧ w.grownBy w' (some b)) := by
      refine ⟨?_, hg⟩
      unfold keptE
      rw [hl]
      simpa using hm'
    have hA : keptA E x a = a := by unfold keptA; rw [hl]
    rw [hA]
    clear hl hm hm' hg hA
    go_enter Try.func113, Try.ntmps113
    go_wp2
    go_ret
    exact ⟨rfl, HF.out⟩
  | some u =>
    rw [hl] at hlk
    simp only [Option.map_some, Option.isSome_some] at hlk
    have HF : Hid (VMap w b (N + 1) ((keptE E x a).map fun e => (e.1, .int .i64 e.2)) ∧ w.grownBy w (some b)) := by
      unfold keptE
      rw [hl]
      exact ⟨hm.mono (by omega), ⟨rfl, rfl, rfl, Nat.le_refl _, fun _ _ _ => rfl⟩⟩
    have hA : keptA E x a = u := by unfold keptA; rw [hl]
    rw [hA]
    clear hl hm hA
    go_enter Try.func113, Try.ntmps113
    go_wp2
    go_ret
    exact ⟨rfl, HF.out⟩
theorem FoIn.split {w : World} {B : Nat} : ∀ (x y : Fo) (vs : List Value), FoIn w B (x.cat y) vs → ∃ v1 v2, vs = v1 ++ v2 ∧ FoIn w B x v1 ∧ FoIn w B y v2
  | .nil, y, vs, h => ⟨[], vs, rfl, rfl, h⟩
  | .node c k r, y, vs, ⟨v, vr, e, hn, hr⟩ => by
    obtain ⟨v1, v2, rfl, h1, h2⟩ := FoIn.split r y vr hr
    exact ⟨v :: v1, v2, by rw [e]; rfl, ⟨v, v1, rfl, hn, h1⟩, h2⟩
/-- The next tree of a forest. -/
theorem fo_next {F : Fo} {j : Nat} (hj : j < F.count) : ∃ (x : Fo) (c : Cel) (k r : Fo), F = x.cat (.node c k r) ∧ x.count = j := by
  obtain ⟨x, y, rfl, hx⟩ := Fo.parted j F (by omega)
  cases y with
  | nil => rw [Fo.cat_nil] at hj; omega
  | node c k r => exact ⟨x, c, k, r, rfl, hx⟩
theorem exec_app {a : Act} {o : Oper} {s x : Operand} {t u : TypeId} {w w' : World} {v y r : Value} (ho : o.op = .call { callee := .builtin .append, args := #[s, x], argTypes := #[t, u] }) (hs : a.eval s = v) (hx : a.eval x = y)
    (hr : (Builtin.append_ #[t, u] o.type #[v, y]).run Try.prog w = .ok r w') : (execOp a.eval o).run Try.prog w = .ok (.value r) w' := by
  unfold execOp
  simp only [ho, resolve, invoke, builtin, Sem.run_bind, Sem.run_pure, Result.andThen_ok, List.map_toArray, List.map_cons, List.map_nil, hs, hx, hr]
/-- append of one word, as a run. -/
theorem run_app_word (w : World) (ty : TypeId) (B : Nat) (p : Option Addr) (n c : Nat) (V : List Value) (b c' : Nat) (v : Value) (hown : w.ownsRow B 70 1 (.slice p n c) n V) (hv : w.cell? ⟨b, 0, none⟩ = some v) (h1 : v.oneCell' = true) (hl : n + 1 ≤ 1000000000) (hB : B ≤ w.heap.size) :
    ∃ g cap w', (Builtin.append_ #[89, 89] ty #[.slice p n c, .slice (some ⟨b, 0, none⟩) 1 c']).run Try.prog w = .ok (.slice (some ⟨g, 0, none⟩) (n + 1) cap) w' ∧ w'.ownsRow B 70 1 (.slice (some ⟨g, 0, none⟩) (n + 1) cap) (n + 1) (V ++ [v]) ∧ w.grownBy w' (Value.ownBlock (.slice p n c)) ∧ (Value.ownBlock (.slice p n c) = some g ∨ g = w.heap.size) := by
  obtain ⟨i0, hi, hz0, hz1, hz2⟩ := info_parts infoWord
  obtain ⟨g, cap, w', hr, h2, h3, h4, _⟩ := run_append_lies (P := Try.prog) w 89 ty B 70 i0 .nilIface 1 16 Try.underlying89 hi hz0 hz1 hz2 rfl (by decide) (.slice p n c) n V hown ⟨b, 0, none⟩ 1 c' [v] rfl
    (fun j u hj => by
      cases j with
      | zero => simp at hj; subst hj; rw [Addr.add_lit]; exact hv
      | succ j => simp at hj) (fun u hu => by rw [List.mem_singleton.1 hu]; exact h1) (by decide) (by unfold maxLen; omega) (by omega) hB _ rfl
  exact ⟨g, cap, w', hr, h2, h3, h4⟩

end Go.Proofs.Ytedkkghekboahaa

namespace Go.Proofs.Ytedkkghekboahaa
open Go
/-- All that is ahead of p leads to p; p + 1 waits for p; nobody waits for a later one. -/
def tailB (md : Region.Mode) (ops : Array Oper) (p : Nat) : Bool :=
  decide (ops.size = p + 2) && ((List.range ops.size).all fun i => ((ops[i]?).map (·.after.all fun e => !Region.binds md e || decide (e.on < i))).getD true) &&
  ((List.range p).all fun j => (List.range (p + 1)).any fun i => decide (j < i) && ((ops[i]?).map (·.after.any fun e => Region.binds md e && decide (e.on = j))).getD false) &&
  ((ops[p + 1]?).map (·.after.any fun e => Region.binds md e && decide (e.on = p))).getD false
section
variable {P : Program} {ops : Array Oper} {Q : Exit → Act → World → Prop} {md : Region.Mode} {S : World → Prop}
theorem tailB_parts {p : Nat} (hb : tailB md ops p = true) : ops.size = p + 2 ∧ (∀ i o, ops[i]? = some o → ∀ e ∈ o.after, Region.binds md e = true → e.on < i) ∧ (∀ j, j < p → ∃ i o, j < i ∧ i ≤ p ∧ ops[i]? = some o ∧ ∃ e ∈ o.after, Region.binds md e = true ∧ e.on = j) ∧ ∃ o, ops[p + 1]? = some o ∧ ∃ e ∈ o.after, Region.binds md e = true ∧ e.on = p := by
  simp only [tailB, Bool.and_eq_true, decide_eq_true_eq] at hb
  obtain ⟨⟨⟨h1, h2⟩, h3⟩, h4⟩ := hb
  have hany : ∀ (i j : Nat), ((ops[i]?).map (·.after.any fun e => Region.binds md e && decide (e.on = j))).getD false = true → ∃ o, ops[i]? = some o ∧ ∃ e ∈ o.after, Region.binds md e = true ∧ e.on = j := fun i j h => by
    cases ho : ops[i]? with
    | none => rw [ho] at h; cases h
    | some o =>
      rw [ho] at h
      simp only [Option.map_some, Option.getD_some, Array.any_eq_true'] at h
      obtain ⟨e, he, h⟩ := h
      rw [Bool.and_eq_true, decide_eq_true_eq] at h
      exact ⟨o, rfl, e, he, h.1, h.2⟩
  refine ⟨h1, fun i o ho e he hbd => ?_, fun j hj => ?_, hany _ _ h4⟩
  · have hi : i < ops.size := (Array.getElem?_eq_some_iff.1 ho).1
    have := List.all_eq_true.1 h2 i (by simpa using hi)
    rw [ho] at this
    simp only [Option.map_some, Option.getD_some, Array.all_eq_true'] at this
    have := this e he
    rw [hbd] at this
    simpa using this
  · have := List.all_eq_true.1 h3 j (by simpa using hj)
    rw [List.any_eq_true] at this
    obtain ⟨i, hi, h⟩ := this
    rw [Bool.and_eq_true, decide_eq_true_eq] at h
    obtain ⟨o, ho, he⟩ := hany _ _ h.2
    exact ⟨i, o, h.1, by have := List.mem_range.1 hi; omega, ho, he⟩
/-- What is listed has listed what it waits for. -/
def Clo (md : Region.Mode) (ops : Array Oper) (L : Array Bool) : Prop := ∀ i o, ops[i]? = some o → L.getD i false = true → ∀ e ∈ o.after, Region.binds md e = true → L.getD e.on false = true
theorem clo_start (md : Region.Mode) (ops : Array Oper) (n : Nat) : Clo md ops (Array.replicate n false) := fun i o _ h => by
  exfalso
  by_cases hi : i < n <;> simp [hi] at h
theorem Clo.set {L : Array Bool} (h : Clo md ops L) {i : Nat} (hi : i ∈ Region.ready md ops L) : Clo md ops (L.setIfInBounds i true) := fun j o ho hj e he hbd => by
  by_cases e1 : i = j
  · subst e1
    obtain ⟨_, o', ho', hall⟩ := mem_ready.1 hi
    rw [ho] at ho'
    cases ho'
    exact getD_set_true (hall e he hbd)
  · rw [getD_set_ne false e1] at hj
    exact getD_set_true (h j o ho hj e he hbd)
/-- As long as one is not listed, one may come up. -/
theorem ready_some2 (h2 : ∀ i o, ops[i]? = some o → ∀ e ∈ o.after, Region.binds md e = true → e.on < i) {L : Array Bool} (hs : L.size = ops.size) : ∀ (k : Nat), k < ops.size → L.getD k true = false → ∃ i, i ∈ Region.ready md ops L := by
  intro k
  induction k using Nat.strongRecOn with
  | ind k ih =>
    intro hk hu
    obtain ⟨o, ho⟩ : ∃ o, ops[k]? = some o := ⟨ops[k], by simp [hk]⟩
    by_cases hall : ∀ e ∈ o.after, Region.binds md e = true → L.getD e.on false = true
    · exact ⟨k, mem_ready.2 ⟨hu, o, ho, hall⟩⟩
    · obtain ⟨e, he⟩ := Classical.not_forall.1 hall
      obtain ⟨he1, he2⟩ := Classical.not_imp.1 he
      obtain ⟨hbd, hf⟩ := Classical.not_imp.1 he2
      have hlt := h2 k o ho e he1 hbd
      refine ih e.on hlt (by omega) ?_
      rw [getD_two (by omega)]
      simpa using hf
/-- One step: p with p + 1 behind it, or another. -/
theorem wpAny_tail_step {p : Nat} (hb : tailB md ops p = true) {L : Array Bool} {a : Act} {w : World} (hs : L.size = ops.size) (hc : Clo md ops L) (hp : L.getD p true = false) (hq : L.getD (p + 1) true = false) (f : Nat)
    (H : wpAnyH P md ops (RestQ Q (wpOp P ops Q p (wpOp P ops Q (p + 1) (Q .normal)))) S f ((L.setIfInBounds p true).setIfInBounds (p + 1) true) a w)
    (hother : ∀ i, i ∈ Region.ready md ops L → i ≠ p → i ≠ p + 1 → i ∈ Region.ready md ops ((L.setIfInBounds p true).setIfInBounds (p + 1) true) → wpOp P ops Q i (wpAny P md ops Q (f + 1) (L.setIfInBounds i true)) a w) : wpAny P md ops Q (f + 2) L a w := by
  obtain ⟨h1, h2, h3, oq, hoq, eq, heq, hbq, honq⟩ := tailB_parts hb
  refine ⟨fun h0 => ?_, fun i hi => ?_⟩
  · obtain ⟨i, hi⟩ := ready_some2 h2 hs p (by omega) hp
    rw [h0] at hi; cases hi
  · have hiq : i ≠ p + 1 := fun e => by
      subst e
      obtain ⟨_, o, ho, hall⟩ := mem_ready.1 hi
      rw [hoq] at ho
      cases ho
      have := hall eq heq hbq
      rw [honq, ← getD_two (by omega), hp] at this
      cases this
    by_cases e : i = p
    · subst e
      -- all others are listed
      obtain ⟨_, oi, hoi, hall⟩ := mem_ready.1 hi
      have hlisted : ∀ d j, i - j ≤ d → j < i → L.getD j false = true := by
        intro d
        induction d with
        | zero => intro j hd hj; omega
        | succ d ihd =>
          intro j hd hj
          obtain ⟨k, ok, hk1, hk2, hok, e', he', hbd, hon⟩ := h3 j hj
          by_cases ek : k = i
          · subst ek
            rw [hoi] at hok
            cases hok
            rw [← hon]; exact hall e' he' hbd
          · rw [← hon]
            exact hc k ok hok (ihd k (by omega) (by omega)) e' he' hbd
      have hrL : Region.ready md ops ((L.setIfInBounds i true).setIfInBounds (i + 1) true) = [] := by
        rw [List.eq_nil_iff_forall_not_mem]
        intro j hj
        obtain ⟨hu, oj, hoj, _⟩ := mem_ready.1 hj
        have hjl : j < ops.size := (Array.getElem?_eq_some_iff.1 hoj).1
        by_cases e1 : i + 1 = j
        · subst e1
          have : i + 1 < L.size := by omega
          simp [this] at hu
        · rw [getD_set_ne true e1] at hu
          by_cases e2 : i = j
          · subst e2
            have : i < L.size := by omega
            simp [this] at hu
          · rw [getD_set_ne true e2, getD_two (by omega), hlisted (i - j) j (Nat.le_refl _) (by omega)] at hu
            cases hu
      have hR : wpOp P ops Q i (wpOp P ops Q (i + 1) (Q .normal)) a w := by
        cases f with
        | zero => exact H.2
        | succ f => exact H.1 hrL
      refine wpOp_mono (fun a' w' h' => ?_) hR
      refine ⟨fun h0 => ?_, fun j hj => ?_⟩
      · obtain ⟨k, hk⟩ := ready_some2 h2 (L := L.setIfInBounds i true) (by simpa using hs) (i + 1) (by omega) (by rw [getD_set_ne true (by omega)]; exact hq)
        rw [h0] at hk; cases hk
      · obtain rfl : j = i + 1 := by
          obtain ⟨hu, oj, hoj, _⟩ := mem_ready.1 hj
          have hjl : j < ops.size := (Array.getElem?_eq_some_iff.1 hoj).1
          by_cases e2 : i = j
          · subst e2
            have : i < L.size := by omega
            simp [this] at hu
          · by_cases e3 : j < i
            · rw [getD_set_ne true e2, getD_two (by omega), hlisted (i - j) j (Nat.le_refl _) e3] at hu
              cases hu
            · omega
        exact wpOp_mono (fun a'' w'' h'' => wpAny_done hrL h'' f) h'
    · exact hother i hi e hiq (ready_mono (ready_mono hi e) hiq)
theorem wpAny_tail {p : Nat} (hb : tailB md ops p = true) : ∀ (f : Nat) (L : Array Bool) (a : Act) (w : World), L.size = ops.size → Clo md ops L → L.getD p true = false → L.getD (p + 1) true = false →
    wpAnyH P md ops (RestQ Q (wpOp P ops Q p (wpOp P ops Q (p + 1) (Q .normal)))) S f ((L.setIfInBounds p true).setIfInBounds (p + 1) true) a w → wpAny P md ops Q (f + 2) L a w := by
  obtain ⟨h1, h2, h3, oq, hoq, eq, heq, hbq, honq⟩ := tailB_parts hb
  intro f
  induction f with
  | zero =>
    intro L a w hs hc hp hq H
    exact wpAny_tail_step hb hs hc hp hq 0 H (fun i hi hne hnq hr => by
      rw [H.1] at hr; cases hr)
  | succ f ih =>
    intro L a w hs hc hp hq H
    exact wpAny_tail_step hb hs hc hp hq (f + 1) H (fun i hi hne hnq hr => by
      refine wpOp_mono (fun a' w' h' => ?_) (wpOp_rest (H.2 i hr))
      refine ih (L.setIfInBounds i true) a' w' (by simpa using hs) (hc.set hi) (by rw [getD_set_ne true hne]; exact hp) (by rw [getD_set_ne true hnq]; exact hq) ?_
      have h9 := h'.2
      rw [Array.setIfInBounds_comm _ _ (fun x => hnq x.symm), Array.setIfInBounds_comm _ _ (fun x => hne x.symm)] at h9
      exact h9)
theorem op_valT {i : Nat} {o : Oper} {a : Act} {w w' : World} {v : Value} {K : Act → World → Prop} (hi : ops[i]? = some o) (hg : o.guard = none) (hr : (execOp a.eval o).run P w = .ok (.value v) w') (h : K (a.put o.dst v) w') : wpOp P ops Q i K a w := by
  have hw : Region.wanted o (yielded ops a.tmps) = true := by simp [Region.wanted, hg]
  unfold wpOp
  simp only [hi, hw, if_true]
  refine .inl ?_
  unfold Oper.wp
  rw [hr]
  exact h
theorem tail_call {p q : Nat} {o : Oper} {f : FuncId} {args : Array Value} {R : Ending → World → Prop} {a : Act} {w : World} (hi : ops[p]? = some o) (hg : o.guard = none) (hrun : (execOp a.eval o).run P w = .ok (.enter f args) w) (hC : Calls P f args w R)
    (hK : ∀ u w', R (.returned u) w' → wpOp P ops Q q (Q .normal) (a.put o.dst u) w') (hP : ∀ ch w', ¬ R (.panicked ch) w') (hO : ∀ w', ¬ R .outgrown w') : RestQ Q (wpOp P ops Q p (wpOp P ops Q q (Q .normal))) .normal a w := by
  have hw : Region.wanted o (yielded ops a.tmps) = true := by simp [Region.wanted, hg]
  show wpOp P ops Q p (wpOp P ops Q q (Q .normal)) a w
  unfold wpOp
  simp only [hi, hw, if_true, Oper.wp, hrun, Oper.upon]
  refine .inl (Calls.mono hC fun e w' he => ?_)
  cases e with
  | returned u => exact hK u w' he
  | panicked ch => exact absurd he (hP ch w')
  | outgrown => exact absurd he (hO w')
end
end Go.Proofs.Ytedkkghekboahaa

