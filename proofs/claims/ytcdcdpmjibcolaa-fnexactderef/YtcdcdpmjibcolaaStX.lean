/- A heap out of a store. Own work of the verifier. -/
import Derived.Test.YtcdcdpmjibcolaaStW
namespace Go.Proofs.Ytcdcdpmjibcolaa
open Go Go.RowKit Go.Maps
set_option linter.unusedVariables false

theorem wpList_app_run {P : Program} {ops : Array Oper} {rest : List Oper} {o : Oper} {a : Act} {Q : Exit → Act → World → Prop} (hgd : o.guard = none) (s x : Operand) (t u : TypeId)
    (ho : o.op = .call { callee := .builtin .append, args := #[s, x], argTypes := #[t, u] }) (v y r : Value) (w w' : World) (hs : a.eval s = v) (hx : a.eval x = y)
    (hr : (Builtin.append_ #[t, u] o.type #[v, y]).run P w = .ok r w') (h : wpList P ops Q rest (a.put o.dst r) w') : wpList P ops Q (o :: rest) a w :=
  wpList_plain hgd fun _ hK => by
    unfold Oper.wp execOp
    simp only [ho, resolve, invoke, builtin, Sem.run_bind, Sem.run_pure, Result.andThen_ok, List.map_toArray, List.map_cons, List.map_nil, hs, hx, hr]
    exact hK _ _ h
theorem infoWord : (Try.prog.info? 70).map (fun i => (i.zero, i.size, i.bytes)) = some (some .nilIface, 1, 16) := by kernel_rfl
/-- Numbers put onto an empty trail. -/
theorem app_trail (w : World) (ty : TypeId) (q : Option Addr) (c : Nat) (ys : List Int) (hl : ys.length ≤ 20000) (hin : IIn w q ys) :
    ∃ pt ct w1, (Builtin.append_ #[83, 23] ty #[.slice none 0 0, .slice q ys.length c]).run Try.prog w = .ok (.slice pt ys.length ct) w1 ∧ Below w.heap.size w w1 ∧ OwnI w1 w.heap.size 3 pt ys.length ct ys := by
  obtain ⟨i0, hi, hz0, hz1, hz2⟩ := info_parts infoInt
  by_cases hn : 0 < ys.length
  · obtain ⟨g, o, rfl, hc⟩ := hin hn
    obtain ⟨g', cap, w', hr, h2, h3, _, _⟩ := run_append_lies (P := Try.prog) w 83 ty w.heap.size 3 i0 (.int .i64 0) 1 8 Try.underlying83 hi hz0 hz1 hz2 rfl (by decide) (.slice none 0 0) 0 [] (World.ownsRow_nil _ _ _ _) ⟨g, o, none⟩ ys.length c (ys.map (Value.int .i64)) (by simp)
      (fun j u hj => by
        simp only [List.getElem?_map] at hj
        cases hy : ys[j]? with
        | none => rw [hy] at hj; cases hj
        | some y =>
          rw [hy] at hj
          have hlt : j < ys.length := (List.getElem?_eq_some_iff.1 hy).1
          have := hc j hlt
          rw [show (⟨g, o, none⟩ : Addr).add j = ⟨g, o + j, none⟩ from WideShapes.add_plain _ _ _, this]
          simp [List.getD, hy] at hj ⊢
          exact hj) (ints_oneCell .i64 ys) hn (by unfold maxLen; omega) (by omega) (Nat.le_refl _) _ rfl
    have e : (Builtin.append_ #[83, 23] ty #[.slice none 0 0, .slice (some ⟨g, o, none⟩) ys.length c]).run Try.prog w = (Builtin.append_ #[83, 83] ty #[.slice none 0 0, .slice (some ⟨g, o, none⟩) ys.length c]).run Try.prog w := by
      simp [Builtin.append_, run_underlying Try.underlying83, run_underlying Try.underlying23]
    simp only [Nat.zero_add, List.nil_append] at hr h2
    exact ⟨_, _, w', e.trans hr, (Below.refl _ _).grown h3 (Nat.le_refl _) (fun k hk => by cases hk), rfl, h2⟩
  · obtain rfl : ys = [] := by cases ys with | nil => rfl | cons a r => simp at hn
    have hs : Src Try.prog i0.size 23 (.slice q 0 c) 0 [] w := by
      cases q with
      | none => exact Src.ofNil w Try.underlying23 c
      | some ad => exact Src.ofSlice w Try.underlying23 ad 0 c [] (by simp) (fun j u h => by simp at h) (fun u h => by cases h)
    exact ⟨none, 0, w, run_append_nothing w 83 23 ty 3 i0 Try.underlying83 hi none 0 0 (Nat.le_refl _) _ hs, Below.refl _ _, OwnI.nil _ _ _⟩

set_option maxRecDepth 100000 in
theorem push_any (h o : Nat) (q : Option Addr) (c : Nat) (ys : List Int) (w : World) (hl : ys.length ≤ 20000) (hin : IIn w q ys) (h0 : w.cell? ⟨h, o, none⟩ = some (.slice none 0 0)) (hf : w.frozen? ⟨h, o, none⟩ = false) :
    Calls Try.prog 81 #[.pointer (some ⟨h, o, none⟩), .slice q ys.length c] w fun e w' => e = .returned (.tuple #[]) ∧ ∃ pt ct w1, w' = w1.setCell ⟨h, o, none⟩ (.slice pt ys.length ct) ∧ Below w.heap.size w w1 ∧ OwnI w1 w.heap.size 3 pt ys.length ct ys := by
  obtain ⟨pt, ct, w1, hr, hb, hown⟩ := app_trail w 83 q c ys hl hin
  have h1 := (hb.cell (World.block_lt_of_cell? _ _ h0)).trans h0
  have f1 := (hb.frozen (World.block_lt_of_cell? _ _ h0)).trans hf
  have HF : Hid (Below w.heap.size w w1 ∧ OwnI w1 w.heap.size 3 pt ys.length ct ys) := ⟨hb, hown⟩
  clear hb hown hin
  go_enter Try.func81, Try.ntmps81
  go_wp2_with (at_builtin; refine wpList_app_run rfl _ _ _ _ rfl _ _ _ _ _ rfl rfl hr ?_)
  refine bodyPost_end (v := .tuple #[]) (by simp [results, Try.results81, go_sem]) rfl ?_
  exact ⟨rfl, pt, ct, w1, rfl, HF.out⟩

set_option maxRecDepth 100000 in
theorem newHeap_any (w : World) : Calls Try.prog 79 #[] w fun e w' => e = .returned (.pointer (some ⟨w.heap.size + 1, 0, none⟩)) ∧ w' = (w.alloc (.map #[] 0)).alloc (.cells #[.slice none 0 0, .slice none 0 0, .map (some w.heap.size), .int .i64 0] 86) := by
  have hmm := @run_makeMap Try.prog
  have hb : ∀ W, (Instr.build 86 #[(2, .map (some w.heap.size))]).run Try.prog W = .ok (.agg #[.slice none 0 0, .slice none 0 0, .map (some w.heap.size), .int .i64 0]) W := fun W => run_build W 86 _ _ (by kernel_rfl)
  go_enter Try.func79, Try.ntmps79
  go_wp2
  go_ret
  exact ⟨by simp, rfl⟩

/-- Block h is a heap that is being filled. -/
def Bld (W : World) (h : Nat) (p : Option Addr) (k c : Nat) (vs : List Value) : Prop :=
  W.cell? ⟨h, 0, none⟩ = some (.slice p k c) ∧ W.frozen? ⟨h, 0, none⟩ = false ∧ W.cell? ⟨h, 1, none⟩ = some (.slice none 0 0) ∧ W.frozen? ⟨h, 1, none⟩ = false ∧ W.ownsRow (h + 1) 70 1 (.slice p k c) k vs
theorem Bld.lt {W : World} {h : Nat} {p : Option Addr} {k c : Nat} {vs : List Value} (B : Bld W h p k c vs) : h < W.heap.size := World.block_lt_of_cell? _ _ B.1
theorem Bld.below {W W' : World} {h : Nat} {p : Option Addr} {k c : Nat} {vs : List Value} (B : Bld W h p k c vs) (hb : Below W.heap.size W W') : Bld W' h p k c vs := by
  have hl := B.lt
  exact ⟨(hb.cell (p := ⟨h, 0, none⟩) hl).trans B.1, (hb.frozen (p := ⟨h, 0, none⟩) hl).trans B.2.1, (hb.cell (p := ⟨h, 1, none⟩) hl).trans B.2.2.1, (hb.frozen (p := ⟨h, 1, none⟩) hl).trans B.2.2.2.1, row_below B.2.2.2.2 hb⟩
/-- A word is put behind the others. -/
theorem Bld.put {W W' : World} {h g : Nat} {p : Option Addr} {k c c' : Nat} {vs : List Value} {v : Value} (B : Bld W h p k c vs) (hown : W'.ownsRow (h + 1) 70 1 (.slice (some ⟨g, 0, none⟩) (k + 1) c') (k + 1) (vs ++ [v])) (hg : W.grownBy W' (Value.ownBlock (.slice p k c))) :
    Bld (W'.setCell ⟨h, 0, none⟩ (.slice (some ⟨g, 0, none⟩) (k + 1) c')) h (some ⟨g, 0, none⟩) (k + 1) c' (vs ++ [v]) := by
  have hl := B.lt
  have hne : ∀ b, Value.ownBlock (.slice p k c) = some b → h ≠ b := fun b e => by have := (B.2.2.2.2.lt b e).1; omega
  have hgg := (hown.lt g rfl).1
  have hb : W'.heap[h]? = W.heap[h]? := hg.block h hl (fun e => hne h e.symm rfl)
  have c0 := (World.cell?_of_block (a := ⟨h, 0, none⟩) hb).trans B.1
  have c1 := (World.cell?_of_block (a := ⟨h, 1, none⟩) hb).trans B.2.2.1
  have f0 := (World.frozen?_of_block (a := ⟨h, 0, none⟩) hb).trans B.2.1
  have f1 := (World.frozen?_of_block (a := ⟨h, 1, none⟩) hb).trans B.2.2.2.1
  exact ⟨World.cell?_setCell_same _ _ _ (by rw [c0]), by rw [World.frozen?_setCell]; exact f0, (World.cell?_setCell_other _ _ _ _ (by simp)).trans c1, by rw [World.frozen?_setCell]; exact f1, ownsRow_setCell_other hown (by simp [Value.ownBlock]; omega) _⟩

end Go.Proofs.Ytcdcdpmjibcolaa
