/- Texts of FunG, IntG, VarF, Vars1. Own work of the verifier. -/
import Derived.Test.YtpigjapbhbdhbaaGreatDoorUqag
import Derived.Test.YtpigjapbhbdhbaaGreatDoorUqab
import Derived.Deep.AppendLies
namespace Go.Proofs.YtpigjapbhbdhbaaGreatDoor
open Go Go.RowKit
set_option linter.unusedVariables false
theorem isAtom (w : World) (x : Value) : (Instr.typeAssert (.iface 107 x) 45 107 true).run Tryz.prog w = .ok (.tuple #[x, .bool true]) w := by kernel_rfl
set_option maxRecDepth 100000 in
theorem functor_any (b g q : Nat) (str : ByteArray) (w : World) (h0 : w.cell? ⟨b, 0, none⟩ = some (.string str)) (h1 : w.cell? ⟨b, 1, none⟩ = some (.slice (some ⟨g, 0, none⟩) q q)) :
    Calls Tryz.prog 136 #[.pointer (some ⟨b, 0, none⟩)] w fun e w' => e = .returned (.agg #[.string str, .int .i64 q]) ∧ Below w.heap.size w w' := by
  have a0 : ∀ x, (w.alloc x).cell? ⟨b, 0, none⟩ = some (.string str) := fun x => Lib.cell?_alloc_marked x h0
  have a1 : ∀ x, (w.alloc x).cell? ⟨b, 1, none⟩ = some (.slice (some ⟨g, 0, none⟩) q q) := fun x => Lib.cell?_alloc_marked x h1
  go_enter Tryz.func136, Tryz.ntmps136
  go_wp2_with fail
  go_region
  all_goals go_wp2_with fail
  all_goals exact bodyPost_ret (v := .agg #[.string str, .int .i64 q]) (by simp [results, Tryz.results136, go_sem]) rfl ⟨rfl, ((Below.refl _ _).alloc (Nat.le_refl _) _).drew⟩
end Go.Proofs.YtpigjapbhbdhbaaGreatDoor

namespace Go.Proofs.YtpigjapbhbdhbaaGreatDoor
open Go Go.RowKit Go.Maps
set_option linter.unusedVariables false
theorem infoInt : (Tryz.prog.info? 3).map (fun i => (i.zero, i.size, i.bytes)) = some (some (.int .i64 0), 1, 8) := by kernel_rfl
def OwnI (w : World) (B : Nat) (t : TypeId) (p : Option Addr) (n c : Nat) (zs : List Int) : Prop := n = zs.length ∧ w.ownsRow B t 1 (.slice p n c) n (zs.map (Value.int .i64))
def IIn (w : World) (p : Option Addr) (zs : List Int) : Prop := 0 < zs.length → ∃ b o, p = some ⟨b, o, none⟩ ∧ ∀ i, i < zs.length → w.cell? ⟨b, o + i, none⟩ = some (.int .i64 (zs.getD i 0))
theorem OwnI.iin {w : World} {B : Nat} {t : TypeId} {p : Option Addr} {n c : Nat} {zs : List Int} (h : OwnI w B t p n c zs) : IIn w p zs := fun hn => by
  obtain ⟨rfl, hr⟩ := h
  obtain ⟨g, cap, hv, hb, hg⟩ := hr.form hn
  simp only [Value.slice.injEq, true_and] at hv
  obtain ⟨rfl, rfl⟩ := hv
  exact ⟨g, 0, rfl, fun i hi => by rw [Nat.zero_add, hr.cellAt i (by omega)]; simp [List.getD, hi]⟩
theorem IIn.below {W W' : World} {p : Option Addr} {zs : List Int} (h : IIn W p zs) (hb : Below W.heap.size W W') : IIn W' p zs := fun hn => by
  obtain ⟨b, o, rfl, hc⟩ := h hn
  exact ⟨b, o, rfl, fun i hi => (hb.cell (World.block_lt_of_cell? _ _ (hc i hi))).trans (hc i hi)⟩
theorem OwnI.nil (w : World) (B : Nat) (t : TypeId) : OwnI w B t none 0 0 [] := ⟨rfl, World.ownsRow_nil _ _ _ _⟩
theorem OwnI.below {w w' : World} {B : Nat} {t : TypeId} {p : Option Addr} {n c : Nat} {zs : List Int} (h : OwnI w B t p n c zs) (hb : Below w.heap.size w w') : OwnI w' B t p n c zs := ⟨h.1, row_below h.2 hb⟩
theorem OwnI.mono {w : World} {B B' : Nat} {t : TypeId} {p : Option Addr} {n c : Nat} {zs : List Int} (h : OwnI w B t p n c zs) (hB : B' ≤ B) : OwnI w B' t p n c zs := ⟨h.1, ownsRow_down h.2 hB⟩
theorem app_int (w : World) {ops : Array Oper} {rest : List Oper} {o : Oper} {a : Act} {Q : Exit → Act → World → Prop} (hgd : o.guard = none) (s x : Operand)
    (ho : o.op = .call { callee := .builtin .append, args := #[s, x], argTypes := #[24, 24] }) (B : Nat) (p : Option Addr) (n c : Nat) (ys : List Int) (z : Int)
    (hs : a.eval s = .slice p n c) (hown : OwnI w B 3 p n c ys) (hx : a.eval x = .slice (some ⟨w.heap.size, 0, none⟩) 1 1)
    (hlen : n + 1 ≤ 1000000000) (hbase : B ≤ w.heap.size)
    (h : ∀ g n' cap w', OwnI w' B 3 (some ⟨g, 0, none⟩) n' cap (ys ++ [z]) → Below B (w.alloc (.cells #[.int .i64 z] 3)) w' → Hid (n' = n + 1) → wpList Tryz.prog ops Q rest (a.put o.dst (.slice (some ⟨g, 0, none⟩) n' cap)) w') : wpList Tryz.prog ops Q (o :: rest) a (w.alloc (.cells #[.int .i64 z] 3)) := by
  obtain ⟨i0, hi, hz0, hz1, hz2⟩ := info_parts infoInt
  refine wpList_append_lies _ hgd s x 24 ho B 3 i0 (.int .i64 0) 1 8 Tryz.underlying24 hi hz0 hz1 hz2 rfl (by decide) (.slice p n c) n (ys.map (Value.int .i64)) hs (hown.2.alloc _) ⟨w.heap.size, 0, none⟩ 1 1 [.int .i64 z] hx rfl (cell_one_new _ _ _) (ints_oneCell .i64 [z]) (by decide) (by unfold maxLen; omega) (by omega) (by simp; omega) _ rfl ?_
  intro g cap w' hown' hgrow hat hlt
  refine h g _ cap w' ⟨by have := hown.1; simp; omega, by rw [List.map_append]; exact hown'⟩ ((Below.refl _ _).grown hgrow (by simp; omega) (fun k hk => (hown.2.lt k hk).1)) rfl
end Go.Proofs.YtpigjapbhbdhbaaGreatDoor

namespace Go.Proofs.YtpigjapbhbdhbaaGreatDoor
open Go Go.RowKit Go.Maps
set_option linter.unusedVariables false
def visitL (ks : List Int) (c : Cel) : List Int := if c.1 = 0 then putV ks c.2.1 else ks
theorem noVar_num (w : World) (x : Value) : (Instr.typeAssert (.iface 113 x) 45 72 true).run Tryz.prog w = .ok (.tuple #[.int .i64 0, .bool false]) w := by kernel_rfl
theorem noVar_atom (w : World) (x : Value) : (Instr.typeAssert (.iface 107 x) 45 72 true).run Tryz.prog w = .ok (.tuple #[.int .i64 0, .bool false]) w := by kernel_rfl
theorem noVar_comp (w : World) (x : Value) : (Instr.typeAssert (.iface 120 x) 45 72 true).run Tryz.prog w = .ok (.tuple #[.int .i64 0, .bool false]) w := by kernel_rfl
theorem isVar (w : World) (x : Value) : (Instr.typeAssert (.iface 72 x) 45 72 true).run Tryz.prog w = .ok (.tuple #[x, .bool true]) w := by kernel_rfl
theorem noComp_var (w : World) (x : Value) : (Instr.typeAssert (.iface 72 x) 45 120 true).run Tryz.prog w = .ok (.tuple #[.pointer none, .bool false]) w := by kernel_rfl
theorem noComp_num (w : World) (x : Value) : (Instr.typeAssert (.iface 113 x) 45 120 true).run Tryz.prog w = .ok (.tuple #[.pointer none, .bool false]) w := by kernel_rfl
theorem noComp_atom (w : World) (x : Value) : (Instr.typeAssert (.iface 107 x) 45 120 true).run Tryz.prog w = .ok (.tuple #[.pointer none, .bool false]) w := by kernel_rfl
theorem isComp (w : World) (x : Value) : (Instr.typeAssert (.iface 120 x) 45 120 true).run Tryz.prog w = .ok (.tuple #[x, .bool true]) w := by kernel_rfl
theorem argsLeaf_any (t : TypeId) (x : Value) (w : World) (ht : t = 72 ∨ t = 113 ∨ t = 107) :
    Calls Tryz.prog 81 #[.iface t x] w fun e w' => e = .returned (.slice none 0 0) ∧ w' = w := by
  have n1 := noComp_var
  have n2 := noComp_num
  have n3 := noComp_atom
  rcases ht with rfl | rfl | rfl
  all_goals
    go_enter Tryz.func81, Tryz.ntmps81
    go_wp2_with fail
    go_ret
    exact ⟨rfl, rfl⟩
theorem argsComp_any (b g q : Nat) (w : World) (h : w.cell? ⟨b, 1, none⟩ = some (.slice (some ⟨g, 0, none⟩) q q)) :
    Calls Tryz.prog 81 #[.iface 120 (.pointer (some ⟨b, 0, none⟩))] w fun e w' => e = .returned (.slice (some ⟨g, 0, none⟩) q q) ∧ w' = w := by
  have n1 := isComp
  go_enter Tryz.func81, Tryz.ntmps81
  go_wp2_with fail
  go_ret
  exact ⟨rfl, rfl⟩
def visits (ks : List Int) (cs : List Cel) : List Int := cs.foldl visitL ks
theorem putV_len (ks : List Int) (x : Int) : (putV ks x).length ≤ ks.length + 1 := by unfold putV; split <;> simp
theorem visitL_len (ks : List Int) (c : Cel) : (visitL ks c).length ≤ ks.length + 1 := by unfold visitL; split; exact putV_len _ _; omega
theorem visits_len : ∀ (cs : List Cel) (ks : List Int), (visits ks cs).length ≤ ks.length + cs.length
  | [], ks => by simp [visits]
  | c :: r, ks => by have := visits_len r (visitL ks c); have := visitL_len ks c; simp only [visits, List.foldl_cons, List.length_cons] at *; omega
theorem visits_append (ks : List Int) (a b : List Cel) : visits ks (a ++ b) = visits (visits ks a) b := by simp [visits]
theorem visits_cons (ks : List Int) (c : Cel) (b : List Cel) : visits ks (c :: b) = visits (visitL ks c) b := rfl
def findI (ks : List Int) (x : Int) : Int := if x ∈ ks then (ks.idxOf x : Nat) else -1
theorem mem_getD {ks : List Int} {i : Nat} (h : i < ks.length) : ks.getD i 0 ∈ ks := by simp [List.getD, h]
theorem idxOf_le : ∀ (ks : List Int) (j : Nat) (x : Int), j < ks.length → ks.getD j 0 = x → ks.idxOf x ≤ j
  | [], j, x, h, _ => by simp at h
  | a :: r, 0, x, _, e => by
    have e : a = x := by simpa using e
    simp [e]
  | a :: r, j + 1, x, h, e => by
    have := idxOf_le r j x (by simpa using h) (by simpa using e)
    rw [List.idxOf_cons]
    cases a == x
    · simp; omega
    · simp
theorem find_at {ks : List Int} {x : Int} {j : Nat} (hj : j < ks.length) (h : ∀ i, i < j → ks.getD i 0 ≠ x) (e : ks.getD j 0 = x) : findI ks x = j := by
  have hm : x ∈ ks := e ▸ mem_getD hj
  have hlt := List.idxOf_lt_length_of_mem hm
  have hat : ks.getD (ks.idxOf x) 0 = x := by simp [List.getD, hlt]
  rw [findI, if_pos hm]
  have h1 : ¬ ks.idxOf x < j := fun hl => h _ hl hat
  have h2 : ks.idxOf x ≤ j := idxOf_le ks j x hj e
  omega
theorem find_none {ks : List Int} {x : Int} (h : ∀ i, i < ks.length → ks.getD i 0 ≠ x) : findI ks x = -1 := by
  rw [findI, if_neg]
  intro hm
  have hlt := List.idxOf_lt_length_of_mem hm
  exact h _ hlt (by simp [List.getD, hlt])
theorem l2find_any (p : Option Addr) (n c : Nat) (ks : List Int) (x : Int) (w : World) (hn : n = ks.length) (hl : n ≤ 1000000) (hin : IIn w p ks) :
    Calls Tryz.prog 144 #[.slice p n c, .int .i64 x] w fun e w' => e = .returned (.int .i64 (findI ks x)) ∧ w' = w := by
  have HI : Hid (IIn w p ks) := hin
  have HN : Hid (n = ks.length) := hn
  clear hin hn
  go_enter Tryz.func144, Tryz.ntmps144
  go_wp2_with fail
  go_loop [5] (fun i => ∃ j : Nat, j ≤ n ∧ i = .int .i64 j ∧ Hid (∀ i, i < j → ks.getD i 0 ≠ x)) (fun i => n - (intOf i).toNat)
  case atStart => exact ⟨0, Nat.zero_le _, rfl, fun _ h => absurd h (Nat.not_lt_zero _)⟩
  case round =>
    obtain ⟨j, hj, rfl, HF⟩ := hrel
    by_cases hlt : j < n
    · have hjl : j < ks.length := by rw [← HN.out]; exact hlt
      obtain ⟨b, o, rfl, hc⟩ := HI.out (by omega)
      have hx := hc j hjl
      obtain ⟨y, ey⟩ : ∃ y, y = ks.getD j 0 := ⟨_, rfl⟩
      rw [← ey] at hx
      have HY : Hid (y = ks.getD j 0) := ey
      clear hc ey
      by_cases he : y = x
      · have he' : (y == x) = true := by simpa using he
        have HE : Hid (y = x) := he
        clear he
        go_wp2_with fail
        go_ret
        exact ⟨ret_int (find_at hjl HF.out (by rw [← HY.out]; exact HE.out)).symm, rfl⟩
      · have he' : (y == x) = false := by simpa using he
        have HE : Hid (y ≠ x) := he
        clear he
        go_wp2_with fail
        go_round
        case rel => exact ⟨j + 1, by omega, by go_num, fun i hi => by
          by_cases e : i = j
          · subst e; rw [← HY.out]; exact HE.out
          · exact HF.out i (by omega)⟩
        case measure => simp [intOf]; omega
    · obtain rfl : j = n := by omega
      go_wp2_with fail
      go_ret
      exact ⟨ret_int (find_none (by rw [← HN.out]; exact HF.out)).symm, rfl⟩
theorem visits_take (cs : List Cel) (j : Nat) (h : j < cs.length) (ks : List Int) : visits ks (cs.take (j + 1)) = visitL (visits ks (cs.take j)) (cs.getD j Cel.none) := by
  rw [List.take_succ_eq_append_getElem h, visits_append, List.getD, List.getElem?_eq_getElem h]; rfl
end Go.Proofs.YtpigjapbhbdhbaaGreatDoor

namespace Go.Proofs.YtpigjapbhbdhbaaGreatDoor
open Go Go.RowKit Go.Maps
set_option linter.unusedVariables false
structure VState (w : World) (B vb nb mb : Nat) (ks : List Int) (p : Option Addr) (n c : Nat) : Prop where
  vcell : w.cell? ⟨vb, 0, none⟩ = some (.slice p n c)
  vfree : w.frozen? ⟨vb, 0, none⟩ = false
  ncell : w.cell? ⟨nb, 0, none⟩ = some (.map (some mb))
  len : n = ks.length
  row : w.ownsRow B 72 1 (.slice p n c) n (ks.map (Value.int .i64))
  map : NumMap w mb ks
  bv : B ≤ vb
  bn : B ≤ nb
  bm : B ≤ mb
  away : ∀ g, p = some ⟨g, 0, none⟩ → g ≠ vb ∧ g ≠ nb
theorem VState.map_ne {w : World} {B vb nb mb : Nat} {ks : List Int} {p : Option Addr} {n c : Nat} (h : VState w B vb nb mb ks p n c) : mb ≠ vb ∧ mb ≠ nb ∧ ∀ g, p = some ⟨g, 0, none⟩ → g ≠ mb := by
  obtain ⟨D, ⟨es, clock, hb, _⟩, _⟩ := h.map
  refine ⟨fun e => ?_, fun e => ?_, fun g e e' => ?_⟩
  · have := h.vcell; rw [← e] at this; simp [World.cell?, hb] at this
  · have := h.ncell; rw [← e] at this; simp [World.cell?, hb] at this
  · rcases h.row.2 with ⟨hv, _⟩ | ⟨g', cap, cur, hv, _, hg, _⟩
    · simp only [Value.slice.injEq] at hv; rw [e] at hv; cases hv.1
    · simp only [Value.slice.injEq] at hv
      rw [e] at hv
      have e2 : g = g' := congrArg Addr.block (Option.some.inj hv.1)
      rw [← e2, e', hb] at hg
      cases hg
theorem VState.drew {w : World} {B vb nb mb : Nat} {ks : List Int} {p : Option Addr} {n c : Nat} (h : VState w B vb nb mb ks p n c) : VState w.drew B vb nb mb ks p n c := ⟨h.1, h.2, h.3, h.4, h.5, h.6, h.7, h.8, h.9, h.10⟩
theorem VState.after {w w1 : World} {B vb nb mb : Nat} {ks ks' : List Int} {p : Option Addr} {n c : Nat} (h : VState w B vb nb mb ks p n c) (hm : NumMap w1 mb ks') (hg : w.grownBy w1 (some mb)) :
    w1.cell? ⟨vb, 0, none⟩ = some (.slice p n c) ∧ w1.frozen? ⟨vb, 0, none⟩ = false ∧ w1.cell? ⟨nb, 0, none⟩ = some (.map (some mb)) ∧ w1.ownsRow B 72 1 (.slice p n c) n (ks.map (Value.int .i64)) ∧ Below B w w1 := by
  have hne := h.map_ne
  have e1 := hg.block vb (World.block_lt_of_cell? _ _ h.vcell) (fun e => hne.1 (Option.some.inj e).symm)
  have e2 := hg.block nb (World.block_lt_of_cell? _ _ h.ncell) (fun e => hne.2.1 (Option.some.inj e).symm)
  refine ⟨(World.cell?_of_block (w := w) e1).trans h.vcell, (World.frozen?_of_block (w := w) e1).trans h.vfree, (World.cell?_of_block (w := w) e2).trans h.ncell, h.row.kept hg ?_, (Below.refl _ _).grown hg (by have := h.map.lt; have := h.bm; omega) (fun k e => by cases e; exact h.bm)⟩
  rcases h.row.2 with ⟨hv, _⟩ | ⟨g, cap, cur, hv, _⟩
  · simp only [Value.slice.injEq] at hv; rw [hv.1]; exact .inl rfl
  · simp only [Value.slice.injEq] at hv
    rw [hv.1]
    exact .inr (fun e => hne.2.2 g hv.1 (Option.some.inj e))
end Go.Proofs.YtpigjapbhbdhbaaGreatDoor

