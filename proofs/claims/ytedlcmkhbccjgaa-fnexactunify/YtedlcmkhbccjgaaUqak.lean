/- Texts of VarF, VarG, UnP. Own work of the verifier. -/
import Derived.Test.YtedlcmkhbccjgaaUqah
import Derived.Test.YtedlcmkhbccjgaaUqaj
namespace Go.Proofs.Ytedlcmkhbccjgaa
open Go Go.RowKit Go.Maps
set_option linter.unusedVariables false

theorem infoVar : (Try.prog.info? 67).map (fun i => (i.zero, i.size, i.bytes)) = some (some (.int .i64 0), 1, 8) := by kernel_rfl
/-- What a visit of a cell makes of the list of variables. -/
def visitL (ks : List Int) (c : Cel) : List Int := if c.1 = 0 then putV ks c.2.1 else ks
theorem noVar_num (w : World) (x : Value) : (Instr.typeAssert (.iface 139 x) 53 67 true).run Try.prog w = .ok (.tuple #[.int .i64 0, .bool false]) w := by kernel_rfl
theorem noVar_atom (w : World) (x : Value) : (Instr.typeAssert (.iface 140 x) 53 67 true).run Try.prog w = .ok (.tuple #[.int .i64 0, .bool false]) w := by kernel_rfl
theorem noVar_comp (w : World) (x : Value) : (Instr.typeAssert (.iface 108 x) 53 67 true).run Try.prog w = .ok (.tuple #[.int .i64 0, .bool false]) w := by kernel_rfl
theorem isVar (w : World) (x : Value) : (Instr.typeAssert (.iface 67 x) 53 67 true).run Try.prog w = .ok (.tuple #[x, .bool true]) w := by kernel_rfl
theorem noComp_var (w : World) (x : Value) : (Instr.typeAssert (.iface 67 x) 53 108 true).run Try.prog w = .ok (.tuple #[.pointer none, .bool false]) w := by kernel_rfl
theorem noComp_num (w : World) (x : Value) : (Instr.typeAssert (.iface 139 x) 53 108 true).run Try.prog w = .ok (.tuple #[.pointer none, .bool false]) w := by kernel_rfl
theorem noComp_atom (w : World) (x : Value) : (Instr.typeAssert (.iface 140 x) 53 108 true).run Try.prog w = .ok (.tuple #[.pointer none, .bool false]) w := by kernel_rfl
theorem isComp (w : World) (x : Value) : (Instr.typeAssert (.iface 108 x) 53 108 true).run Try.prog w = .ok (.tuple #[x, .bool true]) w := by kernel_rfl
theorem blk_app {wc w2 : World} {X : Obj} {row : Option Nat} (h : (wc.alloc X).grownBy w2 row) {k : Nat} (h1 : k < wc.heap.size) (h2 : some k ≠ row) : w2.heap[k]? = wc.heap[k]? :=
  (h.block k (by simp; omega) h2).trans (Below.heap_alloc wc _ k h1)
theorem argsLeaf_any (t : TypeId) (x : Value) (w : World) (ht : t = 67 ∨ t = 139 ∨ t = 140) :
    Calls Try.prog 87 #[.iface t x] w fun e w' => e = .returned (.slice none 0 0) ∧ w' = w := by
  have n1 := noComp_var
  have n2 := noComp_num
  have n3 := noComp_atom
  rcases ht with rfl | rfl | rfl
  all_goals
    go_enter Try.func87, Try.ntmps87
    go_wp2_with fail
    go_ret
    exact ⟨rfl, rfl⟩
theorem argsComp_any (b g q : Nat) (w : World) (h : w.cell? ⟨b, 1, none⟩ = some (.slice (some ⟨g, 0, none⟩) q q)) :
    Calls Try.prog 87 #[.iface 108 (.pointer (some ⟨b, 0, none⟩))] w fun e w' => e = .returned (.slice (some ⟨g, 0, none⟩) q q) ∧ w' = w := by
  have n1 := isComp
  go_enter Try.func87, Try.ntmps87
  go_wp2_with fail
  go_ret
  exact ⟨rfl, rfl⟩
def visits (ks : List Int) (cs : List Cel) : List Int := cs.foldl visitL ks
theorem putV_len (ks : List Int) (x : Int) : (putV ks x).length ≤ ks.length + 1 := by unfold putV; split <;> simp
theorem visitL_len (ks : List Int) (c : Cel) : (visitL ks c).length ≤ ks.length + 1 := by unfold visitL; split; exact putV_len _ _; omega
theorem visits_len : ∀ (cs : List Cel) (ks : List Int), (visits ks cs).length ≤ ks.length + cs.length
  | [], ks => by simp [visits]
  | c :: r, ks => by have := visits_len r (visitL ks c); have := visitL_len ks c; simp only [visits, List.foldl_cons, List.length_cons] at *; omega
theorem visits_append (ks : List Int) (a b : List Cel) : visits ks (a ++ b) = visits (visits ks a) b := by simp [visits]
theorem visits_cons (ks : List Int) (c : Cel) (b : List Cel) : visits ks (c :: b) = visits (visitL ks c) b := rfl
def findI (ks : List Int) (x : Int) : Int := if x ∈ ks then (ks.idxOf x : Nat) else -1
theorem mem_getD {ks : List Int} {i : Nat} (h : i < ks.length) : ks.getD i 0 ∈ ks := by simp [List.getD, h]
theorem idxOf_le : ∀ (ks : List Int) (j : Nat) (x : Int), j < ks.length → ks.getD j 0 = x → ks.idxOf x ≤ j
  | [], j, x, h, _ => by simp at h
  | a :: r, 0, x, _, e => by
    have e : a = x := by simpa using e
    simp [e]
  | a :: r, j + 1, x, h, e => by
    have := idxOf_le r j x (by simpa using h) (by simpa using e)
    rw [List.idxOf_cons]
    cases a == x
    · simp; omega
    · simp
theorem find_at {ks : List Int} {x : Int} {j : Nat} (hj : j < ks.length) (h : ∀ i, i < j → ks.getD i 0 ≠ x) (e : ks.getD j 0 = x) : findI ks x = j := by
  have hm : x ∈ ks := e ▸ mem_getD hj
  have hlt := List.idxOf_lt_length_of_mem hm
  have hat : ks.getD (ks.idxOf x) 0 = x := by simp [List.getD, hlt]
  rw [findI, if_pos hm]
  have h1 : ¬ ks.idxOf x < j := fun hl => h _ hl hat
  have h2 : ks.idxOf x ≤ j := idxOf_le ks j x hj e
  omega
theorem find_none {ks : List Int} {x : Int} (h : ∀ i, i < ks.length → ks.getD i 0 ≠ x) : findI ks x = -1 := by
  rw [findI, if_neg]
  intro hm
  have hlt := List.idxOf_lt_length_of_mem hm
  exact h _ hlt (by simp [List.getD, hlt])
theorem l2find_any (p : Option Addr) (n c : Nat) (ks : List Int) (x : Int) (w : World) (hn : n = ks.length) (hl : n ≤ 1000000) (hin : IIn w p ks) :
    Calls Try.prog 28 #[.slice p n c, .int .i64 x] w fun e w' => e = .returned (.int .i64 (findI ks x)) ∧ w' = w := by
  have HI : Hid (IIn w p ks) := hin
  have HN : Hid (n = ks.length) := hn
  clear hin hn
  go_enter Try.func28, Try.ntmps28
  go_wp2_with fail
  go_loop [5] (fun i => ∃ j : Nat, j ≤ n ∧ i = .int .i64 j ∧ Hid (∀ i, i < j → ks.getD i 0 ≠ x)) (fun i => n - (intOf i).toNat)
  case atStart => exact ⟨0, Nat.zero_le _, rfl, fun _ h => absurd h (Nat.not_lt_zero _)⟩
  case round =>
    obtain ⟨j, hj, rfl, HF⟩ := hrel
    by_cases hlt : j < n
    · have hjl : j < ks.length := by rw [← HN.out]; exact hlt
      obtain ⟨b, o, rfl, hc⟩ := HI.out (by omega)
      have hx := hc j hjl
      obtain ⟨y, ey⟩ : ∃ y, y = ks.getD j 0 := ⟨_, rfl⟩
      rw [← ey] at hx
      have HY : Hid (y = ks.getD j 0) := ey
      clear hc ey
      by_cases he : y = x
      · have he' : (y == x) = true := by simpa using he
        have HE : Hid (y = x) := he
        clear he
        go_wp2_with fail
        go_ret
        exact ⟨ret_int (find_at hjl HF.out (by rw [← HY.out]; exact HE.out)).symm, rfl⟩
      · have he' : (y == x) = false := by simpa using he
        have HE : Hid (y ≠ x) := he
        clear he
        go_wp2_with fail
        go_round
        case rel => exact ⟨j + 1, by omega, by go_num, fun i hi => by
          by_cases e : i = j
          · subst e; rw [← HY.out]; exact HE.out
          · exact HF.out i (by omega)⟩
        case measure => simp [intOf]; omega
    · obtain rfl : j = n := by omega
      go_wp2_with fail
      go_ret
      exact ⟨ret_int (find_none (by rw [← HN.out]; exact HF.out)).symm, rfl⟩
theorem visits_take (cs : List Cel) (j : Nat) (h : j < cs.length) (ks : List Int) : visits ks (cs.take (j + 1)) = visitL (visits ks (cs.take j)) (cs.getD j Cel.none) := by
  rw [List.take_succ_eq_append_getElem h, visits_append, List.getD, List.getElem?_eq_getElem h]; rfl

end Go.Proofs.Ytedlcmkhbccjgaa

namespace Go.Proofs.Ytedlcmkhbccjgaa
open Go Go.RowKit Go.Maps
set_option linter.unusedVariables false

set_option maxRecDepth 100000 in
theorem l2vars_any (p : Option Addr) (n c : Nat) (cs : List Cel) (w : World) (hn : n = cs.length) (hl : n ≤ 100000) (hin : CIn w p cs) :
    Calls Try.prog 68 #[.slice p n c, .slice none 0 0] w fun e w' => ∃ q m c2, e = .returned (.slice q m c2) ∧ OwnI w' w.heap.size 3 q m c2 (visits [] cs) ∧ Below w.heap.size w w' := by
  have HI : Hid (CIn w p cs) := hin
  have HN : Hid (n = cs.length) := hn
  clear hin hn
  go_enter Try.func68, Try.ntmps68
  go_wp2_with fail
  go_loopw [1, 5] (fun s i wr => ∃ (j : Nat) (q : Option Addr) (m c2 : Nat), j ≤ n ∧ m ≤ j ∧ i = .int .i64 j ∧ s = .slice q m c2 ∧ Hid (OwnI wr w.heap.size 3 q m c2 (visits [] (cs.take j))) ∧ Hid (Below w.heap.size w wr)) (fun _ i _ => n - (intOf i).toNat)
  case atStart => exact ⟨0, none, 0, 0, Nat.zero_le _, Nat.le_refl _, rfl, rfl, OwnI.nil _ _ _, Below.refl _ _⟩
  case round =>
    obtain ⟨j, q, m, c2, hj, hm, rfl, rfl, HO, HB⟩ := hrel
    by_cases hlt : j < n
    · have hjl : j < cs.length := by rw [← HN.out]; exact hlt
      obtain ⟨b, o, rfl, hcs⟩ := HI.out (by omega)
      obtain ⟨p0, q0, d0, d1, _, _⟩ := (hcs j hjl).below HB.out
      have HV : Hid _ := visits_take cs j hjl []
      obtain ⟨c0, e0⟩ : ∃ x, x = (cs.getD j Cel.none).1 := ⟨_, rfl⟩
      obtain ⟨c1, e1⟩ : ∃ x, x = (cs.getD j Cel.none).2.1 := ⟨_, rfl⟩
      rw [← e0] at d0
      rw [← e1] at d1
      have HE : Hid (c0 = (cs.getD j Cel.none).1 ∧ c1 = (cs.getD j Cel.none).2.1) := ⟨e0, e1⟩
      clear hcs e0 e1
      by_cases h0 : c0 = 0
      · subst h0
        have HFD := l2find_any q m c2 _ c1 wr HO.out.1 (by omega) HO.out.iin
        by_cases hx : c1 ∈ visits [] (cs.take j)
        · have hf : ¬ findI (visits [] (cs.take j)) c1 < 0 := by rw [findI, if_pos hx]; omega
          have HX : Hid (visits [] (cs.take (j + 1)) = visits [] (cs.take j)) := by
            show _ = _
            rw [HV.out, visitL, if_pos HE.out.1.symm, putV, if_pos (by rw [← HE.out.2]; exact hx)]
          obtain ⟨fi, ef⟩ : ∃ fi, fi = findI (visits [] (cs.take j)) c1 := ⟨_, rfl⟩
          rw [← ef] at HFD hf
          clear ef hx
          go_wp2_with fail
          refine HFD.mono ?_
          rintro e w1 ⟨rfl, rfl⟩
          go_wp2_with fail
          go_roundw
          case rel => exact ⟨j + 1, q, m, c2, by omega, by omega, by go_num, rfl, by rw [HX.out]; exact HO, HB⟩
          case measure => simp [intOf]; omega
        · have hf : findI (visits [] (cs.take j)) c1 = -1 := by rw [findI, if_neg hx]
          have HX : Hid (visits [] (cs.take (j + 1)) = visits [] (cs.take j) ++ [c1]) := by
            show _ = _
            rw [HV.out, visitL, if_pos HE.out.1.symm, putV, if_neg (by rw [← HE.out.2]; exact hx), ← HE.out.2]
          rw [hf] at HFD
          clear hf hx
          go_wp2_with fail
          refine HFD.mono ?_
          rintro e w1 ⟨rfl, rfl⟩
          go_wp2_with (at_builtin; refine app_int _ rfl _ _ rfl w.heap.size q m c2 _ c1 rfl HO.out rfl (by omega) HB.out.size ?_; intro g n' cap' w5 hown5 hb5 hn5)
          have HB5 : Hid (Below w.heap.size w w5) := (HB.out.alloc HB.out.size _).trans hb5
          have HO5 : Hid (OwnI w5 w.heap.size 3 (some ⟨g, 0, none⟩) n' cap' (visits [] (cs.take (j + 1)))) := by rw [HX.out]; exact hown5
          clear hown5 hb5
          go_roundw
          case rel => exact ⟨j + 1, _, _, _, by omega, by have := hn5.out; omega, by go_num, rfl, HO5, HB5⟩
          case measure => simp [intOf]; omega
      · have h0' : (c0 == 0) = false := by simpa using h0
        have HX : Hid (visits [] (cs.take (j + 1)) = visits [] (cs.take j)) := by
          show _ = _
          rw [HV.out, visitL, if_neg (by rw [← HE.out.1]; exact h0)]
        clear h0
        go_wp2_with fail
        go_roundw
        case rel => exact ⟨j + 1, q, m, c2, by omega, by omega, by go_num, rfl, by rw [HX.out]; exact HO, HB⟩
        case measure => simp [intOf]; omega
    · obtain rfl : j = n := by omega
      go_wp2_with fail
      go_ret
      refine ⟨_, _, _, rfl, ?_, HB.out⟩
      have := HO.out
      rwa [List.take_of_length_le (by rw [← HN.out]; exact Nat.le_refl _)] at this

end Go.Proofs.Ytedlcmkhbccjgaa

namespace Go.Proofs.Ytedlcmkhbccjgaa
open Go Go.RowKit
set_option linter.unusedVariables false

/-- The variables of a forest. -/
def vsF : Fo → List Int
  | .nil => []
  | .node c k r => (if c.1 = 0 then [c.2.1] else []) ++ (vsF k ++ vsF r)
def vsT (t : Tr) : List Int := vsF (.node t.1 t.2 .nil)
/-- What variables stand for. -/
abbrev BM := Int → Option Tr
/-- A variable: its cell alone. -/
def IsV (t : Tr) (v : Int) : Prop := t.1.1 = 0 ∧ t.1.2.1 = v ∧ t.2 = .nil
theorem IsV.vs {t : Tr} {v : Int} (h : IsV t v) : vsT t = [v] := by
  obtain ⟨h1, h2, h3⟩ := h
  simp [vsT, vsF, h1, h2, h3]
theorem IsV.inj {t : Tr} {v u : Int} (h : IsV t v) (h' : IsV t u) : v = u := h.2.1.symm.trans h'.2.1
/-- Where a way ends. -/
inductive EndB (M : BM) : Tr → Tr → Prop
  | stay {t : Tr} (h : ∀ v, IsV t v → M v = none) : EndB M t t
  | go {t u e : Tr} {v : Int} (hv : IsV t v) (hm : M v = some u) (h : EndB M u e) : EndB M t e
/-- A stop on a way. -/
inductive OnWay (M : BM) : Tr → Tr → Prop
  | here {t : Tr} : OnWay M t t
  | on {t u e : Tr} {v : Int} (hv : IsV t v) (hm : M v = some u) (h : OnWay M u e) : OnWay M t e
/-- The variables that are reached. -/
inductive Reach (M : BM) : Tr → Int → Prop
  | here {t : Tr} {v : Int} (h : v ∈ vsT t) : Reach M t v
  | thro {t u : Tr} {w v : Int} (hw : w ∈ vsT t) (hm : M w = some u) (h : Reach M u v) : Reach M t v
/-- P is M with ways cut short. -/
def Cut (P M : BM) : Prop := (∀ v, M v = none → P v = none) ∧ ∀ v u, M v = some u → ∃ u', P v = some u' ∧ OnWay M u u'
def Acyc (M : BM) (r : Int → Nat) : Prop := ∀ v u, M v = some u → ∀ w ∈ vsT u, r w < r v
theorem Cut.refl (M : BM) : Cut M M := ⟨fun _ h => h, fun v u h => ⟨u, h, .here⟩⟩
theorem OnWay.trans {M : BM} {a b c : Tr} (h : OnWay M a b) : OnWay M b c → OnWay M a c := by
  induction h with
  | here => exact id
  | on hv hm _ ih => exact fun h => .on hv hm (ih h)
theorem EndB.way {M : BM} {a e : Tr} (h : EndB M a e) : OnWay M a e := by
  induction h with
  | stay _ => exact .here
  | go hv hm _ ih => exact .on hv hm ih
theorem EndB.det {M : BM} {a e : Tr} (h : EndB M a e) : ∀ {e'}, EndB M a e' → e = e' := by
  induction h with
  | stay h =>
    intro e' h'
    cases h' with
    | stay _ => rfl
    | go hv hm _ => rw [h _ hv] at hm; cases hm
  | go hv hm _ ih =>
    intro e' h'
    cases h' with
    | stay h' => rw [h' _ hv] at hm; cases hm
    | go hv' hm' h' =>
      obtain rfl := hv.inj hv'
      rw [hm] at hm'
      cases hm'
      exact ih h'
theorem EndB.last {M : BM} {a e : Tr} (h : EndB M a e) : ∀ v, IsV e v → M v = none := by
  induction h with
  | stay h => exact h
  | go _ _ _ ih => exact ih
/-- From a stop on the way the end is the same. -/
theorem EndB.from_stop {M : BM} {a b e : Tr} (h : OnWay M a b) : EndB M b e → EndB M a e := by
  induction h with
  | here => exact id
  | on hv hm _ ih => exact fun h => .go hv hm (ih h)
theorem EndB.at_stop {M : BM} {a b e : Tr} (h : OnWay M a b) : EndB M a e → EndB M b e := by
  induction h with
  | here => exact id
  | on hv hm _ ih =>
    intro h'
    cases h' with
    | stay h' => rw [h' _ hv] at hm; cases hm
    | go hv' hm' h' =>
      obtain rfl := hv.inj hv'
      rw [hm] at hm'
      cases hm'
      exact ih h'
/-- Ways cut short have the same end. -/
theorem Cut.ends {P M : BM} (hc : Cut P M) {a e : Tr} (h : EndB P a e) : EndB M a e := by
  induction h with
  | @stay t h =>
    refine .stay fun v hv => ?_
    cases hm : M v with
    | none => rfl
    | some u =>
      obtain ⟨u', hp, _⟩ := hc.2 v u hm
      rw [h v hv] at hp; cases hp
  | @go t u e v hv hp _ ih =>
    cases hm : M v with
    | none => rw [hc.1 v hm] at hp; cases hp
    | some x =>
      obtain ⟨u', hp', hw⟩ := hc.2 v x hm
      rw [hp] at hp'
      cases hp'
      exact .go hv hm (EndB.from_stop hw ih)
theorem vs_rank {M : BM} {r : Int → Nat} (ha : Acyc M r) {a b : Tr} (h : OnWay M a b) : ∀ {n : Nat}, (∀ w ∈ vsT a, r w < n) → ∀ w ∈ vsT b, r w < n := by
  induction h with
  | here => exact fun h => h
  | on hv hm _ ih =>
    intro n hn
    refine ih fun w hw => ?_
    have h1 := ha _ _ hm w hw
    have h2 := hn _ (by rw [hv.vs]; exact List.mem_singleton.2 rfl)
    omega
/-- Every way has an end. -/
theorem Acyc.ends {M : BM} {r : Int → Nat} (ha : Acyc M r) : ∀ (n : Nat) (t : Tr), (∀ w ∈ vsT t, r w < n) → ∃ e, EndB M t e := by
  intro n
  induction n with
  | zero =>
    intro t h
    refine ⟨t, .stay fun v hv => ?_⟩
    have := h v (by rw [hv.vs]; exact List.mem_singleton.2 rfl)
    omega
  | succ n ih =>
    intro t h
    by_cases hx : ∃ v, IsV t v ∧ ∃ u, M v = some u
    · obtain ⟨v, hv, u, hm⟩ := hx
      have hr := h v (by rw [hv.vs]; exact List.mem_singleton.2 rfl)
      obtain ⟨e, he⟩ := ih u fun w hw => by have := ha v u hm w hw; omega
      exact ⟨e, .go hv hm he⟩
    · refine ⟨t, .stay fun v hv => ?_⟩
      cases hm : M v with
      | none => rfl
      | some u => exact absurd ⟨v, hv, u, hm⟩ hx
/-- Ways cut short keep clear of circles. -/
theorem Cut.acyc {P M : BM} {r : Int → Nat} (hc : Cut P M) (ha : Acyc M r) : Acyc P r := by
  intro v u hp w hw
  cases hm : M v with
  | none => rw [hc.1 v hm] at hp; cases hp
  | some x =>
    obtain ⟨u', hp', hway⟩ := hc.2 v x hm
    rw [hp] at hp'
    cases hp'
    exact vs_rank ha hway (fun y hy => ha v x hm y hy) w hw
theorem Cut.ends_iff {P M : BM} {r : Int → Nat} (hc : Cut P M) (ha : Acyc M r) {a e : Tr} {n : Nat} (hn : ∀ w ∈ vsT a, r w < n) : EndB P a e ↔ EndB M a e := by
  refine ⟨hc.ends, fun h => ?_⟩
  obtain ⟨e', h'⟩ := (hc.acyc ha).ends n a hn
  rw [h.det (hc.ends h')]
  exact h'
/-- What is reached from a stop is reached from ahead of it. -/
theorem Reach.from_stop {M : BM} {a b : Tr} {v : Int} (h : OnWay M a b) : Reach M b v → Reach M a v := by
  induction h with
  | here => exact id
  | on hv hm _ ih => exact fun h => .thro (by rw [hv.vs]; exact List.mem_singleton.2 rfl) hm (ih h)
theorem Reach.at_stop {M : BM} {a b : Tr} {v : Int} (h : OnWay M a b) (hv0 : M v = none) : Reach M a v → Reach M b v := by
  induction h with
  | here => exact id
  | on hv hm _ ih =>
    intro h'
    cases h' with
    | here h' =>
      rw [hv.vs] at h'
      obtain rfl := List.mem_singleton.1 h'
      rw [hv0] at hm; cases hm
    | thro hw hm' h' =>
      rw [hv.vs] at hw
      obtain rfl := List.mem_singleton.1 hw
      rw [hm] at hm'
      cases hm'
      exact ih h'
theorem Cut.reach {P M : BM} (hc : Cut P M) {a : Tr} {v : Int} (h : Reach P a v) : Reach M a v := by
  induction h with
  | here h => exact .here h
  | @thro t u w v hw hp _ ih =>
    cases hm : M w with
    | none => rw [hc.1 w hm] at hp; cases hp
    | some x =>
      obtain ⟨u', hp', hway⟩ := hc.2 w x hm
      rw [hp] at hp'
      cases hp'
      exact .thro hw hm (Reach.from_stop hway ih)
/-- A variable that stands for nothing is reached by both, or by none. -/
theorem Cut.reach_back {P M : BM} {r : Int → Nat} (hc : Cut P M) (ha : Acyc M r) {v : Int} (hv : M v = none) : ∀ (n : Nat) (a : Tr), (∀ w ∈ vsT a, r w < n) → Reach M a v → Reach P a v := by
  intro n
  induction n with
  | zero =>
    intro a hn h
    cases h with
    | here h => exact .here h
    | thro hw _ _ => have := hn _ hw; omega
  | succ n ih =>
    intro a hn h
    cases h with
    | here h => exact .here h
    | @thro _ u w _ hw hm h' =>
      obtain ⟨u', hp, hway⟩ := hc.2 _ _ hm
      refine .thro hw hp (ih u' (vs_rank ha hway fun y hy => ?_) (Reach.at_stop hway hv h'))
      have h1 := ha _ _ hm y hy
      have h2 := hn _ hw
      omega
theorem Cut.reach_iff {P M : BM} {r : Int → Nat} (hc : Cut P M) (ha : Acyc M r) {v : Int} (hv : M v = none) {n : Nat} {a : Tr} (hn : ∀ w ∈ vsT a, r w < n) : Reach P a v ↔ Reach M a v := ⟨hc.reach, hc.reach_back ha hv n a hn⟩
def BM.set (P : BM) (v : Int) (t : Tr) : BM := fun w => if w = v then some t else P w
/-- A way cut short once more. -/
theorem Cut.cut {P M : BM} (hc : Cut P M) {v : Int} {u e : Tr} (hp : P v = some u) (he : EndB P u e) : Cut (P.set v e) M := by
  constructor
  · intro w hw
    have h := hc.1 w hw
    simp only [BM.set]
    by_cases h' : w = v
    · subst h'; rw [hp] at h; cases h
    · rw [if_neg h', h]
  · intro w x hm
    obtain ⟨x', hx, hway⟩ := hc.2 w x hm
    by_cases h' : w = v
    · subst h'
      rw [hp] at hx
      cases hx
      exact ⟨e, by simp [BM.set], hway.trans (hc.ends he).way⟩
    · exact ⟨x', by simp [BM.set, h', hx], hway⟩
theorem IsV.mem {t : Tr} {v : Int} (h : IsV t v) : v ∈ vsT t := by rw [h.vs]; exact List.mem_singleton.2 rfl
/-- A new binding goes into both. -/
theorem OnWay.set {M : BM} {v : Int} {t : Tr} (hv : M v = none) {a b : Tr} (h : OnWay M a b) : OnWay (M.set v t) a b := by
  induction h with
  | here => exact .here
  | @on a u e w hw hm _ ih => exact .on hw (by simp only [BM.set]; rw [if_neg (fun h => by rw [h, hv] at hm; cases hm), hm]) ih
theorem Cut.bind {P M : BM} (hc : Cut P M) {v : Int} {t : Tr} (hv : M v = none) : Cut (P.set v t) (M.set v t) := by
  constructor
  · intro w hw
    simp only [BM.set] at hw ⊢
    by_cases h' : w = v
    · rw [if_pos h'] at hw; cases hw
    · rw [if_neg h'] at hw ⊢; exact hc.1 w hw
  · intro w x hm
    simp only [BM.set] at hm
    by_cases h' : w = v
    · rw [if_pos h'] at hm
      exact ⟨x, by simp only [BM.set]; rw [if_pos h']; exact hm, .here⟩
    · rw [if_neg h'] at hm
      obtain ⟨x', hx, hway⟩ := hc.2 w x hm
      exact ⟨x', by simp only [BM.set]; rw [if_neg h']; exact hx, hway.set hv⟩
theorem Reach.more {M : BM} {t u : Tr} (h : ∀ w ∈ vsT t, Reach M u w) : ∀ {v}, Reach M t v → (∀ w, w ∈ vsT t → ∀ x, M w = some x → Reach M x v → Reach M u v) → Reach M u v := fun hr hs => by
  cases hr with
  | here hv => exact h _ hv
  | thro hw hm h' => exact hs _ hw _ hm h'

end Go.Proofs.Ytedlcmkhbccjgaa

