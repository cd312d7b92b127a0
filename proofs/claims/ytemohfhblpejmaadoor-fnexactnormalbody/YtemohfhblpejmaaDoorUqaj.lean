/- Texts of SSG, NextG, NbP. Own work of the verifier. -/
import Derived.Test.YtemohfhblpejmaaDoorUqai
import Derived.Test.YtemohfhblpejmaaDoorUqaf
namespace Go.Proofs.YtemohfhblpejmaaDoor
open Go Go.RowKit
set_option linter.unusedVariables false

theorem infoCells : (Tryd.prog.info? 24).map (fun i => (i.zero, i.size, i.bytes)) = some (some (.slice none 0 0), 1, 24) := by kernel_rfl
/-- An item: where it lies, its capacity, the blocks from .. to. -/
abbrev It := Option Addr × Nat × Nat × Nat
def It.zero : It := (none, 0, 0, 0)
theorem ds_append_at (ds : List It) (r : It) (i : Nat) (h : i ≤ ds.length) : (ds ++ [r]).getD i It.zero = if i = ds.length then r else ds.getD i It.zero := by
  by_cases e : i = ds.length
  · subst e; simp [List.getD]
  · rw [if_neg e, List.getD, List.getD, List.getElem?_append_left (by omega)]
/-- How much there is in all. -/
def tll : List (List Cel) → Nat
  | [] => 0
  | c :: r => c.length + tl c + tll r
theorem tll_at : ∀ (css : List (List Cel)) (i : Nat), i < css.length → (css.getD i []).length + tl (css.getD i []) ≤ tll css
  | [], i, h => by simp at h
  | c :: r, 0, _ => by simp [tll]
  | c :: r, i + 1, h => by have := tll_at r i (by simpa using h); simp only [tll, List.getD_cons_succ]; omega
theorem endC_eq (k : Int) (cs : List Cel) : endC k cs = k + 2 * cs.length + tl cs := by simp [endC, kAt]
theorem tll_take : ∀ (css : List (List Cel)) (k : Nat), k < css.length → tll (css.take (k + 1)) = tll (css.take k) + ((css.getD k []).length + tl (css.getD k []))
  | [], k, h => by simp at h
  | c :: r, 0, _ => by simp [tll]
  | c :: r, k + 1, h => by
    have := tll_take r k (by simpa using h)
    simp only [List.take_succ_cons, tll, this]
    simp; omega
theorem tll_take_le : ∀ (css : List (List Cel)) (k : Nat), tll (css.take k) ≤ tll css
  | [], k => by simp [tll]
  | c :: r, 0 => by simp [tll]
  | c :: r, k + 1 => by have := tll_take_le r k; simp only [List.take_succ_cons, tll]; omega

end Go.Proofs.YtemohfhblpejmaaDoor

namespace Go.Proofs.YtemohfhblpejmaaDoor
open Go Go.RowKit
set_option linter.unusedVariables false

theorem CIn.part {w : World} {b o : Nat} {cs ds : List Cel} (h : ∀ i, i < cs.length → CAt w b (o + i * 3) (cs.getD i Cel.none)) (j : Nat) (hd : ds <+: cs.drop j) : CIn w (some ⟨b, o + j * 3, none⟩) ds := fun _ => by
  refine ⟨b, o + j * 3, rfl, fun i hi => ?_⟩
  obtain ⟨r, hr⟩ := hd
  have hl : j + i < cs.length := by
    have := congrArg List.length hr
    simp at this; omega
  have e : cs.getD (j + i) Cel.none = ds.getD i Cel.none := by
    have h1 : (cs.drop j)[i]? = ds[i]? := by rw [← hr, List.getElem?_append_left hi]
    rw [List.getElem?_drop] at h1
    simp only [List.getD, h1]
  have := h (j + i) hl
  rw [e, show o + (j + i) * 3 = o + j * 3 + i * 3 by omega] at this
  exact this
/-- The k-th cell of what a forest's cells begin with. -/
theorem drop_cell {cs : List Cel} {j : Nat} {c : Cel} {r : List Cel} (h : cs.drop j = c :: r) : j < cs.length ∧ cs.getD j Cel.none = c ∧ cs.drop (j + 1) = r := by
  have hl : j < cs.length := by
    rcases Nat.lt_or_ge j cs.length with h' | h'
    · exact h'
    · rw [List.drop_eq_nil_of_le h'] at h; cases h
  rw [List.drop_eq_getElem_cons hl] at h
  injection h with h1 h2
  exact ⟨hl, by simp [List.getD, hl, h1], h2⟩

set_option maxRecDepth 100000 in
theorem l2next_any (p : Option Addr) (n cap : Nat) (cs : List Cel) (at_ : Nat) (c : Cel) (k : Fo) (tail : List Cel) (w : World) (hn : n = cs.length) (hm : n ≤ 1000000) (hd : cs.drop at_ = c :: (k.cells ++ tail)) (hok : (Fo.node c k .nil).ok) (hin : CIn w p cs) :
    Calls Tryd.prog 51 #[.slice p n cap, .int .i64 at_] w fun e w' => e = .returned (.int .i64 ((at_ + 1 + k.cells.length : Nat) : Int)) ∧ w' = w := by
  obtain ⟨E, eE⟩ : ∃ E, E = at_ + 1 + k.cells.length := ⟨_, rfl⟩
  have HE : Hid (E = at_ + 1 + k.cells.length) := eE
  have hEn : E ≤ n := by
    have := congrArg List.length hd
    simp at this; omega
  have HD : Hid (cs.drop at_ = (Fo.node c k .nil).cells ++ tail ∧ n = cs.length) := ⟨by simp [Fo.cells, hd], hn⟩
  have HOK : Hid (Fo.node c k .nil).ok := hok
  have HIN : Hid (CIn w p cs) := hin
  have hA : at_ ≤ E := by omega
  rw [← eE]
  clear hn hd hok hin eE
  go_enter Tryd.func51, Tryd.ntmps51
  go_wp2
  go_loop [1, 5] (fun a l => ∃ (j : Nat) (q : Nat), j ≤ E ∧ a = .int .i64 j ∧ l = .int .i64 q ∧ q ≤ 1000000 ∧ Hid (∃ F : Fo, F.ok ∧ F.count = q ∧ cs.drop j = F.cells ++ tail ∧ j + F.cells.length = E)) (fun a _ => E - (intOf a).toNat)
  case atStart => exact ⟨at_, 1, hA, rfl, rfl, by decide, .node c k .nil, HOK.out, rfl, HD.out.1, by rw [HE.out]; simp [Fo.cells]; omega⟩
  case round =>
    obtain ⟨j, q, hj, rfl, rfl, hq, HF⟩ := hrel
    by_cases h0 : 0 < q
    · obtain ⟨F, hFok, hFc, hFd, hFl⟩ := HF.out
      cases F with
      | nil => simp [Fo.count] at hFc; omega
      | node c1 k1 r1 =>
        simp only [Fo.cells, List.cons_append, List.append_assoc] at hFd
        obtain ⟨hjl, hg, hd1⟩ := drop_cell hFd
        have hjn : j < n := by rw [HD.out.2]; exact hjl
        obtain ⟨b, o, rfl, hcs⟩ := HIN.out (by omega)
        obtain ⟨p0, q0, d0, d1, _, _⟩ := hcs j hjl
        rw [hg] at d0 d1
        have hjE : j + 1 ≤ E := by rw [← hFl]; simp only [Fo.cells, List.length_cons, List.length_append]; omega
        have hcB := hFok.1
        by_cases h3 : c1.1 = 3
        · have hc1 := hFok.2.2.1 h3
          rw [h3] at hcB
          have hb20 := cellB_comp hcB
          have HN : Hid (∃ F : Fo, F.ok ∧ F.count = q + k1.count - 1 ∧ cs.drop (j + 1) = F.cells ++ tail ∧ j + 1 + F.cells.length = E) := by
            refine ⟨k1.cat r1, (Fo.ok_cat _ _).2 ⟨hFok.2.2.2.2.1, hFok.2.2.2.2.2⟩, ?_, ?_, ?_⟩
            · rw [Fo.count_cat]; simp [Fo.count] at hFc; omega
            · rw [Fo.cells_cat, hd1, List.append_assoc]
            · rw [Fo.cells_cat, ← hFl]; simp [Fo.cells]; omega
          rw [h3] at d0
          rw [hc1] at d1
          have hk20 : k1.count ≤ 20 := by omega
          have hq2 : q + k1.count - 1 ≤ 1000000 := by
            obtain ⟨F, _, hc, _, hl⟩ := HN.out
            have := Fo.count_le F
            omega
          obtain ⟨m, em⟩ : ∃ m, m = k1.count := ⟨_, rfl⟩
          rw [← em] at d1 hk20 HN hq2
          have hm1 : 1 ≤ m := by omega
          clear hFok hFc hFd hFl hcs hcB h3 hc1 hb20 hd1 hg em HF
          go_wp2
          go_round
          case rel => exact ⟨j + 1, q + m - 1, hjE, by go_num, by go_num, hq2, HN⟩
          case measure => simp [intOf]; omega
        · have hk1 : k1 = .nil := hFok.2.2.2.1 h3
          have h3' : (c1.1 == 3) = false := by simpa using h3
          have HN : Hid (∃ F : Fo, F.ok ∧ F.count = q - 1 ∧ cs.drop (j + 1) = F.cells ++ tail ∧ j + 1 + F.cells.length = E) := by
            refine ⟨r1, hFok.2.2.2.2.2, ?_, ?_, ?_⟩
            · simp [Fo.count] at hFc; omega
            · rw [hd1, hk1]; rfl
            · rw [← hFl, hk1]; simp [Fo.cells]; omega
          obtain ⟨kd, ekd⟩ : ∃ kd, kd = c1.1 := ⟨_, rfl⟩
          rw [← ekd] at d0 h3'
          clear hFok hFc hFd hFl hcs hcB h3 hd1 hg HF hk1 ekd
          go_wp2
          go_round
          case rel => exact ⟨j + 1, q - 1, hjE, by go_num, by go_num, by omega, HN⟩
          case measure => simp [intOf]; omega
    · obtain rfl : q = 0 := by omega
      have HJ : Hid (j = E) := by
        obtain ⟨F, _, hc, _, hl⟩ := HF.out
        cases F with
        | nil => simpa [Fo.cells, Hid] using hl
        | node a b d => simp [Fo.count] at hc
      clear HF
      go_wp2
      go_ret
      exact ⟨ret_int (by rw [HJ.out]), rfl⟩

/-- Rows of different kinds lie apart. -/
theorem rows_apart {w : World} {B B' s s' n n' : Nat} {e e' : TypeId} {v v' : Value} {xs xs' : List Value} (h : w.ownsRow B e s v n xs) (h' : w.ownsRow B' e' s' v' n' xs') (hne : e ≠ e') : v.ownBlock = none ∨ v.ownBlock ≠ v'.ownBlock := by
  rcases h.2 with ⟨rfl, _⟩ | ⟨g, cap, cur, rfl, _, hh, _⟩
  · exact .inl rfl
  · right
    intro e0
    rcases h'.2 with ⟨rfl, _⟩ | ⟨g', cap', cur', rfl, _, hh', _⟩
    · cases e0
    · cases e0
      rw [hh] at hh'
      cases hh'
      exact hne rfl
def slV (r : Option Addr × Nat × Nat) : Value := .slice r.1 r.2.1 r.2.2
/-- append of a slice of cells. -/
theorem app_sl (w : World) {ops : Array Oper} {rest : List Oper} {o : Oper} {a : Act} {Q : Exit → Act → World → Prop} (hgd : o.guard = none) (s x : Operand)
    (ho : o.op = .call { callee := .builtin .append, args := #[s, x], argTypes := #[53, 53] }) (B : Nat) (p : Option Addr) (n c : Nat) (rs : List (Option Addr × Nat × Nat)) (q : Option Addr) (m c' : Nat)
    (hs : a.eval s = .slice p n c) (hown : w.ownsRow B 24 1 (.slice p n c) n (rs.map slV)) (hx : a.eval x = .slice (some ⟨w.heap.size, 0, none⟩) 1 1)
    (hlen : n + 1 ≤ 1000000) (hbase : B ≤ w.heap.size)
    (h : ∀ g cap w', w'.ownsRow B 24 1 (.slice (some ⟨g, 0, none⟩) (n + 1) cap) (n + 1) ((rs ++ [(q, m, c')]).map slV) → (w.alloc (.cells #[.slice q m c'] 24)).grownBy w' (Value.ownBlock (.slice p n c)) → wpList Tryd.prog ops Q rest (a.put o.dst (.slice (some ⟨g, 0, none⟩) (n + 1) cap)) w') : wpList Tryd.prog ops Q (o :: rest) a (w.alloc (.cells #[.slice q m c'] 24)) := by
  obtain ⟨i0, hi, hz0, hz1, hz2⟩ := info_parts infoCells
  refine wpList_append_lies _ hgd s x 53 ho B 24 i0 (.slice none 0 0) 1 24 Tryd.underlying53 hi hz0 hz1 hz2 rfl (by decide) (.slice p n c) n (rs.map slV) hs (hown.alloc _) ⟨w.heap.size, 0, none⟩ 1 1 [.slice q m c'] hx rfl (cell_one_new _ _ _) (by simp [Value.oneCell']) (by decide) (by unfold maxLen; omega) (by omega) (by simp; omega) _ rfl ?_
  intro g cap w' hown' hgrow hat hlt
  exact h g cap w' (by rw [List.map_append]; exact hown') hgrow

end Go.Proofs.YtemohfhblpejmaaDoor

namespace Go.Proofs.YtemohfhblpejmaaDoor
open Go Go.RowKit
set_option linter.unusedVariables false

/-- The names once, forall, call, true. -/
abbrev nOnce : List Int := [111, 110, 99, 101]
abbrev nAll : List Int := [102, 111, 114, 97, 108, 108]
abbrev nCall : List Int := [99, 97, 108, 108]
abbrev nTrue : List Int := [116, 114, 117, 101]
/-- Whether a cell is that of a compound that is a construct. -/
def conC (c : Cel) : Bool := c.1 == 3 && ((c.2.1 == 2 && (c.2.2 == [44] || c.2.2 == [59] || c.2.2 == [45, 62] || c.2.2 == nAll)) || (c.2.1 == 1 && (c.2.2 == [92, 43] || c.2.2 == nOnce)))
/-- Whether a name begins with a dollar sign. -/
def dolL (s : List Int) : Bool := s.head? == some 36
/-- The normal body of a construct, of those of its parts. -/
def normK (c : Cel) (k : Fo) : Fo :=
  if c.2.2 = nOnce then .node (3, 2, [45, 62]) (k.cat (.node (2, 0, nTrue) .nil .nil)) .nil
  else if c.2.2 = nAll then (match k with
    | .node a ka (.node b kb r) => .node (3, 1, [92, 43]) (.node (3, 2, [44]) (.node a ka (.node (3, 1, [92, 43]) (.node b kb r) .nil)) .nil) .nil
    | k => k)
  else .node c k .nil
theorem normK_once {c : Cel} {k : Fo} (h : c.2.2 = nOnce) : normK c k = .node (3, 2, [45, 62]) (k.cat (.node (2, 0, nTrue) .nil .nil)) .nil := by unfold normK; rw [if_pos h]
theorem normK_all {c : Cel} {a b : Cel} {ka kb r : Fo} (h : c.2.2 = nAll) : normK c (.node a ka (.node b kb r)) = .node (3, 1, [92, 43]) (.node (3, 2, [44]) (.node a ka (.node (3, 1, [92, 43]) (.node b kb r) .nil)) .nil) .nil := by unfold normK; rw [if_neg (by rw [h]; decide), if_pos h]
theorem normK_else {c : Cel} {k : Fo} (h : ¬ c.2.2 = nOnce) (h2 : ¬ c.2.2 = nAll) : normK c k = .node c k .nil := by unfold normK; rw [if_neg h, if_neg h2]
/-- That of a tree, of those of what is below it. -/
def normH (c : Cel) (k : Fo) (nk : Option Fo) : Option Fo :=
  if c.1 = 0 then some (.node (3, 1, nCall) (.node c .nil .nil) .nil)
  else if c.1 = 1 ∨ dolL c.2.2 = true then none
  else if conC c = true then nk.map (normK c)
  else some (.node c k .nil)
def catO : Option Fo → Option Fo → Option Fo
  | some a, some b => some (a.cat b)
  | _, _ => none
def normF : Fo → Option Fo
  | .nil => some .nil
  | .node c k r => catO (normH c k (normF k)) (normF r)
def normT (c : Cel) (k : Fo) : Option Fo := normH c k (normF k)
theorem normF_one (c : Cel) (k : Fo) : normF (.node c k .nil) = normT c k := by
  rw [normF, normF, normT]
  cases normH c k (normF k) with
  | none => rfl
  | some a => simp [catO, Fo.cat_nil]
theorem catO_assoc (a b c : Option Fo) : catO (catO a b) c = catO a (catO b c) := by
  cases a <;> cases b <;> cases c <;> simp [catO, Fo.cat_assoc]
theorem normF_cat : ∀ a b : Fo, normF (a.cat b) = catO (normF a) (normF b)
  | .nil, b => by simp only [Fo.cat, normF]; cases normF b <;> rfl
  | .node c k r, b => by simp only [Fo.cat, normF, normF_cat r b, catO_assoc]
theorem conC_comp {c : Cel} (h : conC c = true) : c.1 = 3 := by
  simp only [conC, Bool.and_eq_true, beq_iff_eq] at h
  exact h.1
theorem count_one {k : Fo} (h : k.count = 1) : ∃ c k', k = .node c k' .nil := by
  cases k with
  | nil => simp [Fo.count] at h
  | node c k' r =>
    cases r with
    | nil => exact ⟨c, k', rfl⟩
    | node a b d => simp [Fo.count] at h
theorem count_two {k : Fo} (h : k.count = 2) : ∃ a ka b kb, k = .node a ka (.node b kb .nil) := by
  cases k with
  | nil => simp [Fo.count] at h
  | node c k' r =>
    obtain ⟨b, kb, rfl⟩ := count_one (k := r) (by simpa [Fo.count] using h)
    exact ⟨c, k', b, kb, rfl⟩
theorem byte_of {s : List Int} (h : s.all (fun x => decide (0 ≤ x ∧ x < 256)) = true) : Byte s := fun x hx => by
  have := List.all_eq_true.1 h x hx
  simpa using this
theorem normK_ok {c : Cel} {k : Fo} (hcb : cellB c.1 c.2.1 c.2.2.length = true) (hby : Byte c.2.2) (hc : conC c = true) (hk : k.ok) (hn : c.2.1 = k.count) :
    (normK c k).ok ∧ (normK c k).count = 1 ∧ (normK c k).cells.length ≤ k.cells.length + 3 := by
  have h3 := conC_comp hc
  simp only [conC, Bool.and_eq_true, Bool.or_eq_true, beq_iff_eq] at hc
  unfold normK
  by_cases e1 : c.2.2 = nOnce
  · rw [if_pos e1]
    have h1 : c.2.1 = 1 := by
      rcases hc.2 with h | h
      · rw [e1] at h; simp at h
      · exact h.1
    have hk1 : k.count = 1 := by omega
    refine ⟨⟨rfl, byte_of rfl, fun _ => ?_, fun h => absurd rfl h, (Fo.ok_cat _ _).2 ⟨hk, rfl, byte_of rfl, fun h => (by cases h), fun _ => rfl, trivial, trivial⟩, trivial⟩, rfl, ?_⟩
    · rw [Fo.count_cat, hk1]; rfl
    · simp [Fo.cells, Fo.cells_cat]
  · rw [if_neg e1]
    by_cases e2 : c.2.2 = nAll
    · rw [if_pos e2]
      have h1 : c.2.1 = 2 := by
        rcases hc.2 with h | h
        · exact h.1
        · rw [e2] at h; simp at h
      obtain ⟨a, ka, b, kb, rfl⟩ := count_two (k := k) (by omega)
      simp only [Fo.ok] at hk
      refine ⟨⟨rfl, byte_of rfl, fun _ => rfl, fun h => absurd rfl h, ⟨rfl, byte_of rfl, fun _ => rfl, fun h => absurd rfl h, ?_, trivial⟩, trivial⟩, rfl, ?_⟩
      · exact ⟨hk.1, hk.2.1, hk.2.2.1, hk.2.2.2.1, hk.2.2.2.2.1, rfl, byte_of rfl, fun _ => rfl, fun h => absurd rfl h, hk.2.2.2.2.2, trivial⟩
      · simp [Fo.cells]; omega
    · rw [if_neg e2]
      refine ⟨⟨hcb, hby, fun _ => hn, fun h => absurd h3 h, hk, trivial⟩, rfl, ?_⟩
      simp [Fo.cells]
theorem normF_ok : ∀ (F G : Fo), normF F = some G → F.ok → G.ok ∧ G.count = F.count ∧ G.cells.length ≤ 3 * F.cells.length
  | .nil, G, h, _ => by
    simp only [normF, Option.some.injEq] at h
    subst h
    exact ⟨trivial, rfl, by simp [Fo.cells]⟩
  | .node c k r, G, h, hok => by
    simp only [normF] at h
    obtain ⟨hcb, hby, h3, hn3, hk, hr⟩ := hok
    cases ha : normH c k (normF k) with
    | none => rw [ha] at h; simp [catO] at h
    | some a =>
      cases hb : normF r with
      | none => rw [ha, hb] at h; simp [catO] at h
      | some b =>
        rw [ha, hb] at h
        simp only [catO, Option.some.injEq] at h
        subst h
        obtain ⟨i1, i2, i3⟩ := normF_ok r b hb hr
        have key : a.ok ∧ a.count = 1 ∧ a.cells.length ≤ 3 * (k.cells.length + 1) := by
          unfold normH at ha
          by_cases e0 : c.1 = 0
          · rw [if_pos e0] at ha
            cases ha
            refine ⟨⟨rfl, byte_of rfl, fun _ => rfl, fun h => absurd rfl h, ⟨hcb, hby, fun h => ?_, fun _ => rfl, trivial, trivial⟩, trivial⟩, rfl, ?_⟩
            · omega
            · simp [Fo.cells]; omega
          · rw [if_neg e0] at ha
            by_cases e1 : c.1 = 1 ∨ dolL c.2.2 = true
            · rw [if_pos e1] at ha; cases ha
            · rw [if_neg e1] at ha
              by_cases e2 : conC c = true
              · rw [if_pos e2] at ha
                cases hk' : normF k with
                | none => rw [hk'] at ha; cases ha
                | some k' =>
                  rw [hk'] at ha
                  simp only [Option.map_some, Option.some.injEq] at ha
                  subst ha
                  obtain ⟨j1, j2, j3⟩ := normF_ok k k' hk' hk
                  obtain ⟨l1, l2, l3⟩ := normK_ok hcb hby e2 j1 (by rw [j2]; exact h3 (conC_comp e2))
                  exact ⟨l1, l2, by omega⟩
              · rw [if_neg e2] at ha
                cases ha
                exact ⟨⟨hcb, hby, h3, hn3, hk, trivial⟩, rfl, by simp [Fo.cells]; omega⟩
        exact ⟨(Fo.ok_cat _ _).2 ⟨key.1, i1⟩, by rw [Fo.count_cat, key.2.1, i2]; simp only [Fo.count]; omega, by rw [Fo.cells_cat]; simp only [List.length_append, Fo.cells, List.length_cons]; have := key.2.2; omega⟩
theorem normT_ok {c : Cel} {k G : Fo} (h : normT c k = some G) (hok : (Fo.node c k .nil).ok) : ∃ c' k', G = .node c' k' .nil ∧ G.ok ∧ G.cells.length ≤ 3 * (k.cells.length + 1) := by
  rw [← normF_one] at h
  obtain ⟨h1, h2, h3⟩ := normF_ok _ _ h hok
  obtain ⟨c', k', rfl⟩ := count_one (k := G) h2
  exact ⟨c', k', rfl, h1, by simpa [Fo.cells] using h3⟩

end Go.Proofs.YtemohfhblpejmaaDoor

