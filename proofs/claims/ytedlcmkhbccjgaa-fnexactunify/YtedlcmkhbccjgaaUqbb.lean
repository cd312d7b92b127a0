/- Texts of Um5, NextG, ArgU. Own work of the verifier. -/
import Derived.Test.YtedlcmkhbccjgaaUqba
import Derived.Test.YtedlcmkhbccjgaaUqag
import Derived.Test.YtedlcmkhbccjgaaUqat
import Derived.Test.YtedlcmkhbccjgaaUqah
namespace Go.Proofs.Ytedlcmkhbccjgaa
open Go Go.RowKit
set_option linter.unusedVariables false

/-- All variables of a tree have been looked at. -/
def Shut (M : BM) (v : Int) (S : List Int) (z : Tr) : Prop := ∀ y ∈ vsT z, y ≠ v ∧ (M y = none ∨ y ∈ S)
/-- The trees that are gone through: the first, and those of the variables that have been seen. -/
def Gone (M : BM) (t : Tr) (S : List Int) (z : Tr) : Prop := z = t ∨ ∃ x ∈ S, M x = some z
theorem Gone.more {M : BM} {t z : Tr} {S : List Int} (y : Int) (h : Gone M t S z) : Gone M t (y :: S) z := h.imp id fun ⟨x, hx, e⟩ => ⟨x, List.mem_cons_of_mem _ hx, e⟩
theorem Shut.more {M : BM} {v : Int} {z : Tr} {S : List Int} (y : Int) (h : Shut M v S z) : Shut M v (y :: S) z := fun w hw => ⟨(h w hw).1, (h w hw).2.imp id (List.mem_cons_of_mem _)⟩
theorem Reach.on {M : BM} {t u : Tr} {y w : Int} (h : Reach M t y) (hm : M y = some u) (hw : w ∈ vsT u) : Reach M t w := by
  induction h with
  | here h => exact .thro h hm (.here hw)
  | thro hw' hm' _ ih => exact .thro hw' hm' (ih hm)
/-- Between two rounds: what is left to do. -/
structure StS (M : BM) (t : Tr) (v : Int) (S : List Int) (todo : List Tr) : Prop where
  nodup : S.Nodup
  clos : ∀ z, Gone M t S z → z ∈ todo ∨ Shut M v S z
  reach : ∀ z ∈ todo, ∀ y ∈ vsT z, Reach M t y
theorem StS.start (M : BM) (t : Tr) (v : Int) : StS M t v [] [t] := ⟨List.nodup_nil, fun z h => by
  rcases h with rfl | ⟨x, hx, _⟩
  · exact .inl (by simp)
  · exact absurd hx (by simp), fun z hz y hy => by rw [List.mem_singleton.1 hz] at hy; exact .here hy⟩
theorem StS.done {M : BM} {t : Tr} {v : Int} {S : List Int} (h : StS M t v S []) : ¬ Reach M t v := by
  have key : ∀ z, Reach M z v → Gone M t S z → False := fun z hr => by
    induction hr with
    | @here z w hw =>
      intro hg
      rcases h.clos z hg with h' | h'
      · cases h'
      · exact (h' w hw).1 rfl
    | @thro z u w v hw hm hr ih =>
      intro hg
      rcases h.clos z hg with h' | h'
      · cases h'
      · rcases (h' w hw).2 with h'' | h''
        · rw [hm] at h''; cases h''
        · exact ih h (.inr ⟨w, h'', hm⟩)
  exact fun hr => key t hr (.inl rfl)
/-- In a round: the tree z, whose first i cells have been looked at. -/
structure StI (M : BM) (t : Tr) (v : Int) (S : List Int) (todo : List Tr) (z : Tr) (i : Nat) : Prop where
  nodup : S.Nodup
  clos : ∀ z', Gone M t S z' → z' ∈ todo ∨ z' = z ∨ Shut M v S z'
  reach : ∀ z' ∈ todo, ∀ y ∈ vsT z', Reach M t y
  here : ∀ y ∈ vsT z, Reach M t y
  pre : ∀ j, j < i → ((tcs z).getD j Cel.none).1 = 0 → ((tcs z).getD j Cel.none).2.1 ≠ v ∧ (M ((tcs z).getD j Cel.none).2.1 = none ∨ ((tcs z).getD j Cel.none).2.1 ∈ S)
theorem StS.take {M : BM} {t : Tr} {v : Int} {S : List Int} {todo : List Tr} {z : Tr} (h : StS M t v S (todo ++ [z])) : StI M t v S todo z 0 := ⟨h.nodup, fun z' hz => by
  rcases h.clos z' hz with h' | h'
  · rcases List.mem_append.1 h' with h' | h'
    · exact .inl h'
    · exact .inr (.inl (List.mem_singleton.1 h'))
  · exact .inr (.inr h'), fun z' hz => h.reach z' (List.mem_append.2 (.inl hz)), h.reach z (by simp), fun j hj => by omega⟩
theorem StI.shut {M : BM} {t : Tr} {v : Int} {S : List Int} {todo : List Tr} {z : Tr} (h : StI M t v S todo z (tcs z).length) : StS M t v S todo := by
  have hz : Shut M v S z := fun y hy => by
    obtain ⟨c, hc, h0, e⟩ := vs_cell z.fo y hy
    rw [tcs_fo] at hc
    obtain ⟨j, hj, ej⟩ := List.getElem_of_mem hc
    have := h.pre j hj
    rw [List.getD, List.getElem?_eq_getElem hj, Option.getD_some, ej, e] at this
    exact this h0
  exact ⟨h.nodup, fun z' hz' => by
    rcases h.clos z' hz' with h' | rfl | h'
    · exact .inl h'
    · exact .inr hz
    · exact .inr h', h.reach⟩
/-- A cell that asks for nothing. -/
theorem StI.skip {M : BM} {t : Tr} {v : Int} {S : List Int} {todo : List Tr} {z : Tr} {i : Nat} (h : StI M t v S todo z i) (hc : ((tcs z).getD i Cel.none).1 = 0 → ((tcs z).getD i Cel.none).2.1 ≠ v ∧ (M ((tcs z).getD i Cel.none).2.1 = none ∨ ((tcs z).getD i Cel.none).2.1 ∈ S)) : StI M t v S todo z (i + 1) := ⟨h.nodup, h.clos, h.reach, h.here, fun j hj h0 => by
  by_cases e : j = i
  · rw [e] at h0 ⊢; exact hc h0
  · exact h.pre j (by omega) h0⟩
theorem cell_var {z : Tr} {i : Nat} (hi : i < (tcs z).length) (h0 : ((tcs z).getD i Cel.none).1 = 0) : ((tcs z).getD i Cel.none).2.1 ∈ vsT z := by
  have hm : (tcs z).getD i Cel.none ∈ z.fo.cells := by rw [tcs_fo]; simp [List.getD, hi]
  exact cell_vs z.fo _ hm h0
theorem StI.hit {M : BM} {t : Tr} {v : Int} {S : List Int} {todo : List Tr} {z : Tr} {i : Nat} (h : StI M t v S todo z i) (hi : i < (tcs z).length) (h0 : ((tcs z).getD i Cel.none).1 = 0) (e : ((tcs z).getD i Cel.none).2.1 = v) : Reach M t v := by
  have := h.here _ (cell_var hi h0)
  rw [e] at this
  exact this
/-- A bound variable that has not been seen. -/
theorem StI.push {M : BM} {t : Tr} {v : Int} {S : List Int} {todo : List Tr} {z u : Tr} {i : Nat} (h : StI M t v S todo z i) (hi : i < (tcs z).length) (h0 : ((tcs z).getD i Cel.none).1 = 0) (hne : ((tcs z).getD i Cel.none).2.1 ≠ v) (hm : M ((tcs z).getD i Cel.none).2.1 = some u) (hns : ((tcs z).getD i Cel.none).2.1 ∉ S) :
    StI M t v (((tcs z).getD i Cel.none).2.1 :: S) (todo ++ [u]) z (i + 1) := by
  have hr := h.here _ (cell_var hi h0)
  refine ⟨List.nodup_cons.2 ⟨hns, h.nodup⟩, fun z' hz' => ?_, fun z' hz' y hy => ?_, h.here, fun j hj hj0 => ?_⟩
  · rcases hz' with rfl | ⟨x, hx, e⟩
    · rcases h.clos z' (.inl rfl) with h' | h' | h'
      · exact .inl (List.mem_append.2 (.inl h'))
      · exact .inr (.inl h')
      · exact .inr (.inr (h'.more _))
    · rcases List.mem_cons.1 hx with rfl | hx
      · rw [hm] at e
        cases e
        exact .inl (by simp)
      · rcases h.clos z' (.inr ⟨x, hx, e⟩) with h' | h' | h'
        · exact .inl (List.mem_append.2 (.inl h'))
        · exact .inr (.inl h')
        · exact .inr (.inr (h'.more _))
  · rcases List.mem_append.1 hz' with h' | h'
    · exact h.reach z' h' y hy
    · rw [List.mem_singleton.1 h'] at hy
      exact hr.on hm hy
  · by_cases e : j = i
    · rw [e]; exact ⟨hne, .inr (by simp)⟩
    · have := h.pre j (by omega) hj0
      exact ⟨this.1, this.2.imp id (List.mem_cons_of_mem _)⟩
/-- The fuel falls. -/
theorem runU_fuel (cF cC cL : Int) : ∀ (k : Nat) (M : BM) (ps : List TT) (M' : BM) (k' : Nat), runU cF cC cL k M ps = .ok (M', k') → k' ≤ k
  | k, M, [], M', k', h => by rw [runU_nil] at h; cases h; exact Nat.le_refl _
  | 0, M, p :: ps, M', k', h => by cases h
  | k + 1, M, p :: ps, M', k', h => by
    rw [runU] at h
    cases hs : stepE cF cC M (endB M p.1) (endB M p.2) with
    | error c => rw [hs] at h; cases h
    | ok r =>
      obtain ⟨M1, qs⟩ := r
      rw [hs] at h
      simp only at h
      have := runU_fuel cF cC cL k M1 (qs ++ ps) M' k' h
      omega
/-- One pair and its arguments. -/
theorem runU_one (cF cC cL : Int) (k : Nat) (M : BM) (x y : Tr) : runU cF cC cL (k + 1) M [(x, y)] = match stepE cF cC M (endB M x) (endB M y) with
    | .error c => .error c
    | .ok (M', qs) => runU cF cC cL k M' qs := by
  rw [runU]
  cases hs : stepE cF cC M (endB M x) (endB M y) with
  | error c => rfl
  | ok r => simp only [List.append_nil]
theorem runU_cons (cF cC cL : Int) (k : Nat) (M : BM) (p : TT) (ps : List TT) : runU cF cC cL k M (p :: ps) = match runU cF cC cL k M [p] with
    | .error c => .error c
    | .ok (M', k') => runU cF cC cL k' M' ps := runU_append cF cC cL k M [p] ps

end Go.Proofs.Ytedlcmkhbccjgaa

namespace Go.Proofs.Ytedlcmkhbccjgaa
open Go Go.RowKit
set_option linter.unusedVariables false

theorem CIn.part {w : World} {b o : Nat} {cs ds : List Cel} (h : ∀ i, i < cs.length → CAt w b (o + i * 3) (cs.getD i Cel.none)) (j : Nat) (hd : ds <+: cs.drop j) : CIn w (some ⟨b, o + j * 3, none⟩) ds := fun _ => by
  refine ⟨b, o + j * 3, rfl, fun i hi => ?_⟩
  obtain ⟨r, hr⟩ := hd
  have hl : j + i < cs.length := by
    have := congrArg List.length hr
    simp at this; omega
  have e : cs.getD (j + i) Cel.none = ds.getD i Cel.none := by
    have h1 : (cs.drop j)[i]? = ds[i]? := by rw [← hr, List.getElem?_append_left hi]
    rw [List.getElem?_drop] at h1
    simp only [List.getD, h1]
  have := h (j + i) hl
  rw [e, show o + (j + i) * 3 = o + j * 3 + i * 3 by omega] at this
  exact this
/-- The k-th cell of what a forest's cells begin with. -/
theorem drop_cell {cs : List Cel} {j : Nat} {c : Cel} {r : List Cel} (h : cs.drop j = c :: r) : j < cs.length ∧ cs.getD j Cel.none = c ∧ cs.drop (j + 1) = r := by
  have hl : j < cs.length := by
    rcases Nat.lt_or_ge j cs.length with h' | h'
    · exact h'
    · rw [List.drop_eq_nil_of_le h'] at h; cases h
  rw [List.drop_eq_getElem_cons hl] at h
  injection h with h1 h2
  exact ⟨hl, by simp [List.getD, hl, h1], h2⟩

set_option maxRecDepth 100000 in
theorem l2next_any (p : Option Addr) (n cap : Nat) (cs : List Cel) (at_ : Nat) (c : Cel) (k : Fo) (tail : List Cel) (w : World) (hn : n = cs.length) (hm : n ≤ 1000000) (hd : cs.drop at_ = c :: (k.cells ++ tail)) (hok : (Fo.node c k .nil).ok) (hin : CIn w p cs) :
    Calls Try.prog 27 #[.slice p n cap, .int .i64 at_] w fun e w' => e = .returned (.int .i64 ((at_ + 1 + k.cells.length : Nat) : Int)) ∧ w' = w := by
  obtain ⟨E, eE⟩ : ∃ E, E = at_ + 1 + k.cells.length := ⟨_, rfl⟩
  have HE : Hid (E = at_ + 1 + k.cells.length) := eE
  have hEn : E ≤ n := by
    have := congrArg List.length hd
    simp at this; omega
  have HD : Hid (cs.drop at_ = (Fo.node c k .nil).cells ++ tail ∧ n = cs.length) := ⟨by simp [Fo.cells, hd], hn⟩
  have HOK : Hid (Fo.node c k .nil).ok := hok
  have HIN : Hid (CIn w p cs) := hin
  have hA : at_ ≤ E := by omega
  rw [← eE]
  clear hn hd hok hin eE
  go_enter Try.func27, Try.ntmps27
  go_wp2
  go_loop [1, 5] (fun a l => ∃ (j : Nat) (q : Nat), j ≤ E ∧ a = .int .i64 j ∧ l = .int .i64 q ∧ q ≤ 1000000 ∧ Hid (∃ F : Fo, F.ok ∧ F.count = q ∧ cs.drop j = F.cells ++ tail ∧ j + F.cells.length = E)) (fun a _ => E - (intOf a).toNat)
  case atStart => exact ⟨at_, 1, hA, rfl, rfl, by decide, .node c k .nil, HOK.out, rfl, HD.out.1, by rw [HE.out]; simp [Fo.cells]; omega⟩
  case round =>
    obtain ⟨j, q, hj, rfl, rfl, hq, HF⟩ := hrel
    by_cases h0 : 0 < q
    · obtain ⟨F, hFok, hFc, hFd, hFl⟩ := HF.out
      cases F with
      | nil => simp [Fo.count] at hFc; omega
      | node c1 k1 r1 =>
        simp only [Fo.cells, List.cons_append, List.append_assoc] at hFd
        obtain ⟨hjl, hg, hd1⟩ := drop_cell hFd
        have hjn : j < n := by rw [HD.out.2]; exact hjl
        obtain ⟨b, o, rfl, hcs⟩ := HIN.out (by omega)
        obtain ⟨p0, q0, d0, d1, _, _⟩ := hcs j hjl
        rw [hg] at d0 d1
        have hjE : j + 1 ≤ E := by rw [← hFl]; simp only [Fo.cells, List.length_cons, List.length_append]; omega
        have hcB := hFok.1
        by_cases h3 : c1.1 = 3
        · have hc1 := hFok.2.2.1 h3
          rw [h3] at hcB
          have hb20 := cellB_comp hcB
          have HN : Hid (∃ F : Fo, F.ok ∧ F.count = q + k1.count - 1 ∧ cs.drop (j + 1) = F.cells ++ tail ∧ j + 1 + F.cells.length = E) := by
            refine ⟨k1.cat r1, (Fo.ok_cat _ _).2 ⟨hFok.2.2.2.2.1, hFok.2.2.2.2.2⟩, ?_, ?_, ?_⟩
            · rw [Fo.count_cat]; simp [Fo.count] at hFc; omega
            · rw [Fo.cells_cat, hd1, List.append_assoc]
            · rw [Fo.cells_cat, ← hFl]; simp [Fo.cells]; omega
          rw [h3] at d0
          rw [hc1] at d1
          have hk20 : k1.count ≤ 20 := by omega
          have hq2 : q + k1.count - 1 ≤ 1000000 := by
            obtain ⟨F, _, hc, _, hl⟩ := HN.out
            have := Fo.count_le F
            omega
          obtain ⟨m, em⟩ : ∃ m, m = k1.count := ⟨_, rfl⟩
          rw [← em] at d1 hk20 HN hq2
          have hm1 : 1 ≤ m := by omega
          clear hFok hFc hFd hFl hcs hcB h3 hc1 hb20 hd1 hg em HF
          go_wp2
          go_round
          case rel => exact ⟨j + 1, q + m - 1, hjE, by go_num, by go_num, hq2, HN⟩
          case measure => simp [intOf]; omega
        · have hk1 : k1 = .nil := hFok.2.2.2.1 h3
          have h3' : (c1.1 == 3) = false := by simpa using h3
          have HN : Hid (∃ F : Fo, F.ok ∧ F.count = q - 1 ∧ cs.drop (j + 1) = F.cells ++ tail ∧ j + 1 + F.cells.length = E) := by
            refine ⟨r1, hFok.2.2.2.2.2, ?_, ?_, ?_⟩
            · simp [Fo.count] at hFc; omega
            · rw [hd1, hk1]; rfl
            · rw [← hFl, hk1]; simp [Fo.cells]; omega
          obtain ⟨kd, ekd⟩ : ∃ kd, kd = c1.1 := ⟨_, rfl⟩
          rw [← ekd] at d0 h3'
          clear hFok hFc hFd hFl hcs hcB h3 hd1 hg HF hk1 ekd
          go_wp2
          go_round
          case rel => exact ⟨j + 1, q - 1, hjE, by go_num, by go_num, by omega, HN⟩
          case measure => simp [intOf]; omega
    · obtain rfl : q = 0 := by omega
      have HJ : Hid (j = E) := by
        obtain ⟨F, _, hc, _, hl⟩ := HF.out
        cases F with
        | nil => simpa [Fo.cells, Hid] using hl
        | node a b d => simp [Fo.count] at hc
      clear HF
      go_wp2
      go_ret
      exact ⟨ret_int (by rw [HJ.out]), rfl⟩

/-- Rows of different kinds lie apart. -/
theorem rows_apart {w : World} {B B' s s' n n' : Nat} {e e' : TypeId} {v v' : Value} {xs xs' : List Value} (h : w.ownsRow B e s v n xs) (h' : w.ownsRow B' e' s' v' n' xs') (hne : e ≠ e') : v.ownBlock = none ∨ v.ownBlock ≠ v'.ownBlock := by
  rcases h.2 with ⟨rfl, _⟩ | ⟨g, cap, cur, rfl, _, hh, _⟩
  · exact .inl rfl
  · right
    intro e0
    rcases h'.2 with ⟨rfl, _⟩ | ⟨g', cap', cur', rfl, _, hh', _⟩
    · cases e0
    · cases e0
      rw [hh] at hh'
      cases hh'
      exact hne rfl
def slV (r : Option Addr × Nat × Nat) : Value := .slice r.1 r.2.1 r.2.2
/-- append of a slice of cells. -/
theorem app_sl (w : World) {ops : Array Oper} {rest : List Oper} {o : Oper} {a : Act} {Q : Exit → Act → World → Prop} (hgd : o.guard = none) (s x : Operand)
    (ho : o.op = .call { callee := .builtin .append, args := #[s, x], argTypes := #[46, 46] }) (B : Nat) (p : Option Addr) (n c : Nat) (rs : List (Option Addr × Nat × Nat)) (q : Option Addr) (m c' : Nat)
    (hs : a.eval s = .slice p n c) (hown : w.ownsRow B 25 1 (.slice p n c) n (rs.map slV)) (hx : a.eval x = .slice (some ⟨w.heap.size, 0, none⟩) 1 1)
    (hlen : n + 1 ≤ 1000000) (hbase : B ≤ w.heap.size)
    (h : ∀ g cap w', w'.ownsRow B 25 1 (.slice (some ⟨g, 0, none⟩) (n + 1) cap) (n + 1) ((rs ++ [(q, m, c')]).map slV) → (w.alloc (.cells #[.slice q m c'] 25)).grownBy w' (Value.ownBlock (.slice p n c)) → wpList Try.prog ops Q rest (a.put o.dst (.slice (some ⟨g, 0, none⟩) (n + 1) cap)) w') : wpList Try.prog ops Q (o :: rest) a (w.alloc (.cells #[.slice q m c'] 25)) := by
  obtain ⟨i0, hi, hz0, hz1, hz2⟩ := info_parts infoCells
  refine wpList_append_lies _ hgd s x 46 ho B 25 i0 (.slice none 0 0) 1 24 Try.underlying46 hi hz0 hz1 hz2 rfl (by decide) (.slice p n c) n (rs.map slV) hs (hown.alloc _) ⟨w.heap.size, 0, none⟩ 1 1 [.slice q m c'] hx rfl (cell_one_new _ _ _) (by simp [Value.oneCell']) (by decide) (by unfold maxLen; omega) (by omega) (by simp; omega) _ rfl ?_
  intro g cap w' hown' hgrow hat hlt
  exact h g cap w' (by rw [List.map_append]; exact hown') hgrow

end Go.Proofs.Ytedlcmkhbccjgaa

namespace Go.Proofs.Ytedlcmkhbccjgaa
open Go Go.RowKit
set_option linter.unusedVariables false
set_option linter.unusedSimpArgs false

/-- Slices of cells, each a tree. -/
def ArgRowU (w : World) : List (Option Addr × Nat × Nat) → List Tr → Prop
  | [], [] => True
  | r :: rs, t :: ts => r.2.1 = 1 + t.2.cells.length ∧ r.2.1 ≤ r.2.2 ∧ r.2.2 ≤ 1000000000 ∧ CIn w r.1 (t.1 :: t.2.cells) ∧ ArgRowU w rs ts
  | [], _ :: _ => False
  | _ :: _, [] => False
theorem ArgRowU.snoc {w : World} {r : Option Addr × Nat × Nat} {t : Tr} (h1 : r.2.1 = 1 + t.2.cells.length) (h2 : r.2.1 ≤ r.2.2) (h3 : r.2.2 ≤ 1000000000) (h4 : CIn w r.1 (t.1 :: t.2.cells)) : ∀ {rs : List (Option Addr × Nat × Nat)} {ts : List Tr}, ArgRowU w rs ts → ArgRowU w (rs ++ [r]) (ts ++ [t])
  | [], [], _ => ⟨h1, h2, h3, h4, trivial⟩
  | _ :: _, _ :: _, h => ⟨h.1, h.2.1, h.2.2.1, h.2.2.2.1, ArgRowU.snoc h1 h2 h3 h4 h.2.2.2.2⟩
  | [], _ :: _, h => h.elim
  | _ :: _, [], h => h.elim
/-- What l2args has done: D, what is left: G. -/
structure ArgStU (W0 w wr : World) (cs : List Cel) (k : Fo) (a : Nat) (D : List Tr) (G : Fo) (pt : Option Addr) (nt ct : Nat) (rs : List (Option Addr × Nat × Nat)) : Prop where
  gd : cs.drop a = G.cells
  gok : G.ok
  all : D ++ trs G = trs k
  cnt : nt = D.length
  row : wr.ownsRow w.heap.size 25 1 (.slice pt nt ct) nt (rs.map slV)
  arg : ArgRowU W0 rs D
  low : Below w.heap.size w wr
def ArgsOutU (W0 w : World) (k : Fo) (e : Ending) (w' : World) : Prop := ∃ q m mc rs, e = .returned (.slice q m mc) ∧ m = k.count ∧ w'.ownsRow w.heap.size 25 1 (.slice q m mc) m (rs.map slV) ∧ ArgRowU W0 rs (trs k) ∧ Below w.heap.size w w'

set_option maxRecDepth 100000 in
set_option maxHeartbeats 2000000 in
theorem l2argsU_any (c : Cel) (k : Fo) (p : Option Addr) (n cap : Nat) (W0 w : World) (hW : Below W0.heap.size W0 w) (h3 : c.1 = 3) (hok : (Fo.node c k .nil).ok) (hn : n = (c :: k.cells).length) (hnm : n ≤ 2000) (hcap : n ≤ cap) (hcm : cap ≤ 1000000000) (hin0 : CIn W0 p (c :: k.cells)) :
    Calls Try.prog 77 #[.slice p n cap] w (ArgsOutU W0 w k) := by
  have hin := hin0.below hW
  obtain ⟨b, o, rfl, hcs⟩ := hin (by simp)
  obtain ⟨b0, o0, eb0, hcs0⟩ := hin0 (by simp)
  cases eb0
  have HK : Hid (∀ wr, Below w.heap.size w wr → wr.cell? ⟨b, o, none⟩ = some (.int .i64 3) ∧ wr.cell? ⟨b, o + 1, none⟩ = some (.int .i64 k.count)) := fun wr hb => by
    obtain ⟨p0, q0, d0, d1, _, _⟩ := (hcs 0 (by simp)).below hb
    simp only [List.getD_cons_zero, Nat.zero_mul, Nat.add_zero] at d0 d1
    rw [h3] at d0
    rw [hok.2.2.1 h3] at d1
    exact ⟨d0, d1⟩
  obtain ⟨d0, d1⟩ := HK.out w (Below.refl _ _)
  have hb20 : k.count ≤ 20 := by
    have h := hok.1
    rw [h3] at h
    have := cellB_comp h
    have := hok.2.2.1 h3
    omega
  have HST : Hid (ArgStU W0 w w (c :: k.cells) k 1 [] k none 0 0 []) := ⟨rfl, hok.2.2.2.2.1, rfl, rfl, World.ownsRow_nil _ _ _ _, trivial, Below.refl _ _⟩
  have HGL : Hid (1 + k.cells.length = n) := by show _ = _; rw [hn]; simp; omega
  obtain ⟨cs, ecs⟩ : ∃ cs, cs = c :: k.cells := ⟨_, rfl⟩
  rw [← ecs] at hcs hn HST hin hcs0
  have HX : Hid (∀ i, i < cs.length → CAt W0 b (o + i * 3) (cs.getD i Cel.none)) := hcs0
  have HIN : Hid (CIn w (some ⟨b, o, none⟩) cs) := hin
  have HN : Hid (n = cs.length) := hn
  obtain ⟨M, eM⟩ : ∃ M, M = k.count := ⟨_, rfl⟩
  have HM : Hid (M = k.count) := eM
  rw [← eM] at HK d1 hb20
  have hn0 : 0 < n := by have := HGL.out; omega
  have hn00 : ((n : Int) == 0) = false := by rw [beq_eq_false_iff_ne]; omega
  clear hcs hin hn ecs eM h3 hok hcs0 hin0
  go_enter Try.func77, Try.ntmps77
  go_wp2_with fail
  clear d0 d1
  go_loopw [3, 4, 5] (fun s3 s4 s5 wr => ∃ (a : Nat) (D : List Tr) (G : Fo) (pt : Option Addr) (nt ct : Nat) (rs : List (Option Addr × Nat × Nat)), a ≤ n ∧ nt ≤ M ∧ s3 = .slice pt nt ct ∧ s4 = .int .i64 a ∧ s5 = .int .i64 nt ∧ Hid (a + G.cells.length = n) ∧ Hid (ArgStU W0 w wr cs k a D G pt nt ct rs)) (fun _ _ i _ => M - (intOf i).toNat)
  case atStart => exact ⟨1, [], k, none, 0, 0, [], by omega, Nat.zero_le _, rfl, rfl, rfl, HGL.out, HST.out⟩
  case round =>
    obtain ⟨a, D, G, pt, nt, ct, rs, ha, hnt, rfl, rfl, rfl, HL, HS⟩ := hrel
    obtain ⟨d0, d1⟩ := HK.out wr HS.out.low
    by_cases hlt : nt < M
    · obtain ⟨c1, k1, r1, rfl⟩ : ∃ c k r, G = .node c k r := by
        cases G with
        | nil =>
          have h1 := HS.out.all
          have h2 := congrArg List.length h1
          have h3 := HS.out.cnt
          have h4 := HM.out
          simp [trs, trs_len] at h2
          omega
        | node c k r => exact ⟨c, k, r, rfl⟩
      have hgd : cs.drop a = c1 :: (k1.cells ++ r1.cells) := HS.out.gd
      have HO : Hid (Fo.node c1 k1 r1).ok := HS.out.gok
      have HT : Hid (Fo.node c1 k1 .nil).ok := ⟨HO.out.1, HO.out.2.1, HO.out.2.2.1, HO.out.2.2.2.1, HO.out.2.2.2.2.1, trivial⟩
      have HNX := l2next_any (some ⟨b, o, none⟩) n cap cs a c1 k1 r1.cells wr HN.out (by omega) hgd HT.out (HIN.out.below HS.out.low)
      have HPT : Hid (CIn W0 (some ⟨b, o + a * 3, none⟩) (c1 :: k1.cells)) := CIn.part HX.out a (by rw [hgd]; exact ⟨r1.cells, by simp⟩)
      obtain ⟨L, eL⟩ : ∃ L, L = 1 + k1.cells.length := ⟨_, rfl⟩
      have HEL : Hid (L = 1 + k1.cells.length) := eL
      have hnx : a + 1 + k1.cells.length = a + L := by omega
      have HDR : Hid (cs.drop (a + L) = r1.cells) := by
        show _ = _
        rw [← hnx, show a + 1 + k1.cells.length = (a + 1) + k1.cells.length by omega, ← List.drop_drop, (drop_cell hgd).2.2]; simp
      have hle : a + L ≤ n := by have := HL.out; simp [Fo.cells] at this; omega
      rw [hnx] at HNX
      have HLL : Hid (a + L + r1.cells.length = n) := by show _ = _; have := HL.out; simp [Fo.cells] at this; omega
      have hL1 : 1 ≤ L := by omega
      have hma : (0 : Int) < (cap : Int) - (a : Int) := by omega
      have hL2 : (a : Int) ≤ (a : Int) + (L : Int) := by omega
      have hL3 : (a : Int) + (L : Int) ≤ (n : Int) := by omega
      have hL4 : (a : Int) + (L : Int) ≤ (cap : Int) := by omega
      have hcap1 : ¬ cap = a := by omega
      have hcap2 : ¬ cap - a = 0 := by omega
      have hltI : (nt : Int) < (M : Int) := by omega
      clear hgd eL hnx
      go_wp2_with fail
      refine HNX.mono ?_
      rintro e w3 ⟨rfl, rfl⟩
      clear HNX
      go_wp2_with (at_builtin; refine app_sl _ rfl _ _ rfl w.heap.size pt nt ct rs (some ⟨b, o + a * 3, none⟩) L (cap - a) rfl HS.out.row rfl (by omega) HS.out.low.size ?_; intro g6 cap6 w6 hown6 hg6)
      have hbal := HS.out.low.alloc HS.out.low.size (.cells #[.slice (some ⟨b, o + a * 3, none⟩) L (cap - a)] 25)
      have HS6 : Hid (ArgStU W0 w w6 cs k (a + L) (D ++ [(c1, k1)]) r1 (some ⟨g6, 0, none⟩) (nt + 1) cap6 (rs ++ [(some ⟨b, o + a * 3, none⟩, L, cap - a)])) :=
        ⟨HDR.out, HO.out.2.2.2.2.2, by rw [← HS.out.all]; simp [trs], by rw [HS.out.cnt]; simp, hown6, ArgRowU.snoc HEL.out (by simp only; omega) (by simp only; omega) HPT.out HS.out.arg, hbal.grown hg6 hbal.size (fun k e => (HS.out.row.lt k e).1)⟩
      clear hown6 hg6 hbal
      go_roundw
      case rel => exact ⟨a + L, D ++ [(c1, k1)], r1, some ⟨g6, 0, none⟩, nt + 1, cap6, _, by omega, by omega, rfl, by go_num, by go_num, HLL.out, HS6⟩
      case measure => simp [intOf]; omega
    · obtain rfl : nt = M := by omega
      have HF : Hid (ArgRowU W0 rs (trs k)) := by
        show ArgRowU W0 rs (trs k)
        have h1 := HS.out.all
        have h2 := congrArg List.length h1
        have h3 := HS.out.cnt
        have h4 := HM.out
        simp [trs_len] at h2
        have h5 : trs G = [] := List.length_eq_zero_iff.1 (by rw [trs_len]; omega)
        rw [h5, List.append_nil] at h1
        rw [← h1]; exact HS.out.arg
      go_wp2_with fail
      go_ret
      exact ⟨pt, _, ct, rs, rfl, HM.out, HS.out.row, HF.out, HS.out.low⟩

set_option maxRecDepth 100000 in
set_option maxHeartbeats 1000000 in
theorem l2args_leaf (c : Cel) (k : Fo) (p : Option Addr) (n cap : Nat) (w : World) (h3 : c.1 ≠ 3) (hn : n = (c :: k.cells).length) (hnm : n ≤ 2000) (hin : CIn w p (c :: k.cells)) :
    Calls Try.prog 77 #[.slice p n cap] w fun e w' => e = .returned (.slice none 0 0) ∧ w' = w := by
  obtain ⟨b, o, rfl, hcs⟩ := hin (by simp)
  obtain ⟨p0, q0, d0, _⟩ := hcs 0 (by simp)
  simp only [List.getD_cons_zero, Nat.zero_mul, Nat.add_zero] at d0
  have hn0 : 0 < n := by rw [hn]; simp
  have hn00 : ((n : Int) == 0) = false := by rw [beq_eq_false_iff_ne]; omega
  have hk : (c.1 == 3) = false := by simpa using h3
  obtain ⟨kd, ek⟩ : ∃ kd, kd = c.1 := ⟨_, rfl⟩
  rw [← ek] at d0 hk
  clear hcs hin hn h3 ek
  go_enter Try.func77, Try.ntmps77
  go_wp2_with fail
  go_ret
  exact ⟨rfl, rfl⟩

end Go.Proofs.Ytedlcmkhbccjgaa

