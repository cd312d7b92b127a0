/- Terms put in for variables, as a function; the map of what is bound. Own work of the verifier. -/
import Derived.Test.YtjbckdmlogjggaaBD4
import Derived.Test.YtjbckdmlogjggaaVMap
namespace Go.Proofs.Ytjbckdmlogjggaa
open Go Go.RowKit
set_option linter.unusedVariables false

def sub1 (bs : List Bnd) (c : Cel) : List Cel := if c.1 = 0 then (match look bs c.2.1 with | some t => t | none => [c]) else [c]
def applyC (bs : List Bnd) (cs : List Cel) : List Cel := cs.flatMap (sub1 bs)
def szV (bs : List Bnd) (v : Int) : Nat := match look bs v with | some t => max 1 t.length | none => 1
def sz1 (bs : List Bnd) (c : Cel) : Nat := if c.1 = 0 then szV bs c.2.1 else 1
def szC (bs : List Bnd) : List Cel → Nat
  | [] => 0
  | c :: r => sz1 bs c + szC bs r
theorem szC_append (bs : List Bnd) : ∀ a b : List Cel, szC bs (a ++ b) = szC bs a + szC bs b
  | [], b => by simp [szC]
  | c :: r, b => by simp [szC, szC_append bs r b]; omega
def envC (y : Int × Tr) : Bnd := (y.1, y.2.1 :: y.2.2.cells)
/-- The trees of a substitution. -/
def EnvOf (bs : List Bnd) (env : Env) : Prop := bs = env.map envC ∧ ∀ y ∈ env, y.2.ok ∧ (y.2.1 :: y.2.2.cells).length ≤ 2000
theorem validB_len {cs : List Cel} (h : validB cs = true) : cs.length ≤ 2000 := by
  simp only [validB, Bool.and_eq_true, decide_eq_true_eq] at h
  exact h.1
theorem env_of : ∀ (bs : List Bnd) (last : Int), substFrom last bs = true → (∀ b ∈ bs, ∀ j, j < b.2.length → Byte (b.2.getD j Cel.none).2.2) → ∃ env, EnvOf bs env
  | [], _, _, _ => ⟨[], rfl, fun y h => by cases h⟩
  | b :: r, last, h, hb => by
    simp only [substFrom, bndB, Bool.and_eq_true, decide_eq_true_eq] at h
    obtain ⟨env, he, hok⟩ := env_of r b.1 h.2 (fun x hx => hb x (by simp [hx]))
    obtain ⟨c, k, e, hck, hl⟩ := tree_of (hb b (by simp)) h.1.2
    refine ⟨(b.1, (c, k)) :: env, ?_, fun y hy => ?_⟩
    · rw [List.map_cons, ← he, envC]
      simp only
      rw [← e]
    · rcases List.mem_cons.1 hy with rfl | hy
      · exact ⟨hck, by rw [← e]; exact hl⟩
      · exact hok y hy
theorem look_env : ∀ (env : Env) (x : Int), look (env.map envC) x = (look env x).map (fun t => t.1 :: t.2.cells)
  | [], x => rfl
  | y :: r, x => by
    simp only [List.map_cons, look, envC]
    by_cases h : y.1 = x
    · simp [h]
    · simp [h, look_env r x]
def Fo.subst (env : Env) : Fo → Fo
  | .nil => .nil
  | .node c k r => if c.1 = 0 then (match look env c.2.1 with | some t => .node t.1 t.2 (Fo.subst env r) | none => .node c k (Fo.subst env r)) else .node c (Fo.subst env k) (Fo.subst env r)
theorem Fo.count_subst (env : Env) : ∀ F : Fo, (F.subst env).count = F.count
  | .nil => rfl
  | .node c k r => by
    have ih := Fo.count_subst env r
    simp only [Fo.subst]
    split
    · split <;> simp [Fo.count, ih]
    · simp [Fo.count, ih]
theorem Fo.subst_cat (env : Env) : ∀ a b : Fo, (a.cat b).subst env = (a.subst env).cat (b.subst env)
  | .nil, b => rfl
  | .node c k r, b => by
    have ih := Fo.subst_cat env r b
    simp only [Fo.cat, Fo.subst, ih]
    split
    · split <;> rfl
    · rfl
theorem Fo.ok_subst {env : Env} (he : ∀ y ∈ env, Tr.ok y.2) : ∀ F : Fo, F.ok → (F.subst env).ok
  | .nil, _ => trivial
  | .node c k r, h => by
    have ih := Fo.ok_subst he r h.2.2.2.2.2
    simp only [Fo.subst]
    split
    · cases hl : look env c.2.1 with
      | none => exact ⟨h.1, h.2.1, h.2.2.1, h.2.2.2.1, h.2.2.2.2.1, ih⟩
      | some t =>
        have ht := he _ (look_mem hl)
        exact ⟨ht.1, ht.2.1, ht.2.2.1, ht.2.2.2.1, ht.2.2.2.2.1, ih⟩
    · rename_i h0
      refine ⟨h.1, h.2.1, fun h3 => ?_, fun h3 => ?_, Fo.ok_subst he k h.2.2.2.2.1, ih⟩
      · rw [Fo.count_subst]; exact h.2.2.1 h3
      · rw [h.2.2.2.1 h3]; rfl
theorem Fo.cells_subst {bs : List Bnd} {env : Env} (he : EnvOf bs env) : ∀ F : Fo, F.ok → (F.subst env).cells = applyC bs F.cells
  | .nil, _ => rfl
  | .node c k r, h => by
    have ih := Fo.cells_subst he r h.2.2.2.2.2
    have ihk := Fo.cells_subst he k h.2.2.2.2.1
    have hlk : look bs c.2.1 = (look env c.2.1).map (fun t => t.1 :: t.2.cells) := by rw [he.1, look_env]
    simp only [applyC] at ih ihk
    simp only [Fo.subst, applyC, Fo.cells, List.flatMap_cons, List.flatMap_append]
    by_cases h0 : c.1 = 0
    · have hk : k = .nil := h.2.2.2.1 (by rw [h0]; decide)
      subst hk
      simp only [if_pos h0, sub1, hlk]
      cases hl : look env c.2.1 with
      | none => simp [Fo.cells, ih]
      | some t => simp [Fo.cells, ih]
    · simp only [if_neg h0, sub1, Fo.cells, ih, ihk]
      simp
theorem szC_len {bs : List Bnd} {env : Env} (he : EnvOf bs env) (cs : List Cel) : szC bs cs = (applyC bs cs).length := by
  induction cs with
  | nil => rfl
  | cons c r ih =>
    have hlk : look bs c.2.1 = (look env c.2.1).map (fun t => t.1 :: t.2.cells) := by rw [he.1, look_env]
    simp only [szC, applyC, List.flatMap_cons, List.length_append] at ih ⊢
    rw [ih]
    congr 1
    simp only [sz1, sub1, szV, hlk]
    split
    · cases look env c.2.1 with
      | none => simp
      | some t => simp
    · simp
theorem szV_bound {bs : List Bnd} {env : Env} (he : EnvOf bs env) (x : Int) : 1 ≤ szV bs x ∧ szV bs x ≤ 2000 := by
  have hlk : look bs x = (look env x).map (fun t => t.1 :: t.2.cells) := by rw [he.1, look_env]
  simp only [szV, hlk]
  cases hl : look env x with
  | none => simp
  | some t =>
    have := (he.2 _ (look_mem hl)).2
    simp at this ⊢
    omega
theorem szC_bound {bs : List Bnd} {env : Env} (he : EnvOf bs env) : ∀ cs : List Cel, szC bs cs ≤ 2000 * cs.length
  | [] => Nat.le_refl _
  | c :: r => by
    have := szC_bound he r
    have h1 := szV_bound he c.2.1
    simp only [szC, sz1, List.length_cons]
    split <;> omega
/-- The entries of the map of what is bound. -/
def BE (w0 : World) : List Bnd → List (Int × Value) → Prop
  | [], E => E = []
  | b :: r, E => ∃ q s, E = (b.1, .slice q b.2.length b.2.length) :: s ∧ CIn w0 q b.2 ∧ BE w0 r s
theorem BE.look {w0 : World} : ∀ (bs : List Bnd) (E : List (Int × Value)), BE w0 bs E → ∀ x : Int, (∀ t, Go.Proofs.Ytjbckdmlogjggaa.look bs x = some t → ∃ q, Go.Proofs.Ytjbckdmlogjggaa.look E x = some (.slice q t.length t.length) ∧ CIn w0 q t) ∧ (Go.Proofs.Ytjbckdmlogjggaa.look bs x = none → Go.Proofs.Ytjbckdmlogjggaa.look E x = none)
  | [], E, h, x => by rw [show E = [] from h]; exact ⟨fun t e => (by cases e), fun _ => rfl⟩
  | b :: r, E, ⟨q, s, e, hf, hr⟩, x => by
    subst e
    have ih := BE.look r s hr x
    simp only [Go.Proofs.Ytjbckdmlogjggaa.look]
    by_cases h : b.1 = x
    · simp only [if_pos h]
      exact ⟨fun t e => by cases e; exact ⟨q, rfl, hf⟩, fun e => by cases e⟩
    · simp only [if_neg h]
      exact ih
theorem BE.snoc {w0 : World} {b : Bnd} {q : Option Addr} (hf : CIn w0 q b.2) : ∀ (bs : List Bnd) (E : List (Int × Value)), BE w0 bs E → BE w0 (bs ++ [b]) (E ++ [(b.1, .slice q b.2.length b.2.length)])
  | [], E, h => by rw [show E = [] from h]; exact ⟨q, [], rfl, hf, rfl⟩
  | y :: r, E, ⟨u, s, e, h1, h2⟩ => by subst e; exact ⟨u, s ++ [_], rfl, h1, BE.snoc hf r s h2⟩
theorem BE.keys {w0 : World} : ∀ (bs : List Bnd) (E : List (Int × Value)), BE w0 bs E → E.map Prod.fst = bs.map Prod.fst
  | [], E, h => by rw [show E = [] from h]; rfl
  | y :: r, E, ⟨u, s, e, h1, h2⟩ => by subst e; simp [BE.keys r s h2]
/-- What the closures of Apply know. -/
structure ASt (w0 : World) (bs : List Bnd) (pb mb : Nat) (W : World) : Prop where
  low : Below w0.heap.size w0 W
  cell : W.cell? ⟨pb, 0, none⟩ = some (.map (some mb))
  map : ∃ N E, VMap W mb N E ∧ BE w0 bs E
theorem ASt.below {w0 : World} {bs : List Bnd} {pb mb : Nat} {W W' : World} (h : ASt w0 bs pb mb W) (hb : Below W.heap.size W W') : ASt w0 bs pb mb W' := by
  obtain ⟨N, E, hm, he⟩ := h.map
  exact ⟨Below.on h.low hb, (hb.cell (World.block_lt_of_cell? _ _ h.cell)).trans h.cell, ⟨N, E, hm.below hb, he⟩⟩
theorem zeroCells (w : World) : (zeroValue 25).run Try.prog w = .ok (.slice none 0 0) w := by kernel_rfl
theorem VMap.look1 {w : World} {b N : Nat} {E : List (Int × Value)} (h : VMap w b N E) {t e : TypeId} (ht : Try.prog.underlying t = some (.map 67 e)) {z : Value} (hz : (zeroValue e).run Try.prog w = .ok z w) (x : Int) (h0 : 0 ≤ x) (h1 : x ≤ 1000000) :
    (Instr.lookup t (.map (some b)) (.int .i64 x) false).run Try.prog w = .ok (match Go.Proofs.Ytjbckdmlogjggaa.look E x with | some v => v | none => z) w := by
  obtain ⟨D, hown, hsz, hhas, hat⟩ := h
  obtain ⟨v, ps, hrun, hv⟩ := hown.lookup lawVar ht hz (zd := .held z) (zp := []) rfl (key_of x h0 h1)
  rw [hrun]
  rw [hat] at hv
  simp only [anyE, Option.some.injEq, Prod.mk.injEq] at hv
  have hv := hv.1
  cases hl : Go.Proofs.Ytjbckdmlogjggaa.look E x with
  | none => rw [hl] at hv; cases hv; rfl
  | some u => rw [hl] at hv; cases hv; rfl

set_option maxRecDepth 100000 in
theorem size1_any (w0 : World) (bs : List Bnd) (pb mb : Nat) (x : Int) (w : World) (h0 : 0 ≤ x) (h1 : x ≤ 1000000) (hb : ∀ t, look bs x = some t → t.length ≤ 2000) (hs : ASt w0 bs pb mb w) :
    Calls Try.prog 45 #[.int .i64 x, .pointer (some ⟨pb, 0, none⟩)] w fun e w' => e = .returned (.int .i64 (szV bs x)) ∧ w' = w := by
  obtain ⟨N, E, hm, he⟩ := hs.map
  have hc := hs.cell
  have hl := hm.look1 (t := 66) Try.underlying66 (zeroCells w) x h0 h1
  have hk := BE.look _ _ he x
  cases hx : look bs x with
  | none =>
    rw [hk.2 hx] at hl
    have hv : szV bs x = 1 := by rw [szV, hx]
    rw [hv]
    clear hk hx hv hs hm he
    go_enter Try.func45, Try.ntmps45
    go_wp2
    go_ret
    exact ⟨rfl, rfl⟩
  | some t =>
    obtain ⟨q, hq, _⟩ := hk.1 t hx
    rw [hq] at hl
    have hv : szV bs x = max 1 t.length := by rw [szV, hx]
    have hbt := hb t hx
    rw [hv]
    obtain ⟨m, em⟩ : ∃ m, m = t.length := ⟨_, rfl⟩
    rw [← em] at hl hbt ⊢
    clear hk hx hv hs hm he hq em
    by_cases h : 1 ≤ m
    · have hmx : max 1 m = m := by omega
      rw [hmx]
      have h' : (1 : Int) ≤ (m : Int) := by omega
      clear hmx h hb h0 h1
      go_enter Try.func45, Try.ntmps45
      go_wp2
      all_goals (go_ret; exact ⟨ret_int (by omega), rfl⟩)
    · obtain rfl : m = 0 := by omega
      go_enter Try.func45, Try.ntmps45
      go_wp2
      go_ret
      exact ⟨rfl, rfl⟩

end Go.Proofs.Ytjbckdmlogjggaa
