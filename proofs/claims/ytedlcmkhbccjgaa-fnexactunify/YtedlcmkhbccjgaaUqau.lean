/- Texts of Ap1, Ap2, Ap3. Own work of the verifier. -/
import Derived.Test.YtedlcmkhbccjgaaUqat
import Derived.Test.YtedlcmkhbccjgaaUqai
import Derived.Deep.RegionWith
namespace Go.Proofs.Ytedlcmkhbccjgaa
open Go Go.RowKit
set_option linter.unusedVariables false

def sub1 (bs : List Bnd) (c : Cel) : List Cel := if c.1 = 0 then (match look bs c.2.1 with | some t => t | none => [c]) else [c]
def applyC (bs : List Bnd) (cs : List Cel) : List Cel := cs.flatMap (sub1 bs)
def szV (bs : List Bnd) (v : Int) : Nat := match look bs v with | some t => max 1 t.length | none => 1
def sz1 (bs : List Bnd) (c : Cel) : Nat := if c.1 = 0 then szV bs c.2.1 else 1
def szC (bs : List Bnd) : List Cel → Nat
  | [] => 0
  | c :: r => sz1 bs c + szC bs r
theorem szC_append (bs : List Bnd) : ∀ a b : List Cel, szC bs (a ++ b) = szC bs a + szC bs b
  | [], b => by simp [szC]
  | c :: r, b => by simp [szC, szC_append bs r b]; omega
def envC (y : Int × Tr) : Bnd := (y.1, y.2.1 :: y.2.2.cells)
/-- The trees of a substitution. -/
def EnvOf (bs : List Bnd) (env : Env) : Prop := bs = env.map envC ∧ ∀ y ∈ env, y.2.ok ∧ (y.2.1 :: y.2.2.cells).length ≤ 2000
theorem validB_len {cs : List Cel} (h : validB cs = true) : cs.length ≤ 2000 := by
  simp only [validB, Bool.and_eq_true, decide_eq_true_eq] at h
  exact h.1
theorem env_of : ∀ (bs : List Bnd) (last : Int), substFrom last bs = true → (∀ b ∈ bs, ∀ j, j < b.2.length → Byte (b.2.getD j Cel.none).2.2) → ∃ env, EnvOf bs env
  | [], _, _, _ => ⟨[], rfl, fun y h => by cases h⟩
  | b :: r, last, h, hb => by
    simp only [substFrom, bndB, Bool.and_eq_true, decide_eq_true_eq] at h
    obtain ⟨env, he, hok⟩ := env_of r b.1 h.2 (fun x hx => hb x (by simp [hx]))
    obtain ⟨c, k, e, hck, hl⟩ := tree_of (hb b (by simp)) h.1.2
    refine ⟨(b.1, (c, k)) :: env, ?_, fun y hy => ?_⟩
    · rw [List.map_cons, ← he, envC]
      simp only
      rw [← e]
    · rcases List.mem_cons.1 hy with rfl | hy
      · exact ⟨hck, by rw [← e]; exact hl⟩
      · exact hok y hy
theorem look_env : ∀ (env : Env) (x : Int), look (env.map envC) x = (look env x).map (fun t => t.1 :: t.2.cells)
  | [], x => rfl
  | y :: r, x => by
    simp only [List.map_cons, look, envC]
    by_cases h : y.1 = x
    · simp [h]
    · simp [h, look_env r x]
def Fo.subst (env : Env) : Fo → Fo
  | .nil => .nil
  | .node c k r => if c.1 = 0 then (match look env c.2.1 with | some t => .node t.1 t.2 (Fo.subst env r) | none => .node c k (Fo.subst env r)) else .node c (Fo.subst env k) (Fo.subst env r)
theorem Fo.count_subst (env : Env) : ∀ F : Fo, (F.subst env).count = F.count
  | .nil => rfl
  | .node c k r => by
    have ih := Fo.count_subst env r
    simp only [Fo.subst]
    split
    · split <;> simp [Fo.count, ih]
    · simp [Fo.count, ih]
theorem Fo.subst_cat (env : Env) : ∀ a b : Fo, (a.cat b).subst env = (a.subst env).cat (b.subst env)
  | .nil, b => rfl
  | .node c k r, b => by
    have ih := Fo.subst_cat env r b
    simp only [Fo.cat, Fo.subst, ih]
    split
    · split <;> rfl
    · rfl
theorem Fo.ok_subst {env : Env} (he : ∀ y ∈ env, Tr.ok y.2) : ∀ F : Fo, F.ok → (F.subst env).ok
  | .nil, _ => trivial
  | .node c k r, h => by
    have ih := Fo.ok_subst he r h.2.2.2.2.2
    simp only [Fo.subst]
    split
    · cases hl : look env c.2.1 with
      | none => exact ⟨h.1, h.2.1, h.2.2.1, h.2.2.2.1, h.2.2.2.2.1, ih⟩
      | some t =>
        have ht := he _ (look_mem hl)
        exact ⟨ht.1, ht.2.1, ht.2.2.1, ht.2.2.2.1, ht.2.2.2.2.1, ih⟩
    · rename_i h0
      refine ⟨h.1, h.2.1, fun h3 => ?_, fun h3 => ?_, Fo.ok_subst he k h.2.2.2.2.1, ih⟩
      · rw [Fo.count_subst]; exact h.2.2.1 h3
      · rw [h.2.2.2.1 h3]; rfl
theorem Fo.cells_subst {bs : List Bnd} {env : Env} (he : EnvOf bs env) : ∀ F : Fo, F.ok → (F.subst env).cells = applyC bs F.cells
  | .nil, _ => rfl
  | .node c k r, h => by
    have ih := Fo.cells_subst he r h.2.2.2.2.2
    have ihk := Fo.cells_subst he k h.2.2.2.2.1
    have hlk : look bs c.2.1 = (look env c.2.1).map (fun t => t.1 :: t.2.cells) := by rw [he.1, look_env]
    simp only [applyC] at ih ihk
    simp only [Fo.subst, applyC, Fo.cells, List.flatMap_cons, List.flatMap_append]
    by_cases h0 : c.1 = 0
    · have hk : k = .nil := h.2.2.2.1 (by rw [h0]; decide)
      subst hk
      simp only [if_pos h0, sub1, hlk]
      cases hl : look env c.2.1 with
      | none => simp [Fo.cells, ih]
      | some t => simp [Fo.cells, ih]
    · simp only [if_neg h0, sub1, Fo.cells, ih, ihk]
      simp
theorem szC_len {bs : List Bnd} {env : Env} (he : EnvOf bs env) (cs : List Cel) : szC bs cs = (applyC bs cs).length := by
  induction cs with
  | nil => rfl
  | cons c r ih =>
    have hlk : look bs c.2.1 = (look env c.2.1).map (fun t => t.1 :: t.2.cells) := by rw [he.1, look_env]
    simp only [szC, applyC, List.flatMap_cons, List.length_append] at ih ⊢
    rw [ih]
    congr 1
    simp only [sz1, sub1, szV, hlk]
    split
    · cases look env c.2.1 with
      | none => simp
      | some t => simp
    · simp
theorem szV_bound {bs : List Bnd} {env : Env} (he : EnvOf bs env) (x : Int) : 1 ≤ szV bs x ∧ szV bs x ≤ 2000 := by
  have hlk : look bs x = (look env x).map (fun t => t.1 :: t.2.cells) := by rw [he.1, look_env]
  simp only [szV, hlk]
  cases hl : look env x with
  | none => simp
  | some t =>
    have := (he.2 _ (look_mem hl)).2
    simp at this ⊢
    omega
theorem szC_bound {bs : List Bnd} {env : Env} (he : EnvOf bs env) : ∀ cs : List Cel, szC bs cs ≤ 2000 * cs.length
  | [] => Nat.le_refl _
  | c :: r => by
    have := szC_bound he r
    have h1 := szV_bound he c.2.1
    simp only [szC, sz1, List.length_cons]
    split <;> omega
/-- The entries of the map of what is bound. -/
def BE (w0 : World) : List Bnd → List (Int × Value) → Prop
  | [], E => E = []
  | b :: r, E => ∃ q s, E = (b.1, .slice q b.2.length b.2.length) :: s ∧ CIn w0 q b.2 ∧ BE w0 r s
theorem BE.look {w0 : World} : ∀ (bs : List Bnd) (E : List (Int × Value)), BE w0 bs E → ∀ x : Int, (∀ t, Go.Proofs.Ytedlcmkhbccjgaa.look bs x = some t → ∃ q, Go.Proofs.Ytedlcmkhbccjgaa.look E x = some (.slice q t.length t.length) ∧ CIn w0 q t) ∧ (Go.Proofs.Ytedlcmkhbccjgaa.look bs x = none → Go.Proofs.Ytedlcmkhbccjgaa.look E x = none)
  | [], E, h, x => by rw [show E = [] from h]; exact ⟨fun t e => (by cases e), fun _ => rfl⟩
  | b :: r, E, ⟨q, s, e, hf, hr⟩, x => by
    subst e
    have ih := BE.look r s hr x
    simp only [Go.Proofs.Ytedlcmkhbccjgaa.look]
    by_cases h : b.1 = x
    · simp only [if_pos h]
      exact ⟨fun t e => by cases e; exact ⟨q, rfl, hf⟩, fun e => by cases e⟩
    · simp only [if_neg h]
      exact ih
theorem BE.snoc {w0 : World} {b : Bnd} {q : Option Addr} (hf : CIn w0 q b.2) : ∀ (bs : List Bnd) (E : List (Int × Value)), BE w0 bs E → BE w0 (bs ++ [b]) (E ++ [(b.1, .slice q b.2.length b.2.length)])
  | [], E, h => by rw [show E = [] from h]; exact ⟨q, [], rfl, hf, rfl⟩
  | y :: r, E, ⟨u, s, e, h1, h2⟩ => by subst e; exact ⟨u, s ++ [_], rfl, h1, BE.snoc hf r s h2⟩
theorem BE.keys {w0 : World} : ∀ (bs : List Bnd) (E : List (Int × Value)), BE w0 bs E → E.map Prod.fst = bs.map Prod.fst
  | [], E, h => by rw [show E = [] from h]; rfl
  | y :: r, E, ⟨u, s, e, h1, h2⟩ => by subst e; simp [BE.keys r s h2]
/-- What the closures of Apply know. -/
structure ASt (w0 : World) (bs : List Bnd) (pb mb : Nat) (W : World) : Prop where
  low : Below w0.heap.size w0 W
  cell : W.cell? ⟨pb, 0, none⟩ = some (.map (some mb))
  map : ∃ N E, VMap W mb N E ∧ BE w0 bs E
theorem ASt.below {w0 : World} {bs : List Bnd} {pb mb : Nat} {W W' : World} (h : ASt w0 bs pb mb W) (hb : Below W.heap.size W W') : ASt w0 bs pb mb W' := by
  obtain ⟨N, E, hm, he⟩ := h.map
  exact ⟨Below.on h.low hb, (hb.cell (World.block_lt_of_cell? _ _ h.cell)).trans h.cell, ⟨N, E, hm.below hb, he⟩⟩
theorem zeroCells (w : World) : (zeroValue 25).run Try.prog w = .ok (.slice none 0 0) w := by kernel_rfl
theorem VMap.look1 {w : World} {b N : Nat} {E : List (Int × Value)} (h : VMap w b N E) {t e : TypeId} (ht : Try.prog.underlying t = some (.map 67 e)) {z : Value} (hz : (zeroValue e).run Try.prog w = .ok z w) (x : Int) (h0 : 0 ≤ x) (h1 : x ≤ 1000000) :
    (Instr.lookup t (.map (some b)) (.int .i64 x) false).run Try.prog w = .ok (match Go.Proofs.Ytedlcmkhbccjgaa.look E x with | some v => v | none => z) w := by
  obtain ⟨D, hown, hsz, hhas, hat⟩ := h
  obtain ⟨v, ps, hrun, hv⟩ := hown.lookup lawVar ht hz (zd := .held z) (zp := []) rfl (key_of x h0 h1)
  rw [hrun]
  rw [hat] at hv
  simp only [anyE, Option.some.injEq, Prod.mk.injEq] at hv
  have hv := hv.1
  cases hl : Go.Proofs.Ytedlcmkhbccjgaa.look E x with
  | none => rw [hl] at hv; cases hv; rfl
  | some u => rw [hl] at hv; cases hv; rfl

set_option maxRecDepth 100000 in
theorem size1_any (w0 : World) (bs : List Bnd) (pb mb : Nat) (x : Int) (w : World) (h0 : 0 ≤ x) (h1 : x ≤ 1000000) (hb : ∀ t, look bs x = some t → t.length ≤ 2000) (hs : ASt w0 bs pb mb w) :
    Calls Try.prog 45 #[.int .i64 x, .pointer (some ⟨pb, 0, none⟩)] w fun e w' => e = .returned (.int .i64 (szV bs x)) ∧ w' = w := by
  obtain ⟨N, E, hm, he⟩ := hs.map
  have hc := hs.cell
  have hl := hm.look1 (t := 66) Try.underlying66 (zeroCells w) x h0 h1
  have hk := BE.look _ _ he x
  cases hx : look bs x with
  | none =>
    rw [hk.2 hx] at hl
    have hv : szV bs x = 1 := by rw [szV, hx]
    rw [hv]
    clear hk hx hv hs hm he
    go_enter Try.func45, Try.ntmps45
    go_wp2
    go_ret
    exact ⟨rfl, rfl⟩
  | some t =>
    obtain ⟨q, hq, _⟩ := hk.1 t hx
    rw [hq] at hl
    have hv : szV bs x = max 1 t.length := by rw [szV, hx]
    have hbt := hb t hx
    rw [hv]
    obtain ⟨m, em⟩ : ∃ m, m = t.length := ⟨_, rfl⟩
    rw [← em] at hl hbt ⊢
    clear hk hx hv hs hm he hq em
    by_cases h : 1 ≤ m
    · have hmx : max 1 m = m := by omega
      rw [hmx]
      have h' : (1 : Int) ≤ (m : Int) := by omega
      clear hmx h hb h0 h1
      go_enter Try.func45, Try.ntmps45
      go_wp2
      all_goals (go_ret; exact ⟨ret_int (by omega), rfl⟩)
    · obtain rfl : m = 0 := by omega
      go_enter Try.func45, Try.ntmps45
      go_wp2
      go_ret
      exact ⟨rfl, rfl⟩

end Go.Proofs.Ytedlcmkhbccjgaa

namespace Go.Proofs.Ytedlcmkhbccjgaa
open Go Go.RowKit
set_option linter.unusedVariables false

/-- What the walk that counts has: the count so far, the function that is asked. -/
structure SzS (wa : World) (bs : List Bnd) (pb mb cb fb acc : Nat) (W : World) : Prop where
  cnt : W.cell? ⟨cb, 0, none⟩ = some (.int .i64 acc)
  free : W.frozen? ⟨cb, 0, none⟩ = false
  fn : W.cell? ⟨fb, 0, none⟩ = some (.func (.func 45) #[] #[.pointer (some ⟨pb, 0, none⟩)])
  ast : ASt wa bs pb mb W
  ne1 : fb ≠ cb
  ne2 : pb ≠ cb
  high : wa.heap.size ≤ cb
def SzW (w : World) (B : Nat) (wa : World) (bs : List Bnd) (pb mb cb fb acc : Nat) (e : Ending) (w' : World) : Prop := e = .returned (.tuple #[]) ∧ SzS wa bs pb mb cb fb acc w' ∧ Below B w w'
theorem SzS.set {wa : World} {bs : List Bnd} {pb mb cb fb acc : Nat} {W : World} (h : SzS wa bs pb mb cb fb acc W) (a : Nat) : SzS wa bs pb mb cb fb a (W.setCell ⟨cb, 0, none⟩ (.int .i64 a)) := by
  have hmc : mb ≠ cb := fun e => by
    obtain ⟨N, E, ⟨D, ⟨es, clock, hb, _⟩, _⟩, _⟩ := h.ast.map
    have hc := h.cnt
    rw [e] at hb
    simp [World.cell?, hb] at hc
  refine ⟨World.cell?_setCell_same' _ _ _ (by rw [h.cnt]; rfl), by rw [World.frozen?_setCell]; exact h.free, ?_, ⟨?_, ?_, ?_⟩, h.ne1, h.ne2, h.high⟩
  · rw [World.cell?_setCell_other _ _ _ _ (fun e => h.ne1 (congrArg Addr.block e).symm)]; exact h.fn
  · exact h.ast.low.setCell (p := ⟨cb, 0, none⟩) h.high _
  · rw [World.cell?_setCell_other _ _ _ _ (fun e => h.ne2 (congrArg Addr.block e).symm)]; exact h.ast.cell
  · obtain ⟨N, E, hm, he⟩ := h.ast.map
    exact ⟨N, E, hm.of_block (Below.heap_setCell _ _ _ _ hmc), he⟩

set_option maxRecDepth 100000 in
set_option maxHeartbeats 1000000 in
theorem sizeVisit_any (wa : World) (bs : List Bnd) (env : Env) (henv : EnvOf bs env) (pb mb cb fb : Nat) (c : Cel) (k : Fo) (v : Value) (Bt B acc : Nat) (w0 w : World) (hok : (Fo.node c k .nil).ok) (hBm : B ≤ cb) (hacc : acc ≤ 100000000) (hn : NodeIn w0 Bt c (fun kv => FoIn w0 Bt k kv) v) (hs : SzS wa bs pb mb cb fb acc w) :
    Calls Try.prog 73 #[v, .pointer (some ⟨cb, 0, none⟩), .pointer (some ⟨fb, 0, none⟩)] w (SzW w B wa bs pb mb cb fb (acc + sz1 bs c)) := by
  have hc0 := hs.cnt
  have hf0 := hs.free
  have hfn := hs.fn
  by_cases h0 : c.1 = 0
  · have hv : v = .iface 67 (.int .i64 c.2.1) := by
      rcases hn with ⟨_, e⟩ | ⟨e, _⟩ | ⟨e, _⟩ | ⟨e, _⟩
      · exact e
      · omega
      · omega
      · omega
    subst hv
    have hcb := hok.1
    rw [h0] at hcb
    have hx : 0 ≤ c.2.1 ∧ c.2.1 ≤ 1000000 := by simp [cellB] at hcb; exact ⟨hcb.1, hcb.2.1⟩
    have hz : sz1 bs c = szV bs c.2.1 := by rw [sz1, if_pos h0]
    have hzb := szV_bound henv c.2.1
    have hast : ASt wa bs pb mb w.drew := ⟨hs.ast.low.drew, hs.ast.cell, hs.ast.map⟩
    have HS := size1_any wa bs pb mb c.2.1 w.drew hx.1 hx.2 (fun t ht => by
      rw [henv.1, look_env] at ht
      cases hl : look env c.2.1 with
      | none => rw [hl] at ht; cases ht
      | some u => rw [hl] at ht; cases ht; exact (henv.2 _ (look_mem hl)).2) hast
    have HF : Hid (SzW w B wa bs pb mb cb fb (acc + sz1 bs c) (.returned (.tuple #[])) (w.drew.setCell ⟨cb, 0, none⟩ (.int .i64 ((acc + szV bs c.2.1 : Nat) : Int)))) := ⟨rfl, by
      rw [hz]
      exact SzS.set (⟨hs.cnt, hs.free, hs.fn, hast, hs.ne1, hs.ne2, hs.high⟩ : SzS wa bs pb mb cb fb acc w.drew) _, ((Below.refl _ _).drew).setCell (p := ⟨cb, 0, none⟩) hBm _⟩
    obtain ⟨x, ex⟩ : ∃ x, x = c.2.1 := ⟨_, rfl⟩
    obtain ⟨z, ez⟩ : ∃ z, z = szV bs c.2.1 := ⟨_, rfl⟩
    rw [← ez] at HS HF hzb
    rw [← ex] at HS ⊢
    have HWR : Hid (IntKind.i64.wrap ((acc : Int) + (z : Int)) = ((acc + z : Nat) : Int)) := by show _ = _; rw [IntKind.wrap_i64]; omega
    have a1 := isVar
    clear hs hn hok hcb hx hz ex ez h0 hast
    go_enter Try.func73, Try.ntmps73
    go_wp2_with fail
    go_region_with ((go_at_call 45; refine HS.mono ?_; rintro e w3 ⟨rfl, rfl⟩))
    all_goals go_wp2_with fail
    all_goals go_end0
    all_goals (rw [HWR.out]; exact HF.out)
  · have hz : sz1 bs c = 1 := by rw [sz1, if_neg h0]
    have hty : ∃ t y, v = .iface t y ∧ ∀ W, (Instr.typeAssert (.iface t y) 53 67 true).run Try.prog W = .ok (.tuple #[.int .i64 0, .bool false]) W := by
      rcases hn with ⟨e, _⟩ | ⟨_, e⟩ | ⟨_, e⟩ | ⟨_, b, g, vs, e, _⟩
      · exact absurd e h0
      · exact ⟨_, _, e, fun W => noVar_num W _⟩
      · exact ⟨_, _, e, fun W => noVar_atom W _⟩
      · exact ⟨_, _, e, fun W => noVar_comp W _⟩
    obtain ⟨t, y, rfl, a1⟩ := hty
    have HF : Hid (SzW w B wa bs pb mb cb fb (acc + sz1 bs c) (.returned (.tuple #[])) (w.setCell ⟨cb, 0, none⟩ (.int .i64 ((acc + 1 : Nat) : Int)))) := ⟨rfl, by rw [hz]; exact hs.set _, (Below.refl _ _).setCell (p := ⟨cb, 0, none⟩) hBm _⟩
    clear hs hn hok hz h0
    go_enter Try.func73, Try.ntmps73
    go_wp2_with fail
    go_end0
    exact HF.out

set_option maxRecDepth 100000 in
set_option maxHeartbeats 1000000 in
theorem sizeWalk_any (wa : World) (bs : List Bnd) (env : Env) (henv : EnvOf bs env) (pb mb cb fb : Nat) : ∀ (N : Nat) (c : Cel) (k : Fo) (v : Value) (Bt B acc : Nat) (w0 w : World), k.cells.length ≤ N → (Fo.node c k .nil).ok → FoIn w0 Bt (.node c k .nil) [v] → Below w0.heap.size w0 w → w0.heap.size ≤ B → B ≤ w.heap.size → B ≤ cb → SzS wa bs pb mb cb fb acc w → acc + 2000 * (1 + k.cells.length) ≤ 100000000 →
    Calls Try.prog 72 #[v, .func (.func 73) #[] #[.pointer (some ⟨cb, 0, none⟩), .pointer (some ⟨fb, 0, none⟩)]] w (SzW w B wa bs pb mb cb fb (acc + szC bs (c :: k.cells))) := by
  intro N
  induction N using Nat.strongRecOn with
  | _ N ih =>
    intro c k v Bt B acc w0 w hN hok hfo hw hB0 hB hBm hs hlen
    obtain ⟨v', vr, e, hnode, _⟩ := hfo
    obtain ⟨rfl, rfl⟩ := List.cons.inj e
    have HV := sizeVisit_any wa bs env henv pb mb cb fb c k v Bt B acc w0 w hok hBm (by omega) hnode hs
    have hz1 := szC_bound henv [c]
    simp only [szC, List.length_singleton, Nat.add_zero] at hz1
    have hsplit : acc + szC bs (c :: k.cells) = acc + sz1 bs c + szC bs k.cells := by simp only [szC]; omega
    rw [hsplit]
    have HIH : Hid _ := ih
    have HW : Hid (Below w0.heap.size w0 w) := hw
    have leaf : ∀ (t : TypeId) (x : Value), v = .iface t x → (t = 67 ∨ t = 139 ∨ t = 140) → c.1 ≠ 3 → Calls Try.prog 72 #[v, .func (.func 73) #[] #[.pointer (some ⟨cb, 0, none⟩), .pointer (some ⟨fb, 0, none⟩)]] w (SzW w B wa bs pb mb cb fb (acc + sz1 bs c + szC bs k.cells)) := fun t x hv ht h3 => by
      have hk : k = .nil := hok.2.2.2.1 h3
      subst hk hv
      have HA := fun W => argsLeaf_any t x W ht
      have hz : acc + sz1 bs c + szC bs Fo.nil.cells = acc + sz1 bs c := rfl
      rw [hz]
      clear hok hnode hs HIH ih e hw hsplit hz
      go_enter Try.func72, Try.ntmps72
      go_wp2_with fail
      refine HV.mono ?_
      rintro e w1 ⟨rfl, hst, hb⟩
      go_wp2_with fail
      refine (HA _).mono ?_
      rintro e w2 ⟨rfl, rfl⟩
      go_wp2_with fail
      refine wp_loop_rounds 1 ?_
      rw [rounds_succ]
      go_wp2_with fail
      go_end0
      exact ⟨rfl, hst, hb⟩
    rcases hnode with ⟨h0, hv⟩ | ⟨h0, hv⟩ | ⟨h0, hv⟩ | ⟨h0, b, g, vs, hv, hcomp⟩
    · exact leaf _ _ hv (.inl rfl) (by rw [h0]; decide)
    · exact leaf _ _ hv (.inr (.inl rfl)) (by rw [h0]; decide)
    · exact leaf _ _ hv (.inr (.inr rfl)) (by rw [h0]; decide)
    · subst hv
      clear leaf
      have HC : Hid (CompAt w0 Bt c.2.2 k b g vs) := hcomp
      have hvl2 : vs.length = k.count := FoIn.count _ _ hcomp.2.2.2.2.2.2
      obtain ⟨q, eq⟩ : ∃ q, q = vs.length := ⟨_, rfl⟩
      have HE : Hid (q = vs.length ∧ vs.length = k.count) := ⟨eq, hvl2⟩
      have hq : q ≤ 100000 := by have := Fo.count_le k; omega
      have HK : Hid k.ok := hok.2.2.2.2.1
      have HBB : Hid (b < w0.heap.size ∧ w0.cell? ⟨b, 1, none⟩ = some (.slice (some ⟨g, 0, none⟩) q q)) := ⟨World.block_lt_of_cell? _ _ hcomp.2.2.2.1, by rw [eq]; exact hcomp.2.2.2.1⟩
      clear hcomp hok hs ih e hw eq hvl2 hsplit
      go_enter Try.func72, Try.ntmps72
      go_wp2_with fail
      refine HV.mono ?_
      rintro e w1 ⟨rfl, hst, hb1⟩
      have d1 : w1.cell? ⟨b, 1, none⟩ = some (.slice (some ⟨g, 0, none⟩) q q) := (((HW.out.trans (hb1.mono hB0)).cell (p := ⟨b, 1, none⟩) HBB.out.1)).trans HBB.out.2
      have HST : Hid _ := hst
      have HB1 : Hid (Below B w w1) := hb1
      clear hst hb1 HV
      go_wp2_with fail
      refine (argsComp_any b g q _ d1).mono ?_
      rintro e w2 ⟨rfl, hw2⟩
      subst hw2
      clear d1
      go_wp2_with fail
      go_loopw [12] (fun i wr => ∃ (D R : Fo) (us vs2 : List Value) (j : Nat), j ≤ q ∧ i = .int .i64 j ∧ Hid (k = D.cat R ∧ vs = us ++ vs2 ∧ us.length = j) ∧ Hid (FoIn w0 Bt R vs2) ∧ Hid (SzS wa bs pb mb cb fb (acc + sz1 bs c + szC bs D.cells) wr) ∧ Hid (Below B w wr)) (fun i _ => q - (intOf i).toNat)
      case atStart => exact ⟨.nil, k, [], vs, 0, Nat.zero_le _, rfl, ⟨rfl, rfl, rfl⟩, HC.out.2.2.2.2.2.2, HST, HB1⟩
      case round =>
        obtain ⟨D, R, us, vs2, j, hj, rfl, HF, HR, HS, HB⟩ := hrel
        by_cases hlt : j < q
        · obtain ⟨c', k', r', rfl⟩ : ∃ c' k' r', R = .node c' k' r' := by
            cases R with
            | nil =>
              have h1 := HF.out
              have h2 : vs2 = [] := HR.out
              have h3 := HE.out.1
              rw [h1.2.1, h2, List.append_nil] at h3
              omega
            | node c' k' r' => exact ⟨c', k', r', rfl⟩
          obtain ⟨v, vr, rfl, hnode, hrest⟩ := HR.out
          have hok2 := (Fo.ok_cat D (.node c' k' r')).1 (HF.out.1 ▸ HK.out)
          have hl2 : D.cells.length + (k'.cells.length + r'.cells.length + 1) = k.cells.length := by
            rw [HF.out.1, Fo.cells_cat]; simp [Fo.cells]
          have hat : w0.cell? ⟨g, j, none⟩ = some v := by
            rw [HC.out.2.2.2.2.2.1 j (by rw [← HE.out.1]; exact hlt), HF.out.2.1]
            simp [List.getD, HF.out.2.2]
          have hwr : Below w0.heap.size w0 wr := HW.out.trans (HB.out.mono hB0)
          have c5 : wr.cell? ⟨g, j, none⟩ = some v := (hwr.cell (World.block_lt_of_cell? _ _ hat)).trans hat
          have hB4 : B ≤ wr.heap.size := Nat.le_trans hB HB.out.size
          have HWK := HIH.out k'.cells.length (by omega) c' k' v Bt B (acc + sz1 bs c + szC bs D.cells) w0 wr (Nat.le_refl _) ⟨hok2.2.1, hok2.2.2.1, hok2.2.2.2.1, hok2.2.2.2.2.1, hok2.2.2.2.2.2.1, trivial⟩ ⟨v, [], rfl, hnode, rfl⟩ hwr hB0 hB4 hBm HS.out (by have := szC_bound henv D.cells; omega)
          obtain ⟨vt, vx, rfl⟩ := hnode.iface
          have HRR : Hid (FoIn w0 Bt r' vr) := hrest
          clear hok2 hl2 hat hwr hnode hrest HIH
          go_wp2_with fail
          refine HWK.mono ?_
          rintro e w3 ⟨rfl, hst3, hb3⟩
          have HN : Hid (k = (D.cat (.node c' k' .nil)).cat r' ∧ vs = (us ++ [.iface vt vx]) ++ vr ∧ (us ++ [Value.iface vt vx]).length = j + 1) := ⟨by rw [Fo.cat_assoc]; exact HF.out.1, by rw [HF.out.2.1]; simp, by simp [HF.out.2.2]⟩
          have HST3 : Hid (SzS wa bs pb mb cb fb (acc + sz1 bs c + szC bs (D.cat (.node c' k' .nil)).cells) w3) := by
            have e : acc + sz1 bs c + szC bs (D.cat (.node c' k' .nil)).cells = acc + sz1 bs c + szC bs D.cells + szC bs (c' :: k'.cells) := by rw [Fo.cells_cat, szC_append]; simp [Fo.cells]; omega
            show SzS _ _ _ _ _ _ _ _
            rw [e]; exact hst3
          have HB3 : Hid (Below B w w3) := HB.out.trans hb3
          clear hst3 hb3 HWK
          go_wp2_with fail
          go_roundw
          case rel => exact ⟨D.cat (.node c' k' .nil), r', us ++ [.iface vt vx], vr, j + 1, by omega, by go_num, HN, HRR, HST3, HB3⟩
          case measure => simp [intOf]; omega
        · obtain rfl : j = q := by omega
          obtain rfl : R = .nil := by
            have h1 := FoIn.count _ _ HR.out
            have h2 := HE.out
            rw [HF.out.2.1, List.length_append] at h2
            have h3 := HF.out.2.2
            cases R with
            | nil => rfl
            | node a b d => simp [Fo.count] at h1; omega
          have HF' : Hid (D = k) := by have := HF.out.1; rw [Fo.cat_nil] at this; exact this.symm
          go_wp2_with fail
          go_end0
          refine ⟨rfl, ?_, HB.out⟩
          have h1 := HS.out
          rwa [HF'.out] at h1


end Go.Proofs.Ytedlcmkhbccjgaa

namespace Go.Proofs.Ytedlcmkhbccjgaa
open Go Go.RowKit
set_option linter.unusedVariables false

set_option maxRecDepth 100000 in
theorem sizeWith_any (wa : World) (bs : List Bnd) (env : Env) (henv : EnvOf bs env) (pb mb : Nat) (c : Cel) (k : Fo) (v : Value) (Bt : Nat) (w : World) (hok : (Fo.node c k .nil).ok) (hfo : FoIn w Bt (.node c k .nil) [v]) (hk : k.cells.length ≤ 2000) (hs : ASt wa bs pb mb w) :
    Calls Try.prog 44 #[v, .func (.func 45) #[] #[.pointer (some ⟨pb, 0, none⟩)]] w fun e w' => e = .returned (.int .i64 ((min (szC bs (c :: k.cells)) 2001 : Nat) : Int)) ∧ Below w.heap.size w w' := by
  have HBX : Hid (Below w.heap.size w ((w.alloc (.cells #[.func (.func 45) #[] #[.pointer (some ⟨pb, 0, none⟩)]] 69)).alloc (.cells #[.int .i64 0] 3))) := ((Below.refl _ _).alloc (Nat.le_refl _) _).alloc (by simp) _
  have hpb : pb < w.heap.size := World.block_lt_of_cell? _ _ hs.cell
  have k0 : ((w.alloc (.cells #[.func (.func 45) #[] #[.pointer (some ⟨pb, 0, none⟩)]] 69)).alloc (.cells #[.int .i64 0] 3)).heap[w.heap.size]? = some (.cells #[.func (.func 45) #[] #[.pointer (some ⟨pb, 0, none⟩)]] 69) := (Below.heap_alloc _ _ _ (by simp)).trans (heap_alloc_new _ _)
  have k1 : ((w.alloc (.cells #[.func (.func 45) #[] #[.pointer (some ⟨pb, 0, none⟩)]] 69)).alloc (.cells #[.int .i64 0] 3)).heap[w.heap.size + 1]? = some (.cells #[.int .i64 0] 3) := by
    have := heap_alloc_new (w.alloc (.cells #[.func (.func 45) #[] #[.pointer (some ⟨pb, 0, none⟩)]] 69)) (.cells #[.int .i64 0] 3)
    rwa [World.size_alloc] at this
  have HS : Hid (SzS wa bs pb mb (w.heap.size + 1) w.heap.size 0 ((w.alloc (.cells #[.func (.func 45) #[] #[.pointer (some ⟨pb, 0, none⟩)]] 69)).alloc (.cells #[.int .i64 0] 3))) :=
    ⟨cell_of_row _ _ 0 _ _ _ k1, frozen_of_row _ _ 0 _ _ k1, cell_of_row _ _ 0 _ _ _ k0, hs.below HBX.out, by omega, by omega, by have := hs.low.size; omega⟩
  have HW := sizeWalk_any wa bs env henv pb mb (w.heap.size + 1) w.heap.size k.cells.length c k v Bt (w.heap.size + 1) 0 w _ (Nat.le_refl _) hok hfo HBX.out (by omega) (by simp) (Nat.le_refl _) HS.out (by omega)
  have hsb := szC_bound henv (c :: k.cells)
  obtain ⟨t, y, rfl⟩ := hfo.iface
  rw [Nat.zero_add] at HW
  obtain ⟨z, ez⟩ : ∃ z, z = szC bs (c :: k.cells) := ⟨_, rfl⟩
  rw [← ez] at HW hsb ⊢
  have hzb : z ≤ 100000000 := by simp at hsb; omega
  clear hok hfo hs k0 k1 HS hsb ez
  go_enter Try.func44, Try.ntmps44
  go_wp2_with fail
  refine HW.mono ?_
  rintro e w2 ⟨rfl, hst, hb⟩
  have hc := hst.cnt
  have HB2 : Hid (Below w.heap.size w w2) := HBX.out.trans (hb.mono (by omega))
  clear hst hb HW
  go_wp2_with fail
  all_goals (go_ret; exact ⟨ret_int (by omega), HB2.out⟩)

/-- What replaceVars answers. -/
def SubOut (w : World) (env : Env) (c : Cel) (k : Fo) (e : Ending) (w' : World) : Prop :=
  ∃ v, e = .returned v ∧ FoIn w' w.heap.size ((Fo.node c k .nil).subst env) [v] ∧ Below w.heap.size w w'
set_option maxRecDepth 100000 in
theorem put2_any (w0 : World) (bs : List Bnd) (env : Env) (henv : EnvOf bs env) (pb mb : Nat) (c : Cel) (w : World) (hc : c.1 = 0) (h0 : 0 ≤ c.2.1) (h1 : c.2.1 ≤ 1000000) (hs : ASt w0 bs pb mb w) :
    Calls Try.prog 48 #[.int .i64 c.2.1, .pointer (some ⟨pb, 0, none⟩)] w (SubOut w env c .nil) := by
  obtain ⟨N, E, hm, he⟩ := hs.map
  have hcell := hs.cell
  have hl := hm.look (t := 66) Try.underlying66 (zeroCells w) c.2.1 h0 h1
  have hk := BE.look _ _ he c.2.1
  have hlk : look bs c.2.1 = (look env c.2.1).map (fun t => t.1 :: t.2.cells) := by rw [henv.1, look_env]
  cases hx : look env c.2.1 with
  | none =>
    rw [hx] at hlk
    rw [hk.2 hlk] at hl
    simp only [Option.isSome_none] at hl
    have HF : Hid (SubOut w env c .nil (.returned (.iface 67 (.int .i64 c.2.1))) w) := ⟨_, rfl, by simp only [Fo.subst, if_pos hc, hx]; exact ⟨_, [], rfl, .inl ⟨hc, rfl⟩, rfl⟩, Below.refl _ _⟩
    obtain ⟨x, ex⟩ : ∃ x, x = c.2.1 := ⟨_, rfl⟩
    rw [← ex] at hl HF ⊢
    clear hk hx hlk hs hm he ex
    go_enter Try.func48, Try.ntmps48
    go_wp2
    go_ret
    exact HF.out
  | some t =>
    rw [hx] at hlk
    obtain ⟨q, hq, hin⟩ := hk.1 _ hlk
    rw [hq] at hl
    simp only [Option.isSome_some] at hl
    have ht : t.ok ∧ (t.1 :: t.2.cells).length ≤ 2000 := henv.2 _ (look_mem hx)
    have HT := termOf_any t.1 t.2 q (t.1 :: t.2.cells).length (t.1 :: t.2.cells).length w ht.1 (by simp) (Nat.le_refl _) (by have := ht.2; omega) (hin.below hs.low)
    have HF : Hid (∀ v w', FoIn w' w.heap.size (.node t.1 t.2 .nil) [v] → Below w.heap.size w w' → SubOut w env c .nil (.returned v) w') := fun v w' h1 h2 => ⟨v, rfl, by simp only [Fo.subst, if_pos hc, hx]; exact h1, h2⟩
    obtain ⟨x, ex⟩ : ∃ x, x = c.2.1 := ⟨_, rfl⟩
    obtain ⟨m, em⟩ : ∃ m, m = (t.1 :: t.2.cells).length := ⟨_, rfl⟩
    rw [← em] at hl HT
    rw [← ex] at hl ⊢
    clear hk hx hlk hs hm he ex em ht hq hin
    go_enter Try.func48, Try.ntmps48
    go_wp2_with fail
    refine HT.mono ?_
    rintro e w1 ⟨v, rfl, hf1, hb1⟩
    have HF1 : Hid _ := HF.out v w1 hf1 hb1
    obtain ⟨tv, xv, rfl⟩ := hf1.iface
    clear hf1 hb1 HT
    go_wp2_with fail
    go_ret
    exact HF1.out

set_option maxRecDepth 100000 in
set_option maxHeartbeats 1000000 in
theorem replaceS_any (wa : World) (bs : List Bnd) (env : Env) (henv : EnvOf bs env) (pb mb : Nat) : ∀ (N : Nat) (c : Cel) (k : Fo) (v : Value) (Bt : Nat) (w0 w : World), k.cells.length ≤ N → (Fo.node c k .nil).ok → FoIn w0 Bt (.node c k .nil) [v] → Below w0.heap.size w0 w → ASt wa bs pb mb w → k.cells.length ≤ 100000 →
    Calls Try.prog 47 #[v, .func (.func 48) #[] #[.pointer (some ⟨pb, 0, none⟩)]] w (SubOut w env c k) := by
  intro N
  induction N using Nat.strongRecOn with
  | _ N ih =>
    intro c k v Bt w0 w hN hok hfo hw hs hlen
    obtain ⟨v', vr, e, hnode, _⟩ := hfo
    obtain ⟨rfl, rfl⟩ := List.cons.inj e
    rcases hnode with ⟨h0, rfl⟩ | ⟨h0, rfl⟩ | ⟨h0, rfl⟩ | ⟨h0, b, g, vs, rfl, hcomp⟩
    · have hk : k = .nil := hok.2.2.2.1 (by rw [h0]; decide)
      subst hk
      have hx : 0 ≤ c.2.1 ∧ c.2.1 ≤ 1000000 := by have := hok.1; rw [h0] at this; simp [cellB] at this; omega
      have HW := put2_any wa bs env henv pb mb c w h0 hx.1 hx.2 hs
      obtain ⟨x, ex⟩ : ∃ x, x = c.2.1 := ⟨_, rfl⟩
      rw [← ex] at HW ⊢
      have n1 := isVar
      clear ih hok hw hs hx ex e hlen
      go_enter Try.func47, Try.ntmps47
      go_wp2_with fail
      refine HW.mono ?_
      rintro e w1 ⟨v1, rfl, h1, h2⟩
      have HF : Hid (SubOut w env c .nil (.returned v1) w1) := ⟨v1, rfl, h1, h2⟩
      have hif : ∃ t y, v1 = .iface t y := by
        simp only [Fo.subst, if_pos h0] at h1
        split at h1
        · exact FoIn.iface h1
        · exact FoIn.iface h1
      obtain ⟨t1, y1, rfl⟩ := hif
      clear h1 h2 HW
      go_wp2_with fail
      go_ret
      exact HF.out
    · have hk : k = .nil := hok.2.2.2.1 (by rw [h0]; decide)
      subst hk
      have n1 := noVar_num
      have n2 := noComp_num
      have HF : Hid (SubOut w env c .nil (.returned (.iface 139 (.int .i64 c.2.1))) w) := ⟨_, rfl, by simp only [Fo.subst, if_neg (show ¬ c.1 = 0 by omega)]; exact ⟨_, [], rfl, .inr (.inl ⟨h0, rfl⟩), rfl⟩, Below.refl _ _⟩
      obtain ⟨x, ex⟩ : ∃ x, x = Value.int .i64 c.2.1 := ⟨_, rfl⟩
      rw [← ex] at HF ⊢
      clear ih hok hw hs ex e hlen
      go_enter Try.func47, Try.ntmps47
      go_wp2_with fail
      go_ret
      exact HF.out
    · have hk : k = .nil := hok.2.2.2.1 (by rw [h0]; decide)
      subst hk
      have n1 := noVar_atom
      have n2 := noComp_atom
      have HF : Hid (SubOut w env c .nil (.returned (.iface 140 (.string (strOfNums c.2.2)))) w) := ⟨_, rfl, by simp only [Fo.subst, if_neg (show ¬ c.1 = 0 by omega)]; exact ⟨_, [], rfl, .inr (.inr (.inl ⟨h0, rfl⟩)), rfl⟩, Below.refl _ _⟩
      obtain ⟨x, ex⟩ : ∃ x, x = Value.string (strOfNums c.2.2) := ⟨_, rfl⟩
      rw [← ex] at HF ⊢
      clear ih hok hw hs ex e hlen
      go_enter Try.func47, Try.ntmps47
      go_wp2_with fail
      go_ret
      exact HF.out
    · have n1 := noVar_comp
      have n2 := isComp
      have HC : Hid (CompAt w0 Bt c.2.2 k b g vs) := hcomp
      have hvl2 : vs.length = k.count := FoIn.count _ _ hcomp.2.2.2.2.2.2
      obtain ⟨q, eq⟩ : ∃ q, q = vs.length := ⟨_, rfl⟩
      have HE : Hid (q = vs.length ∧ vs.length = k.count) := ⟨eq, hvl2⟩
      have hq : q ≤ 100000 := by have := Fo.count_le k; omega
      have HK : Hid k.ok := hok.2.2.2.2.1
      have d0 := (hw.cell (World.block_lt_of_cell? _ _ hcomp.2.2.1)).trans hcomp.2.2.1
      have d1 := (hw.cell (World.block_lt_of_cell? _ _ hcomp.2.2.2.1)).trans hcomp.2.2.2.1
      rw [← eq] at d1
      have HBB : Hid (b < w0.heap.size) := World.block_lt_of_cell? _ _ hcomp.2.2.1
      have HS : Hid (ASt wa bs pb mb w) := hs
      have HW : Hid (Below w0.heap.size w0 w) := hw
      have HIH : Hid _ := ih
      have H0 : Hid (c.1 = 3) := h0
      obtain ⟨str, es⟩ : ∃ str, str = strOfNums c.2.2 := ⟨_, rfl⟩
      rw [← es] at d0
      have HES : Hid (str = strOfNums c.2.2) := es
      obtain ⟨i0, hi, hz0, hz1, hz2⟩ := info_parts infoTerm
      have hmx : q ≤ maxLen := by unfold maxLen; omega
      clear ih hok hw hs e hcomp eq hvl2 es h0
      go_enter Try.func47, Try.ntmps47
      go_wp2_with (at_make; refine wpList_make_full _ rfl _ _ 109 rfl w.heap.size 53 i0 .nilIface 1 Try.underlying109 hi hz0 hz1 _ _ _ _ q rfl rfl rfl rfl (by rw [hz2]; omega) hmx (Nat.le_refl _) ?_; intro w1 hown hgrow; have d0' := ((World.cell?_of_block (w := w) (a := ⟨b, 0, none⟩) (hgrow.block b (World.block_lt_of_cell? _ _ d0) (fun h => by cases h)))).trans d0; have d1' := ((World.cell?_of_block (w := w) (a := ⟨b, 1, none⟩) (hgrow.block b (World.block_lt_of_cell? _ _ d1) (fun h => by cases h)))).trans d1)
      have HO1 : Hid (w1.ownsRow w.heap.size 53 1 (.slice (some ⟨w.heap.size, 0, none⟩) q q) q ([] ++ List.replicate (q - 0) .nilIface)) := by
        have := hown
        simp [Value.cells, toList_madeCells_one] at this
        exact this
      have HG1 : Hid (Below w.heap.size w w1) := (Below.refl _ _).grown hgrow (Nat.le_refl _) (fun k h => by cases h)
      have hs1 : w.heap.size + 1 ≤ w1.heap.size := by have := (hown.lt w.heap.size rfl).2; omega
      clear hown hgrow hi hz0 hz1 hz2 d0 d1 d0' d1'
      go_loopw [31] (fun i wr => ∃ (D R : Fo) (us vs2 ns : List Value) (j : Nat), j ≤ q ∧ i = .int .i64 j ∧ Hid (k = D.cat R ∧ vs = us ++ vs2 ∧ us.length = j ∧ ns.length = j) ∧ Hid (FoIn w0 Bt R vs2) ∧
        Hid (wr.ownsRow w.heap.size 53 1 (.slice (some ⟨w.heap.size, 0, none⟩) q q) q (ns ++ List.replicate (q - j) .nilIface)) ∧ Hid (FoIn wr (w.heap.size + 1) (D.subst env) ns) ∧ Hid (Below w.heap.size w wr) ∧ w.heap.size + 1 ≤ wr.heap.size) (fun i _ => q - (intOf i).toNat)
      case atStart => exact ⟨.nil, k, [], vs, [], 0, Nat.zero_le _, rfl, ⟨rfl, rfl, rfl, rfl⟩, HC.out.2.2.2.2.2.2, HO1, rfl, HG1, hs1⟩
      case round =>
        obtain ⟨D, R, us, vs2, ns, j, hj, rfl, HF, HR, HO, HFO, HG, hsz⟩ := hrel
        have hwr : Below w0.heap.size w0 wr := Below.on HW.out HG.out
        by_cases hlt : j < q
        · obtain ⟨c', k', r', rfl⟩ : ∃ c' k' r', R = .node c' k' r' := by
            cases R with
            | nil =>
              have h1 := HF.out
              have h2 : vs2 = [] := HR.out
              have h3 := HE.out.1
              rw [h1.2.1, h2, List.append_nil] at h3
              omega
            | node c' k' r' => exact ⟨c', k', r', rfl⟩
          obtain ⟨v, vr, rfl, hnode, hrest⟩ := HR.out
          have hok2 := (Fo.ok_cat D (.node c' k' r')).1 (HF.out.1 ▸ HK.out)
          have hl2 : D.cells.length + (k'.cells.length + r'.cells.length + 1) = k.cells.length := by
            rw [HF.out.1, Fo.cells_cat]; simp [Fo.cells]
          have hat : w0.cell? ⟨g, j, none⟩ = some v := by
            rw [HC.out.2.2.2.2.2.1 j (by rw [← HE.out.1]; exact hlt), HF.out.2.1]
            simp [List.getD, HF.out.2.2.1]
          have c5 : wr.cell? ⟨g, j, none⟩ = some v := (hwr.cell (World.block_lt_of_cell? _ _ hat)).trans hat
          have HRC := HIH.out k'.cells.length (by omega) c' k' v Bt w0 wr (Nat.le_refl _) ⟨hok2.2.1, hok2.2.2.1, hok2.2.2.2.1, hok2.2.2.2.2.1, hok2.2.2.2.2.2.1, trivial⟩ ⟨v, [], rfl, hnode, rfl⟩ hwr (HS.out.below HG.out) (by omega)
          obtain ⟨vt, vx, rfl⟩ := hnode.iface
          have HRR : Hid (FoIn w0 Bt r' vr) := hrest
          clear hok2 hl2 hat hwr hnode hrest HIH
          go_wp2_with fail
          refine HRC.mono ?_
          rintro e w3 ⟨v3, rfl, hfo3, hg3⟩
          have hif : ∃ t y, v3 = .iface t y := by
            have h1 := hfo3
            simp only [Fo.subst] at h1
            split at h1
            · split at h1
              · exact FoIn.iface h1
              · exact FoIn.iface h1
            · exact FoIn.iface h1
          obtain ⟨nt, nx, rfl⟩ := hif
          have e0 : w3.cell? ⟨w.heap.size, j, none⟩ = some .nilIface := by
            rw [hg3.cell (p := ⟨w.heap.size, j, none⟩) (show w.heap.size < wr.heap.size by omega), HO.out.cellAt j (by omega), List.getElem?_append_right (by have := HF.out.2.2.2; omega), List.getElem?_replicate, if_pos (by have := HF.out.2.2.2; omega)]
          have e1 : w3.frozen? ⟨w.heap.size, j, none⟩ = false := (hg3.frozen (p := ⟨w.heap.size, j, none⟩) (show w.heap.size < wr.heap.size by omega)).trans (HO.out.frozenAt j)
          have HO3 : Hid (w3.ownsRow w.heap.size 53 1 (.slice (some ⟨w.heap.size, 0, none⟩) q q) q (ns ++ List.replicate (q - j) .nilIface)) := row_below HO.out hg3
          have HN : Hid (k = (D.cat (.node c' k' .nil)).cat r' ∧ vs = (us ++ [Value.iface vt vx]) ++ vr ∧ (us ++ [Value.iface vt vx]).length = j + 1 ∧ (ns ++ [Value.iface nt nx]).length = j + 1) := ⟨by rw [Fo.cat_assoc]; exact HF.out.1, by rw [HF.out.2.1]; simp, by simp [HF.out.2.2.1], by simp [HF.out.2.2.2]⟩
          have HF3 : Hid (FoIn (w3.setCell ⟨w.heap.size, j, none⟩ (.iface nt nx)) (w.heap.size + 1) ((D.cat (.node c' k' .nil)).subst env) (ns ++ [Value.iface nt nx])) := by
            show FoIn _ _ _ _
            rw [Fo.subst_cat]
            exact (FoIn.cat _ _ _ _ (HFO.out.below hg3) (hfo3.mono hsz)).setCell (show w.heap.size < w.heap.size + 1 by omega) _
          have HG3 : Hid (Below w.heap.size w (w3.setCell ⟨w.heap.size, j, none⟩ (.iface nt nx))) := (Below.on HG.out hg3).setCell (p := ⟨w.heap.size, j, none⟩) (Nat.le_refl _) _
          have hsz3 : w.heap.size + 1 ≤ w3.heap.size := Nat.le_trans hsz hg3.size
          clear hg3 hfo3 HRC
          go_wp2_with fail
          go_roundw
          case rel => exact ⟨D.cat (.node c' k' .nil), r', us ++ [Value.iface vt vx], vr, ns ++ [Value.iface nt nx], j + 1, by omega, by go_num, HN, HRR, row_next HO3.out HF.out.2.2.2 hlt _, HF3, HG3, by simpa using hsz3⟩
          case measure => simp [intOf]; omega
        · obtain rfl : j = q := by omega
          obtain rfl : R = .nil := by
            have h1 := FoIn.count _ _ HR.out
            have h2 := HE.out
            rw [HF.out.2.1, List.length_append] at h2
            have h3 := HF.out.2.2.1
            cases R with
            | nil => rfl
            | node a b d => simp [Fo.count] at h1; omega
          have hD : D = k := by have := HF.out.1; rw [Fo.cat_nil] at this; exact this.symm
          subst hD
          have x0 : wr.cell? ⟨b, 0, none⟩ = some (.string str) := by
            rw [HES.out]
            exact (hwr.cell (World.block_lt_of_cell? _ _ HC.out.2.2.1)).trans HC.out.2.2.1
          have hns := HF.out.2.2.2
          have HFIN : Hid (SubOut w env c D (.returned (.iface 108 (.pointer (some ⟨wr.heap.size, 0, none⟩)))) (wr.alloc (Obj.cells #[Value.string str, Value.slice (some ⟨w.heap.size, 0, none⟩) j j] 111))) := by
            have hal : Below wr.heap.size wr (wr.alloc (Obj.cells #[Value.string str, Value.slice (some ⟨w.heap.size, 0, none⟩) j j] 111)) := (Below.refl _ _).alloc (Nat.le_refl _) _
            refine ⟨_, rfl, ?_, Below.on HG.out hal⟩
            have hnew := heap_alloc_new wr (Obj.cells #[Value.string str, Value.slice (some ⟨w.heap.size, 0, none⟩) j j] 111)
            simp only [Fo.subst, if_neg (show ¬ c.1 = 0 by have := H0.out; omega)]
            refine ⟨_, [], rfl, .inr (.inr (.inr ⟨H0.out, wr.heap.size, w.heap.size, ns, rfl, by omega, Nat.le_refl _, by rw [← HES.out]; exact cell_of_row _ _ 0 _ _ _ hnew, by rw [hns]; exact cell_of_row _ _ 1 _ _ _ hnew, by simp; omega, fun i hi => ?_, ?_⟩)), rfl⟩
            · refine Lib.cell?_alloc_marked _ ?_
              rw [HO.out.cellAt i (by omega), List.getElem?_append_left (by omega)]
              simp [List.getD, hi]
            · exact (HFO.out.below hal).mono (by omega)
          clear hns
          go_wp2_with fail
          go_ret
          exact HFIN.out

end Go.Proofs.Ytedlcmkhbccjgaa

