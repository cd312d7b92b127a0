/- Texts of VMp, VMap, UnP, UnP2. Own work of the verifier. -/
import Derived.Test.YtaakpdakeolgeaaGreatUqal
import Derived.Test.YtaakpdakeolgeaaGreatUqar
namespace Go.Proofs.YtaakpdakeolgeaaGreat
open Go Go.RowKit Go.Maps
set_option linter.unusedVariables false
def anyE (v : Value) : Option (DataW Value × List MemPlace) := some (.held v, [])
def putE {α : Type} (E : List (Int × α)) (x : Int) (v : α) : List (Int × α) := if x ∈ E.map Prod.fst then E.map (fun y => if y.1 = x then (x, v) else y) else E ++ [(x, v)]
theorem look_map {α : Type} (x : Int) (v : α) : ∀ (E : List (Int × α)) (y : Int), look (E.map (fun z => if z.1 = x then (x, v) else z)) y = if y = x then (if x ∈ E.map Prod.fst then some v else none) else look E y
  | [], y => by simp [look]
  | z :: r, y => by
    have ih := look_map x v r y
    by_cases h1 : z.1 = x
    · by_cases h2 : y = x
      · subst h2; simp [look, h1]
      · have h3 : ¬ x = y := fun e => h2 e.symm
        simp [look, h1, h2, h3] at ih ⊢
        exact ih
    · have h4 : ¬ x = z.1 := fun e => h1 e.symm
      by_cases h2 : y = x
      · subst h2
        simp only [if_true] at ih
        simp only [List.map_cons, if_neg h1, look, ih, if_true, List.mem_cons, h4, false_or]
      · simp [look, h1, h2] at ih ⊢
        rw [ih]
theorem look_putE {α : Type} (E : List (Int × α)) (x : Int) (v : α) (y : Int) : look (putE E x v) y = if y = x then some v else look E y := by
  unfold putE
  split
  · rename_i h
    rw [look_map]
    simp [h]
  · rename_i h
    rw [look_append]
    by_cases e : y = x
    · subst e
      rw [(look_none E y).2 h]; simp [look]
    · have h3 : ¬ x = y := fun e' => e e'.symm
      cases look E y <;> simp [look, e, h3]
theorem putE_len {α : Type} (E : List (Int × α)) (x : Int) (v : α) : (putE E x v).length = if (look E x).isSome then E.length else E.length + 1 := by
  unfold putE
  by_cases h : x ∈ E.map Prod.fst
  · have : (look E x).isSome = true := by
      cases hl : look E x with
      | none => exact absurd h ((look_none E x).1 hl)
      | some t => rfl
    rw [if_pos h, this]; simp
  · rw [if_neg h, (look_none E x).2 h]; simp
theorem putE_new {α : Type} {E : List (Int × α)} {x : Int} (v : α) (h : look E x = none) : putE E x v = E ++ [(x, v)] := by
  unfold putE
  rw [if_neg ((look_none E x).1 h)]
def VMap (w : World) (b N : Nat) (E : List (Int × Value)) : Prop := ∃ D : DataW Value, w.ownsMap Tryz.prog 63 anyE b N D ∧ Maps.size D = E.length ∧ (∀ x : Int, Maps.has D (.int .i64 x) = (look E x).isSome) ∧
  (∀ (x : Int) z, D.atKey (.int .i64 x) z = match look E x with | some v => .held v | none => z)
theorem VMap.lt {w : World} {b N : Nat} {E : List (Int × Value)} (h : VMap w b N E) : b < w.heap.size := by obtain ⟨D, h, _⟩ := h; exact h.lt
theorem VMap.of_block {w w' : World} {b N : Nat} {E : List (Int × Value)} (h : VMap w b N E) (hb : w'.heap[b]? = w.heap[b]?) : VMap w' b N E := by
  obtain ⟨D, ⟨es, clock, h1, r⟩, h2⟩ := h
  exact ⟨D, ⟨es, clock, hb.trans h1, r⟩, h2⟩
theorem VMap.below {w w' : World} {b N : Nat} {E : List (Int × Value)} (h : VMap w b N E) (hb : Below w.heap.size w w') : VMap w' b N E := h.of_block (hb.block _ h.lt)
theorem VMap.mono {w : World} {b N N' : Nat} {E : List (Int × Value)} (h : VMap w b N E) (hn : N ≤ N') : VMap w b N' E := by
  obtain ⟨D, h1, h2⟩ := h
  exact ⟨D, h1.mono hn, h2⟩
theorem VMap.made (w : World) : VMap (w.alloc (.map #[] 0)) w.heap.size 0 [] := ⟨_, World.ownsMap_made _ _ _ _, rfl, fun x => rfl, fun x z => rfl⟩
theorem key_of (x : Int) (h0 : 0 ≤ x) (h1 : x ≤ 1000000) : keyOf Tryz.prog 63 (.int .i64 x) = some (.int .i64 x) := keyOf_int_mk (P := Tryz.prog) Tryz.underlying63 (q := .i64) (a := x) (WalkArith.wf_i64 (by omega))
theorem VMap.look {w : World} {b N : Nat} {E : List (Int × Value)} (h : VMap w b N E) {t e : TypeId} (ht : Tryz.prog.underlying t = some (.map 63 e)) {z : Value} (hz : (zeroValue e).run Tryz.prog w = .ok z w) (x : Int) (h0 : 0 ≤ x) (h1 : x ≤ 1000000) :
    (Instr.lookup t (.map (some b)) (.int .i64 x) true).run Tryz.prog w = .ok (.tuple #[(match Go.Proofs.YtaakpdakeolgeaaGreat.look E x with | some v => v | none => z), .bool (Go.Proofs.YtaakpdakeolgeaaGreat.look E x).isSome]) w := by
  obtain ⟨D, hown, hsz, hhas, hat⟩ := h
  obtain ⟨v, ps, hrun, hv⟩ := hown.look_ok lawVar ht hz (zd := .held z) (zp := []) rfl (key_of x h0 h1)
  rw [hrun, hhas]
  rw [hat] at hv
  simp only [anyE, Option.some.injEq, Prod.mk.injEq] at hv
  have hv := hv.1
  cases hl : Go.Proofs.YtaakpdakeolgeaaGreat.look E x with
  | none => rw [hl] at hv; cases hv; rfl
  | some u => rw [hl] at hv; cases hv; rfl
theorem VMap.put {w : World} {b N : Nat} {E : List (Int × Value)} (h : VMap w b N E) {t e : TypeId} (ht : Tryz.prog.underlying t = some (.map 63 e)) (hN : N ≤ 1000000) (x : Int) (h0 : 0 ≤ x) (h1 : x ≤ 1000000) (v : Value) :
    ∃ w', (Instr.mapUpdate t (.map (some b)) (.int .i64 x) v).run Tryz.prog w = .ok () w' ∧ VMap w' b (N + 1) (putE E x v) ∧ w.grownBy w' (some b) := by
  obtain ⟨D, hown, hsz, hhas, hat⟩ := h
  obtain ⟨w', hrun, hown', hg⟩ := hown.update lawVar ht (by unfold maxLen; omega) (key_of x h0 h1) (show anyE v = some (.held v, []) from rfl)
  have hm := hown.isMap
  have hkl : WideAt.IsKeyLit (.int .i64 x) := trivial
  refine ⟨w', hrun, ⟨_, hown', ?_, fun y => ?_, fun y z => ?_⟩, hg⟩
  · rw [size_put (hown.tidy lawVar), hhas, hsz, putE_len]
  · rw [look_putE]
    by_cases e : y = x
    · subst e; rw [has_put_same hm hkl]; simp
    · rw [has_put_other (by simpa using e), hhas]; simp [e]
  · rw [look_putE]
    by_cases e : y = x
    · subst e
      rw [atKey_put_same hm hkl]; simp
    · rw [atKey_put_other (by simpa using e), hat]; simp [e]
end Go.Proofs.YtaakpdakeolgeaaGreat

namespace Go.Proofs.YtaakpdakeolgeaaGreat
open Go Go.RowKit Go.Maps
set_option linter.unusedVariables false
theorem zeroTerm (w : World) : (zeroValue 57).run Tryz.prog w = .ok .nilIface w := by kernel_rfl
def KeepOut (w : World) (b N : Nat) (E : List (Int × Value)) (x : Int) (v : Value) (e : Ending) (w' : World) : Prop :=
  e = .returned (match look E x with | some u => u | none => v) ∧ VMap w' b (N + 1) (match look E x with | some _ => E | none => E ++ [(x, v)]) ∧ w.grownBy w' (some b)
set_option maxRecDepth 100000 in
theorem keep_any (b N : Nat) (E : List (Int × Value)) (x : Int) (t : TypeId) (y : Value) (w : World) (h0 : 0 ≤ x) (h1 : x ≤ 1000000) (hN : N ≤ 1000000) (hu : ∀ u, look E x = some u → ∃ t' y', u = .iface t' y') (hm : VMap w b N E) :
    Calls Tryz.prog 68 #[.map (some b), .int .i64 x, .iface t y] w (KeepOut w b N E x (.iface t y)) := by
  have hlk := hm.look (t := 88) Tryz.underlying88 (zeroTerm w) x h0 h1
  cases hl : look E x with
  | none =>
    obtain ⟨w', hrun, hm', hg⟩ := hm.put (t := 88) Tryz.underlying88 hN x h0 h1 (.iface t y)
    rw [putE_new _ hl] at hm'
    rw [hl] at hlk
    simp only [Option.isSome_none] at hlk
    have HF : Hid (KeepOut w b N E x (.iface t y) (.returned (.iface t y)) w') := by
      unfold KeepOut Hid
      rw [hl]
      exact ⟨rfl, hm', hg⟩
    clear hl hm hm' hg hu
    go_enter Tryz.func68, Tryz.ntmps68
    go_wp2
    go_ret
    exact HF.out
  | some u =>
    obtain ⟨t', y', rfl⟩ := hu u hl
    rw [hl] at hlk
    simp only [Option.isSome_some] at hlk
    have HF : Hid (KeepOut w b N E x (.iface t y) (.returned (.iface t' y')) w) := by
      unfold KeepOut Hid
      rw [hl]
      exact ⟨rfl, hm.mono (by omega), ⟨rfl, rfl, rfl, Nat.le_refl _, fun _ _ _ => rfl⟩⟩
    clear hl hm hu
    go_enter Tryz.func68, Tryz.ntmps68
    go_wp2
    go_ret
    exact HF.out
end Go.Proofs.YtaakpdakeolgeaaGreat

namespace Go.Proofs.YtaakpdakeolgeaaGreat
open Go Go.RowKit
set_option linter.unusedVariables false
def vsF : Fo → List Int
  | .nil => []
  | .node c k r => (if c.1 = 0 then [c.2.1] else []) ++ (vsF k ++ vsF r)
def vsT (t : Tr) : List Int := vsF (.node t.1 t.2 .nil)
abbrev BM := Int → Option Tr
def IsV (t : Tr) (v : Int) : Prop := t.1.1 = 0 ∧ t.1.2.1 = v ∧ t.2 = .nil
theorem IsV.vs {t : Tr} {v : Int} (h : IsV t v) : vsT t = [v] := by
  obtain ⟨h1, h2, h3⟩ := h
  simp [vsT, vsF, h1, h2, h3]
theorem IsV.inj {t : Tr} {v u : Int} (h : IsV t v) (h' : IsV t u) : v = u := h.2.1.symm.trans h'.2.1
inductive EndB (M : BM) : Tr → Tr → Prop
  | stay {t : Tr} (h : ∀ v, IsV t v → M v = none) : EndB M t t
  | go {t u e : Tr} {v : Int} (hv : IsV t v) (hm : M v = some u) (h : EndB M u e) : EndB M t e
inductive OnWay (M : BM) : Tr → Tr → Prop
  | here {t : Tr} : OnWay M t t
  | on {t u e : Tr} {v : Int} (hv : IsV t v) (hm : M v = some u) (h : OnWay M u e) : OnWay M t e
inductive Reach (M : BM) : Tr → Int → Prop
  | here {t : Tr} {v : Int} (h : v ∈ vsT t) : Reach M t v
  | thro {t u : Tr} {w v : Int} (hw : w ∈ vsT t) (hm : M w = some u) (h : Reach M u v) : Reach M t v
def Cut (P M : BM) : Prop := (∀ v, M v = none → P v = none) ∧ ∀ v u, M v = some u → ∃ u', P v = some u' ∧ OnWay M u u'
def Acyc (M : BM) (r : Int → Nat) : Prop := ∀ v u, M v = some u → ∀ w ∈ vsT u, r w < r v
theorem Cut.refl (M : BM) : Cut M M := ⟨fun _ h => h, fun v u h => ⟨u, h, .here⟩⟩
theorem OnWay.trans {M : BM} {a b c : Tr} (h : OnWay M a b) : OnWay M b c → OnWay M a c := by
  induction h with
  | here => exact id
  | on hv hm _ ih => exact fun h => .on hv hm (ih h)
theorem EndB.way {M : BM} {a e : Tr} (h : EndB M a e) : OnWay M a e := by
  induction h with
  | stay _ => exact .here
  | go hv hm _ ih => exact .on hv hm ih
theorem EndB.det {M : BM} {a e : Tr} (h : EndB M a e) : ∀ {e'}, EndB M a e' → e = e' := by
  induction h with
  | stay h =>
    intro e' h'
    cases h' with
    | stay _ => rfl
    | go hv hm _ => rw [h _ hv] at hm; cases hm
  | go hv hm _ ih =>
    intro e' h'
    cases h' with
    | stay h' => rw [h' _ hv] at hm; cases hm
    | go hv' hm' h' =>
      obtain rfl := hv.inj hv'
      rw [hm] at hm'
      cases hm'
      exact ih h'
theorem EndB.last {M : BM} {a e : Tr} (h : EndB M a e) : ∀ v, IsV e v → M v = none := by
  induction h with
  | stay h => exact h
  | go _ _ _ ih => exact ih
theorem EndB.from_stop {M : BM} {a b e : Tr} (h : OnWay M a b) : EndB M b e → EndB M a e := by
  induction h with
  | here => exact id
  | on hv hm _ ih => exact fun h => .go hv hm (ih h)
theorem EndB.at_stop {M : BM} {a b e : Tr} (h : OnWay M a b) : EndB M a e → EndB M b e := by
  induction h with
  | here => exact id
  | on hv hm _ ih =>
    intro h'
    cases h' with
    | stay h' => rw [h' _ hv] at hm; cases hm
    | go hv' hm' h' =>
      obtain rfl := hv.inj hv'
      rw [hm] at hm'
      cases hm'
      exact ih h'
theorem Cut.ends {P M : BM} (hc : Cut P M) {a e : Tr} (h : EndB P a e) : EndB M a e := by
  induction h with
  | @stay t h =>
    refine .stay fun v hv => ?_
    cases hm : M v with
    | none => rfl
    | some u =>
      obtain ⟨u', hp, _⟩ := hc.2 v u hm
      rw [h v hv] at hp; cases hp
  | @go t u e v hv hp _ ih =>
    cases hm : M v with
    | none => rw [hc.1 v hm] at hp; cases hp
    | some x =>
      obtain ⟨u', hp', hw⟩ := hc.2 v x hm
      rw [hp] at hp'
      cases hp'
      exact .go hv hm (EndB.from_stop hw ih)
theorem vs_rank {M : BM} {r : Int → Nat} (ha : Acyc M r) {a b : Tr} (h : OnWay M a b) : ∀ {n : Nat}, (∀ w ∈ vsT a, r w < n) → ∀ w ∈ vsT b, r w < n := by
  induction h with
  | here => exact fun h => h
  | on hv hm _ ih =>
    intro n hn
    refine ih fun w hw => ?_
    have h1 := ha _ _ hm w hw
    have h2 := hn _ (by rw [hv.vs]; exact List.mem_singleton.2 rfl)
    omega
theorem Acyc.ends {M : BM} {r : Int → Nat} (ha : Acyc M r) : ∀ (n : Nat) (t : Tr), (∀ w ∈ vsT t, r w < n) → ∃ e, EndB M t e := by
  intro n
  induction n with
  | zero =>
    intro t h
    refine ⟨t, .stay fun v hv => ?_⟩
    have := h v (by rw [hv.vs]; exact List.mem_singleton.2 rfl)
    omega
  | succ n ih =>
    intro t h
    by_cases hx : ∃ v, IsV t v ∧ ∃ u, M v = some u
    · obtain ⟨v, hv, u, hm⟩ := hx
      have hr := h v (by rw [hv.vs]; exact List.mem_singleton.2 rfl)
      obtain ⟨e, he⟩ := ih u fun w hw => by have := ha v u hm w hw; omega
      exact ⟨e, .go hv hm he⟩
    · refine ⟨t, .stay fun v hv => ?_⟩
      cases hm : M v with
      | none => rfl
      | some u => exact absurd ⟨v, hv, u, hm⟩ hx
theorem Cut.acyc {P M : BM} {r : Int → Nat} (hc : Cut P M) (ha : Acyc M r) : Acyc P r := by
  intro v u hp w hw
  cases hm : M v with
  | none => rw [hc.1 v hm] at hp; cases hp
  | some x =>
    obtain ⟨u', hp', hway⟩ := hc.2 v x hm
    rw [hp] at hp'
    cases hp'
    exact vs_rank ha hway (fun y hy => ha v x hm y hy) w hw
theorem Reach.from_stop {M : BM} {a b : Tr} {v : Int} (h : OnWay M a b) : Reach M b v → Reach M a v := by
  induction h with
  | here => exact id
  | on hv hm _ ih => exact fun h => .thro (by rw [hv.vs]; exact List.mem_singleton.2 rfl) hm (ih h)
theorem Reach.at_stop {M : BM} {a b : Tr} {v : Int} (h : OnWay M a b) (hv0 : M v = none) : Reach M a v → Reach M b v := by
  induction h with
  | here => exact id
  | on hv hm _ ih =>
    intro h'
    cases h' with
    | here h' =>
      rw [hv.vs] at h'
      obtain rfl := List.mem_singleton.1 h'
      rw [hv0] at hm; cases hm
    | thro hw hm' h' =>
      rw [hv.vs] at hw
      obtain rfl := List.mem_singleton.1 hw
      rw [hm] at hm'
      cases hm'
      exact ih h'
theorem Cut.reach {P M : BM} (hc : Cut P M) {a : Tr} {v : Int} (h : Reach P a v) : Reach M a v := by
  induction h with
  | here h => exact .here h
  | @thro t u w v hw hp _ ih =>
    cases hm : M w with
    | none => rw [hc.1 w hm] at hp; cases hp
    | some x =>
      obtain ⟨u', hp', hway⟩ := hc.2 w x hm
      rw [hp] at hp'
      cases hp'
      exact .thro hw hm (Reach.from_stop hway ih)
theorem Cut.reach_back {P M : BM} {r : Int → Nat} (hc : Cut P M) (ha : Acyc M r) {v : Int} (hv : M v = none) : ∀ (n : Nat) (a : Tr), (∀ w ∈ vsT a, r w < n) → Reach M a v → Reach P a v := by
  intro n
  induction n with
  | zero =>
    intro a hn h
    cases h with
    | here h => exact .here h
    | thro hw _ _ => have := hn _ hw; omega
  | succ n ih =>
    intro a hn h
    cases h with
    | here h => exact .here h
    | @thro _ u w _ hw hm h' =>
      obtain ⟨u', hp, hway⟩ := hc.2 _ _ hm
      refine .thro hw hp (ih u' (vs_rank ha hway fun y hy => ?_) (Reach.at_stop hway hv h'))
      have h1 := ha _ _ hm y hy
      have h2 := hn _ hw
      omega
theorem Cut.reach_iff {P M : BM} {r : Int → Nat} (hc : Cut P M) (ha : Acyc M r) {v : Int} (hv : M v = none) {n : Nat} {a : Tr} (hn : ∀ w ∈ vsT a, r w < n) : Reach P a v ↔ Reach M a v := ⟨hc.reach, hc.reach_back ha hv n a hn⟩
def BM.set (P : BM) (v : Int) (t : Tr) : BM := fun w => if w = v then some t else P w
theorem Cut.cut {P M : BM} (hc : Cut P M) {v : Int} {u e : Tr} (hp : P v = some u) (he : EndB P u e) : Cut (P.set v e) M := by
  constructor
  · intro w hw
    have h := hc.1 w hw
    simp only [BM.set]
    by_cases h' : w = v
    · subst h'; rw [hp] at h; cases h
    · rw [if_neg h', h]
  · intro w x hm
    obtain ⟨x', hx, hway⟩ := hc.2 w x hm
    by_cases h' : w = v
    · subst h'
      rw [hp] at hx
      cases hx
      exact ⟨e, by simp [BM.set], hway.trans (hc.ends he).way⟩
    · exact ⟨x', by simp [BM.set, h', hx], hway⟩
theorem OnWay.set {M : BM} {v : Int} {t : Tr} (hv : M v = none) {a b : Tr} (h : OnWay M a b) : OnWay (M.set v t) a b := by
  induction h with
  | here => exact .here
  | @on a u e w hw hm _ ih => exact .on hw (by simp only [BM.set]; rw [if_neg (fun h => by rw [h, hv] at hm; cases hm), hm]) ih
theorem Cut.bind {P M : BM} (hc : Cut P M) {v : Int} {t : Tr} (hv : M v = none) : Cut (P.set v t) (M.set v t) := by
  constructor
  · intro w hw
    simp only [BM.set] at hw ⊢
    by_cases h' : w = v
    · rw [if_pos h'] at hw; cases hw
    · rw [if_neg h'] at hw ⊢; exact hc.1 w hw
  · intro w x hm
    simp only [BM.set] at hm
    by_cases h' : w = v
    · rw [if_pos h'] at hm
      exact ⟨x, by simp only [BM.set]; rw [if_pos h']; exact hm, .here⟩
    · rw [if_neg h'] at hm
      obtain ⟨x', hx, hway⟩ := hc.2 w x hm
      exact ⟨x', by simp only [BM.set]; rw [if_neg h']; exact hx, hway.set hv⟩
theorem Reach.more {M : BM} {t u : Tr} (h : ∀ w ∈ vsT t, Reach M u w) : ∀ {v}, Reach M t v → (∀ w, w ∈ vsT t → ∀ x, M w = some x → Reach M x v → Reach M u v) → Reach M u v := fun hr hs => by
  cases hr with
  | here hv => exact h _ hv
  | thro hw hm h' => exact hs _ hw _ hm h'
end Go.Proofs.YtaakpdakeolgeaaGreat

namespace Go.Proofs.YtaakpdakeolgeaaGreat
open Go Go.RowKit
set_option linter.unusedVariables false
def Reaches (M : BM) (v x : Int) : Prop := x = v ∨ ∃ u, M x = some u ∧ Reach M u v
theorem Reaches.of_mem {M : BM} {v x w : Int} {u : Tr} (hm : M x = some u) (hw : w ∈ vsT u) (h : Reaches M v w) : Reaches M v x := by
  refine .inr ⟨u, hm, ?_⟩
  rcases h with rfl | ⟨y, hy, hr⟩
  · exact .here hw
  · exact .thro hw hy hr
theorem Reach.of_reaches {M : BM} {v w : Int} {t : Tr} (hw : w ∈ vsT t) (h : Reaches M v w) : Reach M t v := by
  rcases h with rfl | ⟨y, hy, hr⟩
  · exact .here hw
  · exact .thro hw hy hr
theorem list_top (r : Int → Nat) : ∀ l : List Int, ∃ K, ∀ w ∈ l, r w < K
  | [] => ⟨0, fun _ h => by cases h⟩
  | a :: l => by
    obtain ⟨K, h⟩ := list_top r l
    refine ⟨K + r a + 1, fun w hw => ?_⟩
    rcases List.mem_cons.1 hw with rfl | hw
    · omega
    · have := h w hw; omega
open Classical in
theorem Acyc.bind {M : BM} {r : Int → Nat} (ha : Acyc M r) {v : Int} {t : Tr} (hv : M v = none) (hr : ¬ Reach M t v) : ∃ r', Acyc (M.set v t) r' := by
  obtain ⟨K, hK⟩ := list_top r (vsT t)
  refine ⟨fun x => r x + (if Reaches M v x then K else 0), fun x u hm w hw => ?_⟩
  simp only [BM.set] at hm
  by_cases hx : x = v
  · subst hx
    rw [if_pos rfl] at hm
    cases hm
    have h1 := hK w hw
    have h2 : ¬ Reaches M x w := fun h => hr (Reach.of_reaches hw h)
    simp only [if_neg h2, if_pos (show Reaches M x x from .inl rfl)]
    omega
  · rw [if_neg hx] at hm
    have h1 := ha x u hm w hw
    by_cases h2 : Reaches M v w
    · simp only [if_pos h2, if_pos (Reaches.of_mem hm hw h2)]
      omega
    · simp only [if_neg h2]
      omega
inductive FullF (M : BM) : Fo → Fo → Prop
  | nil : FullF M .nil .nil
  | keep {c : Cel} {k r k' r' : Fo} (h : c.1 = 0 → M c.2.1 = none) (hk : FullF M k k') (hr : FullF M r r') : FullF M (.node c k r) (.node c k' r')
  | put {c : Cel} {r r' : Fo} {u g : Tr} (h0 : c.1 = 0) (hm : M c.2.1 = some u) (hu : FullF M u.fo g.fo) (hr : FullF M r r') : FullF M (.node c .nil r) (.node g.1 g.2 r')
theorem FullF.det {M : BM} {F G : Fo} (h : FullF M F G) : ∀ {G'}, FullF M F G' → G = G' := by
  induction h with
  | nil => intro G' h'; cases h'; rfl
  | keep h _ _ ihk ihr =>
    intro G' h'
    cases h' with
    | keep _ hk hr => rw [ihk hk, ihr hr]
    | put h0 hm _ _ => rw [h h0] at hm; cases hm
  | @put c r r' u g h0 hm _ _ ihu ihr =>
    intro G' h'
    cases h' with
    | keep h _ _ => rw [h h0] at hm; cases hm
    | @put _ _ r2 u' g' _ hm' hu hr =>
      rw [hm] at hm'
      cases hm'
      have e := ihu hu
      unfold Tr.fo at e
      injection e with e1 e2 _
      rw [e1, e2, ihr hr]
theorem vs_node (c : Cel) (k r : Fo) (w : Int) : w ∈ vsF (.node c k r) ↔ (c.1 = 0 ∧ w = c.2.1) ∨ w ∈ vsF k ∨ w ∈ vsF r := by
  simp only [vsF, List.mem_append]
  by_cases h : c.1 = 0 <;> simp [h]
theorem full_ex {M : BM} {r : Int → Nat} (ha : Acyc M r) (hb : ∀ v u, M v = some u → u.fo.ok) : ∀ (n : Nat) (F : Fo), F.ok → (∀ w ∈ vsF F, r w < n) → ∃ G, FullF M F G ∧ G.count = F.count := by
  intro n
  induction n with
  | zero =>
    intro F
    induction F with
    | nil => exact fun _ _ => ⟨.nil, .nil, rfl⟩
    | node c k f ihk ihf =>
      intro hok hn
      obtain ⟨k', hk, ck⟩ := ihk hok.2.2.2.2.1 fun w hw => hn w ((vs_node ..).2 (.inr (.inl hw)))
      obtain ⟨f', hf, cf⟩ := ihf hok.2.2.2.2.2 fun w hw => hn w ((vs_node ..).2 (.inr (.inr hw)))
      refine ⟨.node c k' f', .keep (fun h0 => ?_) hk hf, by simp [Fo.count, cf]⟩
      have := hn c.2.1 ((vs_node ..).2 (.inl ⟨h0, rfl⟩))
      omega
  | succ n ih =>
    intro F
    induction F with
    | nil => exact fun _ _ => ⟨.nil, .nil, rfl⟩
    | node c k f ihk ihf =>
      intro hok hn
      obtain ⟨k', hk, ck⟩ := ihk hok.2.2.2.2.1 fun w hw => hn w ((vs_node ..).2 (.inr (.inl hw)))
      obtain ⟨f', hf, cf⟩ := ihf hok.2.2.2.2.2 fun w hw => hn w ((vs_node ..).2 (.inr (.inr hw)))
      by_cases h0 : c.1 = 0
      · cases hm : M c.2.1 with
        | none => exact ⟨.node c k' f', .keep (fun _ => hm) hk hf, by simp [Fo.count, cf]⟩
        | some u =>
          have hkn : k = .nil := hok.2.2.2.1 (by rw [h0]; decide)
          subst hkn
          have hr := hn c.2.1 ((vs_node ..).2 (.inl ⟨h0, rfl⟩))
          obtain ⟨G, hG, cG⟩ := ih u.fo (hb _ _ hm) fun w hw => by have := ha _ _ hm w hw; omega
          cases G with
          | nil => simp [Tr.fo, Fo.count] at cG
          | node a b d =>
            cases d with
            | nil => exact ⟨.node a b f', .put (g := (a, b)) h0 hm hG hf, by simp [Fo.count, cf]⟩
            | node _ _ _ => simp [Tr.fo, Fo.count] at cG
      · exact ⟨.node c k' f', .keep (fun h => absurd h h0) hk hf, by simp [Fo.count, cf]⟩
theorem FullF.from_stop {M : BM} {a b g : Tr} (h : OnWay M a b) : FullF M b.fo g.fo → FullF M a.fo g.fo := by
  induction h with
  | here => exact id
  | @on a u e v hv hm _ ih =>
    intro h
    have h1 := ih h
    obtain ⟨⟨a0, an, at'⟩, ak⟩ := a
    obtain ⟨v0, v1, v2⟩ := hv
    simp only at v0 v1 v2
    subst v0 v1 v2
    exact FullF.put (c := (0, an, at')) (g := g) rfl hm h1 .nil
theorem Cut.full {P M : BM} (hc : Cut P M) {F G : Fo} (h : FullF P F G) : FullF M F G := by
  induction h with
  | nil => exact .nil
  | @keep c k r k' r' h _ _ ihk ihr =>
    refine .keep (fun h0 => ?_) ihk ihr
    cases hm : M c.2.1 with
    | none => rfl
    | some u =>
      obtain ⟨u', hp, _⟩ := hc.2 _ u hm
      rw [h h0] at hp; cases hp
  | @put c r r' u g h0 hp _ _ ihu ihr =>
    cases hm : M c.2.1 with
    | none => rw [hc.1 _ hm] at hp; cases hp
    | some x =>
      obtain ⟨u', hp', hway⟩ := hc.2 _ x hm
      rw [hp] at hp'
      cases hp'
      exact .put h0 hm (FullF.from_stop hway ihu) ihr
theorem FullF.size {M : BM} {F G : Fo} (h : FullF M F G) : F.cells.length ≤ G.cells.length := by
  induction h with
  | nil => exact Nat.le_refl _
  | keep _ _ _ ihk ihr => simp only [Fo.cells, List.length_cons, List.length_append]; omega
  | put _ _ _ _ ihu ihr =>
    simp only [Tr.fo, Fo.cells, List.length_cons, List.length_append, List.length_nil] at ihu ⊢
    omega
end Go.Proofs.YtaakpdakeolgeaaGreat

