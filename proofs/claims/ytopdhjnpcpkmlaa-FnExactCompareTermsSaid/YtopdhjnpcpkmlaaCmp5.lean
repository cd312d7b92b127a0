/- note: the names of a term put into the map. Own work of the verifier. -/
import Derived.Test.YtopdhjnpcpkmlaaCmp4
import Derived.Test.YtopdhjnpcpkmlaaVars1
import Derived.Test.YtopdhjnpcpkmlaaItems1
namespace Go.Proofs.Ytopdhjnpcpkmlaa
open Go Go.RowKit Go.Maps
set_option linter.unusedVariables false

instance decBA : DecidableEq ByteArray := fun a b => decidable_of_iff (a.data = b.data) ⟨fun h => by cases a; cases b; simp_all, fun h => by rw [h]⟩
noncomputable instance decMem (f : Fun) (ks : List Fun) : Decidable (f ∈ ks) := Classical.propDecidable _
def okF (f : Fun) : Prop := f.1.size ≤ 1000000 ∧ 0 ≤ f.2 ∧ f.2 ≤ 1000000
/-- Block b is a map that gives the names of ks their ranks. -/
def FunMap (w : World) (b N : Nat) (ks : List Fun) (rk : Fun → Int) : Prop := ∃ D : DataW Unit, w.ownsMap Try.prog 105 (plainElem Try.prog 3) b N D ∧ (∀ f ∈ ks, okF f) ∧ Maps.size D = ks.length ∧ (∀ f l, keyOf Try.prog 105 (.agg #[.string f.1, .int .i64 f.2]) = some l → Maps.has D l = decide (f ∈ ks)) ∧
  (∀ f ∈ ks, D.atKey (fk f) (.lit (.int .i64 0)) = .lit (.int .i64 (rk f)))
theorem FunMap.lt {w : World} {b N : Nat} {ks : List Fun} {rk : Fun → Int} (h : FunMap w b N ks rk) : b < w.heap.size := by obtain ⟨D, h, _⟩ := h; exact h.lt
theorem FunMap.of_block {w w' : World} {b N : Nat} {ks : List Fun} {rk : Fun → Int} (h : FunMap w b N ks rk) (hb : w'.heap[b]? = w.heap[b]?) : FunMap w' b N ks rk := by
  obtain ⟨D, ⟨es, clock, h1, r⟩, h2⟩ := h
  exact ⟨D, ⟨es, clock, hb.trans h1, r⟩, h2⟩
theorem FunMap.below {w w' : World} {b N : Nat} {ks : List Fun} {rk : Fun → Int} (h : FunMap w b N ks rk) (hb : Below w.heap.size w w') : FunMap w' b N ks rk := h.of_block (hb.block _ h.lt)
theorem FunMap.made (w : World) (rk : Fun → Int) : FunMap (w.alloc (.map #[] 0)) w.heap.size 0 [] rk := ⟨_, World.ownsMap_made _ _ _ _, fun _ h => by simp at h, rfl, fun f l _ => by simp; rfl, fun x hx => by cases hx⟩
noncomputable def putF (ks : List Fun) (f : Fun) : List Fun := if f ∈ ks then ks else ks ++ [f]
theorem fk_lit (f : Fun) : WideAt.IsKeyLit (fk f) := trivial
/-- A store. -/
theorem FunMap.put {w : World} {b N : Nat} {ks : List Fun} {rk : Fun → Int} (h : FunMap w b N ks rk) (f : Fun) (hf : okF f) (r : Int) (D : DataW Unit) (hD : w.ownsMap Try.prog 105 (plainElem Try.prog 3) b N D ∧ (∀ f ∈ ks, okF f) ∧ Maps.size D = ks.length ∧ (∀ f l, keyOf Try.prog 105 (.agg #[.string f.1, .int .i64 f.2]) = some l → Maps.has D l = decide (f ∈ ks)) ∧
    (∀ f ∈ ks, D.atKey (fk f) (.lit (.int .i64 0)) = .lit (.int .i64 (rk f)))) {w' : World} (h' : w'.ownsMap Try.prog 105 (plainElem Try.prog 3) b (N + 1) (D.put (fk f) (.lit (.int .i64 r)))) :
    FunMap w' b (N + 1) (putF ks f) (fun g => if g = f then r else rk g) := by
  obtain ⟨hown, hok, hsz, hhas, hat⟩ := hD
  have hm := hown.isMap
  have hokP : ∀ g ∈ putF ks f, okF g := fun g hg => by
    unfold putF at hg
    split at hg
    · exact hok g hg
    · rcases List.mem_append.1 hg with h | h
      · exact hok g h
      · simp at h; rw [h]; exact hf
  refine ⟨_, h', hokP, ?_, fun g l hg => ?_, fun g hg => ?_⟩
  · rw [size_put (hown.tidy lawFun), hhas f (fk f) (keyFun f hf.1 hf.2.1 hf.2.2), hsz]
    unfold putF
    by_cases e : f ∈ ks
    · simp [e]
    · simp [e]
  · by_cases e : g = f
    · subst e
      have el : l = fk g := by have := keyFun g hf.1 hf.2.1 hf.2.2; rw [hg] at this; exact Option.some.inj this
      rw [el, has_put_same hm (fk_lit g)]
      unfold putF
      by_cases e : g ∈ ks <;> simp [e]
    · have hne : l ≠ fk f := fun h => e (by
        have h2 := keyFun f hf.1 hf.2.1 hf.2.2
        rw [← h] at h2
        have := lawFun.inj hg h2
        obtain ⟨g1, g2⟩ := g
        obtain ⟨f1, f2⟩ := f
        simpa using this)
      rw [has_put_other hne, hhas g l hg]
      unfold putF
      by_cases e2 : f ∈ ks <;> simp [e2, e]
  · by_cases e : g = f
    · subst e; rw [atKey_put_same hm (fk_lit g)]; simp
    · rw [atKey_put_other (fun h => e (fk_inj (hokP g hg) hf h))]
      simp only [if_neg e]
      refine hat g ?_
      unfold putF at hg
      split at hg
      · exact hg
      · simpa [e] using hg

theorem atomFun_any (s : ByteArray) (w : World) : Calls Try.prog 75 #[.string s] w fun e w' => e = .returned (.agg #[.string s, .int .i64 0]) ∧ Below w.heap.size w w' := by
  go_enter Try.func75, Try.ntmps75
  go_wp2_with fail
  exact bodyPost_ret (v := .agg #[.string s, .int .i64 0]) (by simp [results, Try.results75, go_sem]) rfl ⟨rfl, (Below.refl _ _).alloc (Nat.le_refl _) _⟩

theorem noAtom_var (w : World) (x : Value) : (Instr.typeAssert (.iface 67 x) 59 76 true).run Try.prog w = .ok (.tuple #[.string ⟨#[]⟩, .bool false]) w := by kernel_rfl
theorem noAtom_num (w : World) (x : Value) : (Instr.typeAssert (.iface 107 x) 59 76 true).run Try.prog w = .ok (.tuple #[.string ⟨#[]⟩, .bool false]) w := by kernel_rfl
theorem noAtom_comp (w : World) (x : Value) : (Instr.typeAssert (.iface 100 x) 59 76 true).run Try.prog w = .ok (.tuple #[.string ⟨#[]⟩, .bool false]) w := by kernel_rfl
theorem isAtom (w : World) (x : Value) : (Instr.typeAssert (.iface 76 x) 59 76 true).run Try.prog w = .ok (.tuple #[x, .bool true]) w := by kernel_rfl

/-- The names so far, behind a visit. -/
noncomputable def noteL (ks : List Fun) (c : Cel) : List Fun := if c.1 = 2 ∨ c.1 = 3 then putF ks (strOfNums c.2.2, c.2.1) else ks
def NoteOut (w : World) (B b N : Nat) (ks : List Fun) (e : Ending) (w' : World) : Prop := e = .returned (.tuple #[]) ∧ (∃ N', N ≤ N' ∧ N' ≤ N + 1 ∧ FunMap w' b N' ks (fun _ => 0)) ∧ Below B w w'

theorem noteOther_any (t : TypeId) (x : Value) (B b N : Nat) (ks : List Fun) (w : World) (ht : t = 67 ∨ t = 107) (hm : FunMap w b N ks (fun _ => 0)) :
    Calls Try.prog 62 #[.map (some b), .iface t x] w (NoteOut w B b N ks) := by
  have HF : Hid (NoteOut w B b N ks (.returned (.tuple #[])) w) := ⟨rfl, ⟨N, Nat.le_refl _, by omega, hm⟩, Below.refl _ _⟩
  clear hm
  rcases ht with rfl | rfl
  · have a1 := noAtom_var
    have a2 := noComp_var
    go_enter Try.func62, Try.ntmps62
    go_wp2_with fail
    go_end0
    exact HF.out
  · have a1 := noAtom_num
    have a2 := noComp_num
    go_enter Try.func62, Try.ntmps62
    go_wp2_with fail
    go_end0
    exact HF.out

theorem FunMap.zero {w : World} {b N : Nat} {ks : List Fun} {f : Fun} (h : FunMap w b N ks (fun g => if g = f then 0 else 0)) : FunMap w b N ks (fun _ => 0) := by
  have e : (fun g : Fun => if g = f then (0 : Int) else 0) = fun _ => 0 := by funext g; split <;> rfl
  rwa [e] at h

theorem noteAtom_any (str : ByteArray) (B b N : Nat) (ks : List Fun) (w : World) (hs : str.size ≤ 1000000) (hB : B ≤ w.heap.size) (hBb : B ≤ b) (hN : N ≤ 1000000) (hm : FunMap w b N ks (fun _ => 0)) :
    Calls Try.prog 62 #[.map (some b), .iface 76 (.string str)] w (NoteOut w B b N (putF ks (str, 0))) := by
  have HM : Hid (FunMap w b N ks (fun _ => 0)) := hm
  have HA := atomFun_any str w
  have a1 := isAtom
  have hk := keyFun (str, 0) hs (by simp) (by simp)
  clear hm
  go_enter Try.func62, Try.ntmps62
  go_wp2_with fail
  refine HA.mono ?_
  rintro e w1 ⟨rfl, hb1⟩
  have hm1 := HM.out.below hb1
  obtain ⟨D, hD⟩ := hm1
  have hown := hD.1
  have HB1 : Hid (Below B w w1) := hb1.mono hB
  have HPUT : Hid (∀ w', w'.ownsMap Try.prog 105 (plainElem Try.prog 3) b (N + 1) (D.put (fk (str, 0)) (.lit (.int .i64 0))) → FunMap w' b (N + 1) (putF ks (str, 0)) (fun _ => 0)) := fun w' h' => (FunMap.put ⟨D, hD⟩ (str, 0) ⟨hs, by simp, by simp⟩ 0 D hD h').zero
  have HW : Hid (B ≤ w1.heap.size) := Nat.le_trans hB hb1.size
  clear hD hb1 HA a1
  go_wp2_with (at_mapUpdate; refine wpList_mapUpdate_own _ rfl _ _ _ 88 rfl 105 3 lawFun Try.underlying88 _ b N D rfl hown (by unfold maxLen; omega) _ _ _ rfl rfl hk _ [] (plainElem_int Try.underlying3 (WalkArith.wf_i64 (by omega))) ?_; intro w2 hown2 hgrow2)
  go_end0
  exact ⟨rfl, ⟨N + 1, by omega, Nat.le_refl _, HPUT.out _ hown2⟩, HB1.out.trans ((Below.refl _ _).grown hgrow2 HW.out (fun k e => by cases e; exact hBb))⟩

theorem noteComp_any (cb g q : Nat) (str : ByteArray) (B b N : Nat) (ks : List Fun) (w : World) (h0 : w.cell? ⟨cb, 0, none⟩ = some (.string str)) (h1 : w.cell? ⟨cb, 1, none⟩ = some (.slice (some ⟨g, 0, none⟩) q q)) (hs : str.size ≤ 1000000) (hq : q ≤ 1000000) (hB : B ≤ w.heap.size) (hBb : B ≤ b) (hN : N ≤ 1000000) (hm : FunMap w b N ks (fun _ => 0)) :
    Calls Try.prog 62 #[.map (some b), .iface 100 (.pointer (some ⟨cb, 0, none⟩))] w (NoteOut w B b N (putF ks (str, q))) := by
  have HM : Hid (FunMap w b N ks (fun _ => 0)) := hm
  have HA := functor_any cb g q str w h0 h1
  have a1 := noAtom_comp
  have a2 := isComp
  have hk := keyFun (str, q) hs (by simp) (by simp; omega)
  clear hm h0 h1
  go_enter Try.func62, Try.ntmps62
  go_wp2_with fail
  refine HA.mono ?_
  rintro e w1 ⟨rfl, hb1⟩
  have hm1 := HM.out.below hb1
  obtain ⟨D, hD⟩ := hm1
  have hown := hD.1
  have HB1 : Hid (Below B w w1) := hb1.mono hB
  have HPUT : Hid (∀ w', w'.ownsMap Try.prog 105 (plainElem Try.prog 3) b (N + 1) (D.put (fk (str, q)) (.lit (.int .i64 0))) → FunMap w' b (N + 1) (putF ks (str, q)) (fun _ => 0)) := fun w' h' => (FunMap.put ⟨D, hD⟩ (str, q) ⟨hs, by simp, by simp; omega⟩ 0 D hD h').zero
  have HW : Hid (B ≤ w1.heap.size) := Nat.le_trans hB hb1.size
  clear hD hb1 HA a1 a2
  go_wp2_with (at_mapUpdate; refine wpList_mapUpdate_own _ rfl _ _ _ 88 rfl 105 3 lawFun Try.underlying88 _ b N D rfl hown (by unfold maxLen; omega) _ _ _ rfl rfl hk _ [] (plainElem_int Try.underlying3 (WalkArith.wf_i64 (by omega))) ?_; intro w2 hown2 hgrow2)
  go_end0
  exact ⟨rfl, ⟨N + 1, by omega, Nat.le_refl _, HPUT.out _ hown2⟩, HB1.out.trans ((Below.refl _ _).grown hgrow2 HW.out (fun k e => by cases e; exact hBb))⟩

end Go.Proofs.Ytopdhjnpcpkmlaa
