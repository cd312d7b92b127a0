/- Numbers given to variables: the map 'numbering'. Own work of the verifier. -/
import Derived.Test.YtjbckdmlogjggaaTree5
import Derived.Maps.OwnSet
import Derived.Maps.OwnOps
namespace Go.Proofs.Ytjbckdmlogjggaa
open Go Go.RowKit Go.Maps
set_option linter.unusedVariables false

theorem lawVar : Keyed Try.prog 67 := int_keyed Try.underlying67
theorem zeroVar (w : World) : (zeroValue 67).run Try.prog w = .ok (.int .i64 0) w := by kernel_rfl

/-- The list with a variable put behind it, if it was not there. -/
def putV (ks : List Int) (x : Int) : List Int := if x ∈ ks then ks else ks ++ [x]
/-- Block b is a map that gives the variables of ks their places. -/
def NumMap (w : World) (b : Nat) (ks : List Int) : Prop := ∃ D : DataW Unit, w.ownsMap Try.prog 67 (plainElem Try.prog 67) b ks.length D ∧ Maps.size D = ks.length ∧ (∀ x : Int, Maps.has D (.int .i64 x) = decide (x ∈ ks)) ∧
  (∀ x ∈ ks, D.atKey (.int .i64 x) (.lit (.int .i64 0)) = .lit (.int .i64 (ks.idxOf x)))
theorem NumMap.lt {w : World} {b : Nat} {ks : List Int} (h : NumMap w b ks) : b < w.heap.size := by obtain ⟨D, h, _⟩ := h; exact h.lt
theorem NumMap.of_block {w w' : World} {b : Nat} {ks : List Int} (h : NumMap w b ks) (hb : w'.heap[b]? = w.heap[b]?) : NumMap w' b ks := by
  obtain ⟨D, ⟨es, clock, h1, r⟩, h2⟩ := h
  exact ⟨D, ⟨es, clock, hb.trans h1, r⟩, h2⟩
theorem NumMap.made (w : World) : NumMap (w.alloc (.map #[] 0)) w.heap.size [] := ⟨_, World.ownsMap_made _ _ _ _, rfl, fun x => rfl, fun x hx => by cases hx⟩

theorem of_any (b : Nat) (ks : List Int) (x : Int) (w : World) (h0 : 0 ≤ x) (h1 : x ≤ 1000000) (hl : ks.length ≤ 1000000) (hm : NumMap w b ks) :
    Calls Try.prog 70 #[.map (some b), .int .i64 x] w fun e w' => e = .returned (.int .i64 (ks.idxOf x)) ∧ NumMap w' b (putV ks x) ∧ w.grownBy w' (some b) := by
  obtain ⟨D, hown, hsz, hhas, hat⟩ := hm
  have hk := keyOf_int_mk (P := Try.prog) Try.underlying67 (q := .i64) (a := x) (WalkArith.wf_i64 (by omega))
  by_cases hx : x ∈ ks
  · have hh : Maps.has D (.int .i64 x) = true := by rw [hhas]; simpa using hx
    have hv := hat x hx
    have HO : Hid (NumMap w b (putV ks x)) := by rw [putV, if_pos hx]; exact ⟨D, hown, hsz, hhas, hat⟩
    clear hhas hat
    go_enter Try.func70, Try.ntmps70
    go_wp2_with (at_lookup; refine wpList_lookup_own_ok_int _ rfl _ _ 104 rfl 67 67 .i64 lawVar Try.underlying104 Try.underlying67 (zeroVar _) b ks.length D rfl hown _ _ rfl hk ?_; intro c hc hwc; rw [hh]; obtain rfl : c = ks.idxOf x := by (rw [hv] at hc; cases hc; rfl))
    go_ret
    exact ⟨rfl, HO.out, ⟨rfl, rfl, rfl, Nat.le_refl _, fun _ _ _ => rfl⟩⟩
  · have hh : Maps.has D (.int .i64 x) = false := by rw [hhas]; simpa using hx
    have hi : ks.idxOf x = ks.length := List.idxOf_eq_length hx
    have hkl : WideAt.IsKeyLit (.int .i64 x) := trivial
    have HF : Hid (∀ w', w'.ownsMap Try.prog 67 (plainElem Try.prog 67) b (ks.length + 1) (D.put (.int .i64 x) (.lit (.int .i64 ks.length))) → NumMap w' b (putV ks x)) := fun w' h => by
      have hm := hown.isMap
      rw [putV, if_neg hx]
      refine ⟨_, by simpa using h, ?_, fun y => ?_, fun y hy => ?_⟩
      · rw [size_put (hown.tidy lawVar), hh, hsz]; simp
      · by_cases e : y = x
        · subst e; rw [has_put_same hm hkl]; simp
        · rw [has_put_other (by simpa using e), hhas]; simp [e]
      · by_cases e : y = x
        · subst e
          rw [atKey_put_same hm hkl, List.idxOf_append, if_neg hx]
          simp
        · have hy' : y ∈ ks := by simpa [e] using hy
          rw [atKey_put_other (by simpa using e), hat y hy', List.idxOf_append, if_pos hy']
    rw [hi]
    obtain ⟨l, el⟩ : ∃ l, l = ks.length := ⟨_, rfl⟩
    rw [← el] at hown hsz hl HF ⊢
    clear hhas hat hi hx el
    go_enter Try.func70, Try.ntmps70
    go_wp2_with (first
      | (at_lookup; refine wpList_lookup_own_ok_int _ rfl _ _ 104 rfl 67 67 .i64 lawVar Try.underlying104 Try.underlying67 (zeroVar _) b l D rfl hown _ _ rfl hk ?_; intro c hc hwc; rw [hh])
      | (at_len; refine wpList_len_own _ rfl _ 104 rfl 67 67 Try.underlying104 _ b l D rfl hown ?_; rw [hsz])
      | (at_mapUpdate; refine wpList_mapUpdate_own _ rfl _ _ _ 104 rfl 67 67 lawVar Try.underlying104 _ b l D rfl hown (by unfold maxLen; omega) _ _ _ rfl rfl hk _ [] (plainElem_int Try.underlying67 (WalkArith.wf_i64 (by omega))) ?_; intro w1 hown1 hgrow1))
    go_ret
    exact ⟨rfl, HF.out _ hown1, hgrow1⟩

end Go.Proofs.Ytjbckdmlogjggaa
