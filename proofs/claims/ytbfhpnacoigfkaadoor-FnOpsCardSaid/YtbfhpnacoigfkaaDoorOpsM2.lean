/- The map of operators; key, isPostfix. Own work of the verifier. -/
import Derived.Test.YtbfhpnacoigfkaaDoorOpsM1
import Derived.Test.YtbfhpnacoigfkaaDoorOpsV4
namespace Go.Proofs.YtbfhpnacoigfkaaDoor
open Go Go.RowKit Go.Maps
set_option linter.unusedVariables false

def kO (c : Cel) : OKey := (strOfNums c.2.2, srt c.2.1)
theorem kO_key {x y : Cel} : kO x = kO y ↔ keyC x = keyC y := by
  constructor
  · intro h
    have h1 := (Prod.mk.inj h).1
    have h2 := (Prod.mk.inj h).2
    rw [keyC, keyC, h1, h2]
  · intro h
    exact Prod.ext (ba_ext (Prod.mk.inj h).1) (Prod.mk.inj h).2
/-- How an operator reads as an element of the map. -/
def opElem (v : Value) : Option (DataW Unit × List MemPlace) :=
  match v with
  | .agg ⟨[.string s, .int .i64 p, .int .i64 t]⟩ => some (.agg [.lit (.string s.data.toList), .lit (.int .i64 p), .lit (.int .i64 t)], [])
  | _ => none
def encV (c : Cel) : Value := .agg #[.string (strOfNums c.2.2), .int .i64 c.1, .int .i64 c.2.1]
def encD (c : Cel) : DataW Unit := .agg [.lit (.string (strOfNums c.2.2).data.toList), .lit (.int .i64 c.1), .lit (.int .i64 c.2.1)]
theorem opElem_enc (c : Cel) : opElem (encV c) = some (encD c, []) := rfl
theorem opElem_inv {v : Value} {y : DataW Unit × List MemPlace} (h : opElem v = some y) : ∃ x : ByteArray × Int × Int, v = .agg #[.string x.1, .int .i64 x.2.1, .int .i64 x.2.2] ∧ y = (.agg [.lit (.string x.1.data.toList), .lit (.int .i64 x.2.1), .lit (.int .i64 x.2.2)], []) := by
  unfold opElem at h
  split at h
  · rename_i s p t
    exact ⟨(s, p, t), rfl, (Option.some.inj h).symm⟩
  · cases h
theorem opElem_at {v : Value} {c : Cel} {ps : List MemPlace} (h : opElem v = some (encD c, ps)) : v = encV c := by
  obtain ⟨x, rfl, hy⟩ := opElem_inv h
  have h1 := congrArg Prod.fst hy
  simp only [encD, DataW.agg.injEq, List.cons.injEq, DataW.lit.injEq, Lit.string.injEq, Lit.int.injEq, and_true, true_and] at h1
  have e : x.1 = strOfNums c.2.2 := ba_ext (by rw [ByteArray.toList_eq, ByteArray.toList_eq]; exact h1.1.symm)
  rw [encV, e, h1.2.1, h1.2.2]
def zD : DataW Unit := .agg [.lit (.string []), .lit (.int .i64 0), .lit (.int .i64 0)]
def okT (c : Cel) : Prop := Byte c.2.2 ∧ c.2.2.length ≤ 1000000
def Apart (T : List Cel) : Prop := T.Pairwise (fun x y => keyC x ≠ keyC y)
/-- Block b is a map that has the operators of T. -/
def OpMap (w : World) (b N : Nat) (T : List Cel) : Prop := ∃ D : DataW Unit, w.ownsMap Tryd.prog 69 opElem b N D ∧ (∀ c ∈ T, okT c) ∧ Apart T ∧ Maps.size D = T.length ∧
  (∀ (f : OKey) l, keyOf Tryd.prog 69 (.agg #[.string f.1, .int .i64 f.2]) = some l → (Maps.has D l = true ↔ ∃ c ∈ T, kO c = f)) ∧ (∀ c ∈ T, D.atKey (okk (kO c)) zD = encD c)
theorem OpMap.lt {w : World} {b N : Nat} {T : List Cel} (h : OpMap w b N T) : b < w.heap.size := by obtain ⟨D, h, _⟩ := h; exact h.lt
theorem OpMap.of_block {w w' : World} {b N : Nat} {T : List Cel} (h : OpMap w b N T) (hb : w'.heap[b]? = w.heap[b]?) : OpMap w' b N T := by
  obtain ⟨D, ⟨es, clock, h1, r⟩, h2⟩ := h
  exact ⟨D, ⟨es, clock, hb.trans h1, r⟩, h2⟩
theorem OpMap.below {w w' : World} {b N : Nat} {T : List Cel} (h : OpMap w b N T) (hb : Below w.heap.size w w') : OpMap w' b N T := h.of_block (hb.block _ h.lt)
theorem OpMap.made (w : World) : OpMap (w.alloc (.map #[] 0)) w.heap.size 0 [] := ⟨_, World.ownsMap_made _ _ _ _, fun _ h => by simp at h, List.Pairwise.nil, rfl, fun f l _ => ⟨fun h => by simp [Maps.has] at h, fun ⟨c, h, _⟩ => by cases h⟩, fun x hx => by cases hx⟩
theorem okk_lit (f : OKey) : WideAt.IsKeyLit (okk f) := trivial
theorem srt_range (t : Int) : 0 ≤ srt t ∧ srt t ≤ 1000000 := by rcases srt_two t with h | h <;> omega
theorem kO_ok {c : Cel} (h : okT c) : (kO c).1.size ≤ 1000000 ∧ 0 ≤ (kO c).2 ∧ (kO c).2 ≤ 1000000 := ⟨by rw [kO]; show (strOfNums c.2.2).size ≤ _; rw [strOfNums_size]; exact h.2, srt_range _⟩
theorem keyOf_kO {c : Cel} (h : okT c) : keyOf Tryd.prog 69 (.agg #[.string (kO c).1, .int .i64 (kO c).2]) = some (okk (kO c)) := keyOk (kO c) (kO_ok h).1 (kO_ok h).2.1 (kO_ok h).2.2
def dropK (T : List Cel) (k : List UInt8 × Int) : List Cel := T.filter (fun x => decide (keyC x ≠ k))
theorem mem_dropK {T : List Cel} {k : List UInt8 × Int} {x : Cel} : x ∈ dropK T k ↔ x ∈ T ∧ keyC x ≠ k := by simp [dropK]
theorem dropK_len : ∀ (T : List Cel) (k : List UInt8 × Int), Apart T → (dropK T k).length + (if hasK T k then 1 else 0) = T.length
  | [], k, _ => rfl
  | x :: r, k, h => by
    have h1 := List.pairwise_cons.1 h
    have ih := dropK_len r k h1.2
    by_cases e : keyC x = k
    · have hn : hasK r k = false := by
        rw [hasK, List.any_eq_false]
        intro z hz hk
        exact h1.1 z hz (e.trans (of_decide_eq_true hk).symm)
      have ha : hasK (x :: r) k = true := by simp [hasK, e]
      rw [hn] at ih
      rw [ha]
      simp only [dropK, List.filter_cons, e] at ih ⊢
      simpa using ih
    · have ha : hasK (x :: r) k = hasK r k := by simp [hasK, e]
      rw [ha]
      have ed : dropK (x :: r) k = x :: dropK r k := by simp [dropK, e]
      rw [ed, List.length_cons, List.length_cons]
      omega
theorem hasK_iff {T : List Cel} {k : List UInt8 × Int} : hasK T k = true ↔ ∃ c ∈ T, keyC c = k := by simp [hasK]
theorem has_iff {T : List Cel} {D : DataW Unit} (hh : ∀ (f : OKey) l, keyOf Tryd.prog 69 (.agg #[.string f.1, .int .i64 f.2]) = some l → (Maps.has D l = true ↔ ∃ c ∈ T, kO c = f)) {o : Cel} (ho : okT o) : Maps.has D (okk (kO o)) = hasK T (keyC o) := by
  rw [Bool.eq_iff_iff, hh (kO o) _ (keyOf_kO ho), hasK_iff]
  simp only [kO_key]
/-- A store. -/
theorem OpMap.put {w w' : World} {b N : Nat} {T : List Cel} {D : DataW Unit} {o : Cel} (ho : okT o)
    (hD : w.ownsMap Tryd.prog 69 opElem b N D ∧ (∀ c ∈ T, okT c) ∧ Apart T ∧ Maps.size D = T.length ∧ (∀ (f : OKey) l, keyOf Tryd.prog 69 (.agg #[.string f.1, .int .i64 f.2]) = some l → (Maps.has D l = true ↔ ∃ c ∈ T, kO c = f)) ∧ (∀ c ∈ T, D.atKey (okk (kO c)) zD = encD c))
    (h' : w'.ownsMap Tryd.prog 69 opElem b (N + 1) (D.put (okk (kO o)) (encD o))) : OpMap w' b (N + 1) (dropK T (keyC o) ++ [o]) := by
  obtain ⟨hown, hok, hap, hsz, hhas, hat⟩ := hD
  have hm := hown.isMap
  refine ⟨_, h', fun c hc => ?_, ?_, ?_, fun f l hf => ?_, fun c hc => ?_⟩
  · rcases List.mem_append.1 hc with h | h
    · exact hok c (mem_dropK.1 h).1
    · simp at h; rw [h]; exact ho
  · refine List.pairwise_append.2 ⟨hap.filter _, by simp, fun x hx y hy => ?_⟩
    simp at hy
    rw [hy]; exact (mem_dropK.1 hx).2
  · rw [size_put (hown.tidy lawOk), has_iff hhas ho, hsz, List.length_append]
    have := dropK_len T (keyC o) hap
    by_cases hh : hasK T (keyC o) = true
    · simp [hh] at this ⊢; omega
    · simp [hh] at this ⊢; omega
  · by_cases e : kO o = f
    · subst e
      have el : l = okk (kO o) := by have := keyOf_kO ho; rw [hf] at this; exact Option.some.inj this
      rw [el, has_put_same hm (okk_lit _)]
      exact ⟨fun _ => ⟨o, by simp, rfl⟩, fun _ => rfl⟩
    · have hne : l ≠ okk (kO o) := fun h => e (by
        have h2 := keyOf_kO ho
        rw [← h] at h2
        have := lawOk.inj hf h2
        obtain ⟨f1, f2⟩ := f
        have h9 : (kO o).fst = f1 ∧ (kO o).snd = f2 := by simpa using this.symm
        exact Prod.ext h9.1 h9.2)
      rw [has_put_other hne, hhas f l hf]
      constructor
      · rintro ⟨c, hc, rfl⟩
        exact ⟨c, List.mem_append_left _ (mem_dropK.2 ⟨hc, fun h => e (kO_key.2 h.symm)⟩), rfl⟩
      · rintro ⟨c, hc, rfl⟩
        rcases List.mem_append.1 hc with h | h
        · exact ⟨c, (mem_dropK.1 h).1, rfl⟩
        · simp at h; exact absurd (by rw [h]) e
  · rcases List.mem_append.1 hc with h | h
    · have h1 := mem_dropK.1 h
      rw [atKey_put_other (fun h => h1.2 (kO_key.1 (ok_inj (kO_ok (hok c h1.1)) (kO_ok ho) h)))]
      exact hat c h1.1
    · simp at h
      rw [h, atKey_put_same hm (okk_lit _)]
theorem OpMap.del {w w' : World} {b N : Nat} {T : List Cel} {D : DataW Unit} {o : Cel} (ho : okT o)
    (hD : w.ownsMap Tryd.prog 69 opElem b N D ∧ (∀ c ∈ T, okT c) ∧ Apart T ∧ Maps.size D = T.length ∧ (∀ (f : OKey) l, keyOf Tryd.prog 69 (.agg #[.string f.1, .int .i64 f.2]) = some l → (Maps.has D l = true ↔ ∃ c ∈ T, kO c = f)) ∧ (∀ c ∈ T, D.atKey (okk (kO c)) zD = encD c))
    (h' : w'.ownsMap Tryd.prog 69 opElem b N (D.del (okk (kO o)))) : OpMap w' b N (dropK T (keyC o)) := by
  obtain ⟨hown, hok, hap, hsz, hhas, hat⟩ := hD
  refine ⟨_, h', fun c hc => hok c (mem_dropK.1 hc).1, hap.filter _, ?_, fun f l hf => ?_, fun c hc => ?_⟩
  · have h1 := size_del (k := okk (kO o)) (hown.tidy lawOk)
    rw [has_iff hhas ho, hsz] at h1
    have := dropK_len T (keyC o) hap
    omega
  · by_cases e : kO o = f
    · subst e
      have el : l = okk (kO o) := by have := keyOf_kO ho; rw [hf] at this; exact Option.some.inj this
      rw [el, has_del_same]
      refine ⟨fun h => (by cases h), fun hh => ?_⟩
      obtain ⟨c, hc, hk⟩ := hh
      exact absurd (kO_key.1 hk) (mem_dropK.1 hc).2
    · have hne : l ≠ okk (kO o) := fun h => e (by
        have h2 := keyOf_kO ho
        rw [← h] at h2
        have := lawOk.inj hf h2
        obtain ⟨f1, f2⟩ := f
        have h9 : (kO o).fst = f1 ∧ (kO o).snd = f2 := by simpa using this.symm
        exact Prod.ext h9.1 h9.2)
      rw [has_del_other hne, hhas f l hf]
      constructor
      · rintro ⟨c, hc, rfl⟩
        exact ⟨c, mem_dropK.2 ⟨hc, fun h => e (kO_key.2 h.symm)⟩, rfl⟩
      · rintro ⟨c, hc, rfl⟩
        exact ⟨c, (mem_dropK.1 hc).1, rfl⟩
  · have h1 := mem_dropK.1 hc
    rw [atKey_del_other (fun h => h1.2 (kO_key.1 (ok_inj (kO_ok (hok c h1.1)) (kO_ok ho) h)))]
    exact hat c h1.1

set_option maxRecDepth 100000 in
theorem key_any (s : ByteArray) (p t : Int) (w : World) : Calls Tryd.prog 42 #[.agg #[.string s, .int .i64 p, .int .i64 t]] w fun e w' => e = .returned (.agg #[.string s, .int .i64 (srt t)]) ∧ Below w.heap.size w w' := by
  have HS := fun W => sortOf_any t W
  generalize srt t = q at HS ⊢
  have G1 : Box3 ((w.alloc (.cells #[.string s, .int .i64 p, .int .i64 t] 46)).alloc (.cells #[.string ⟨#[]⟩, .int .i64 0] 69)) w.heap.size (.string s) (.int .i64 p) (.int .i64 t) := Box3.of_block (t := 46) ((Below.heap_alloc _ _ _ (by simp)).trans (heap_alloc_new _ _))
  have G2 := pair_new (w.alloc (.cells #[.string s, .int .i64 p, .int .i64 t] 46)) (.string ⟨#[]⟩) (.int .i64 0) 69
  have G3 : ∀ j, ((w.alloc (.cells #[.string s, .int .i64 p, .int .i64 t] 46)).alloc (.cells #[.string ⟨#[]⟩, .int .i64 0] 69)).frozen? ⟨w.heap.size + 1, j, none⟩ = false := fun j => by
    have h := heap_alloc_new (w.alloc (.cells #[.string s, .int .i64 p, .int .i64 t] 46)) (.cells #[.string ⟨#[]⟩, .int .i64 0] 69)
    rw [World.size_alloc] at h
    exact frozen_of_row _ _ j _ _ h
  rw [World.size_alloc] at G2
  have HB : Below w.heap.size w ((w.alloc (.cells #[.string s, .int .i64 p, .int .i64 t] 46)).alloc (.cells #[.string ⟨#[]⟩, .int .i64 0] 69)) := ((Below.refl _ _).alloc (Nat.le_refl _) _).alloc (by simp) _
  have HG1 : Hid _ := G1
  have HG2 : Hid _ := G2
  have HG3 : Hid _ := G3
  have HBB : Hid _ := HB
  clear G1 G2 G3 HB
  go_enter Tryd.func42, Tryd.ntmps42
  go_wp2_with fail
  obtain ⟨a0, a1, a2, _⟩ := HG1.out
  obtain ⟨b0, b1⟩ := HG2.out
  have ff := HG3.out
  have hbb := HBB.out
  clear HG1 HG2 HG3 HBB
  generalize (w.alloc (.cells #[.string s, .int .i64 p, .int .i64 t] 46)).alloc (.cells #[.string ⟨#[]⟩, .int .i64 0] 69) = W2 at *
  have HB2 : Hid _ := hbb
  clear hbb
  go_region_held3 (fun W => W.cell? ⟨w.heap.size, 0, none⟩ = some (.string s) ∧ W.cell? ⟨w.heap.size, 2, none⟩ = some (.int .i64 t))
    (go_keep)
    ((go_at_call 52; refine (HS _).mono ?_; rintro e w' ⟨rfl, rfl⟩))
  all_goals go_wp2_with fail
  all_goals refine bodyPost_ret (v := .agg #[.string s, .int .i64 q]) (by simp [results, Tryd.results42, go_sem, b0, b1]) rfl ⟨rfl, ?_⟩
  all_goals exact (HB2.out.drew.setCell (p := ⟨_, _, none⟩) (by simp) _).setCell (p := ⟨_, _, none⟩) (by simp) _

def postB (t : Int) : Bool := t == 5 || t == 6
theorem isPost_any (s : ByteArray) (p t : Int) (w : World) : Calls Tryd.prog 43 #[.agg #[.string s, .int .i64 p, .int .i64 t]] w fun e w' => e = .returned (.bool (postB t)) ∧ Below w.heap.size w w' := by
  have HR : Hid (postB t = (t == 5 || t == 6)) := rfl
  have HB : Hid (Below w.heap.size w (w.alloc (.cells #[.string s, .int .i64 p, .int .i64 t] 46))) := (Below.refl _ _).alloc (Nat.le_refl _) _
  cases h1 : (t == 5) <;> cases h2 : (t == 6)
  all_goals
    rw [h1, h2] at HR
    have HF : Hid (∀ b, b = postB t → Ending.returned (.bool b) = .returned (.bool (postB t))) := fun b h => ret_bool h
    go_enter Tryd.func43, Tryd.ntmps43
    go_wp2_with fail
    go_ret
    exact ⟨HF.out _ HR.out.symm, HB.out⟩

end Go.Proofs.YtbfhpnacoigfkaaDoor
