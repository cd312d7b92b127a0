/- Texts of OpsM2, OpsM3, OpsM4, DefP, OpsM5, DefI. Own work of the verifier. -/
import Derived.Lib.Fields
import Derived.Test.YtdmmchoicngblaaGreatDoorUqas
import Derived.Test.YtdmmchoicngblaaGreatDoorFieldsL
namespace Go.Proofs.YtdmmchoicngblaaGreatDoor
set_option linter.unusedVariables false
set_option maxRecDepth 100000
section
open Go Go.RowKit Go.Maps
def kO (c : Cel) : OKey := (strOfNums c.2.2, srt c.2.1)
theorem kO_key {x y : Cel} : kO x = kO y ↔ keyC x = keyC y := by
 constructor
 ·intro h
  have h1 := (Prod.mk.inj h).1; have h2 := (Prod.mk.inj h).2; rw [keyC, keyC, h1, h2]
 ·intro h
  exact Prod.ext (ba_ext (Prod.mk.inj h).1) (Prod.mk.inj h).2
def opElem (v : Value) : Option (DataW Unit × List MemPlace) :=
 match v with
 | .agg ⟨[.string s, .int .i64 p, .int .i64 t]⟩ => some (.agg [.lit (.string s.data.toList), .lit (.int .i64 p), .lit (.int .i64 t)], [])
 | _ => none
def encV (c : Cel) : Value := .agg #[.string (strOfNums c.2.2), .int .i64 c.1, .int .i64 c.2.1]
def encD (c : Cel) : DataW Unit := .agg [.lit (.string (strOfNums c.2.2).data.toList), .lit (.int .i64 c.1), .lit (.int .i64 c.2.1)]
theorem opElem_enc (c : Cel) : opElem (encV c) = some (encD c, []) := rfl
theorem opElem_inv {v : Value} {y : DataW Unit × List MemPlace} (h : opElem v = some y) : ∃ x : ByteArray × Int × Int, v = .agg #[.string x.1, .int .i64 x.2.1, .int .i64 x.2.2] ∧ y = (.agg [.lit (.string x.1.data.toList), .lit (.int .i64 x.2.1), .lit (.int .i64 x.2.2)], []) := by
 unfold opElem at h
 split at h
 ·rename_i s p t
  exact ⟨(s, p, t), rfl, (Option.some.inj h).symm⟩
 ·cases h
theorem opElem_at {v : Value} {c : Cel} {ps : List MemPlace} (h : opElem v = some (encD c, ps)) : v = encV c := by
 obtain ⟨x, rfl, hy⟩ := opElem_inv h; have h1 := congrArg Prod.fst hy; simp only [encD, DataW.agg.injEq, List.cons.injEq, DataW.lit.injEq, Lit.string.injEq, Lit.int.injEq, and_true, true_and] at h1; have e : x.1 = strOfNums c.2.2 := ba_ext (by rw [ByteArray.toList_eq, ByteArray.toList_eq]; exact h1.1.symm); rw [encV, e, h1.2.1, h1.2.2]
def zD : DataW Unit := .agg [.lit (.string []), .lit (.int .i64 0), .lit (.int .i64 0)]
def okT (c : Cel) : Prop := Byte c.2.2 ∧ c.2.2.length ≤ 1000000
def Apart (T : List Cel) : Prop := T.Pairwise (fun x y => keyC x ≠ keyC y)
def OpMap (w : World) (b N : Nat) (T : List Cel) : Prop := ∃ D : DataW Unit, w.ownsMap Tryz.prog 116 opElem b N D ∧ (∀ c ∈ T, okT c) ∧ Apart T ∧ Maps.size D = T.length ∧
 (∀ (f : OKey) l, keyOf Tryz.prog 116 (.agg #[.string f.1, .int .i64 f.2]) = some l → (Maps.has D l = true ↔ ∃ c ∈ T, kO c = f)) ∧ (∀ c ∈ T, D.atKey (okk (kO c)) zD = encD c)
theorem OpMap.lt {w : World} {b N : Nat} {T : List Cel} (h : OpMap w b N T) : b < w.heap.size := by obtain ⟨D, h, _⟩ := h; exact h.lt
theorem OpMap.of_block {w w' : World} {b N : Nat} {T : List Cel} (h : OpMap w b N T) (hb : w'.heap[b]? = w.heap[b]?) : OpMap w' b N T := by
 obtain ⟨D, ⟨es, clock, h1, r⟩, h2⟩ := h; exact ⟨D, ⟨es, clock, hb.trans h1, r⟩, h2⟩
theorem OpMap.below {w w' : World} {b N : Nat} {T : List Cel} (h : OpMap w b N T) (hb : Below w.heap.size w w') : OpMap w' b N T := h.of_block (hb.block _ h.lt)
theorem OpMap.made (w : World) : OpMap (w.alloc (.map #[] 0)) w.heap.size 0 [] := ⟨_, World.ownsMap_made _ _ _ _, fun _ h => by simp at h, List.Pairwise.nil, rfl, fun f l _ => ⟨fun h => by simp [Maps.has] at h, fun ⟨c, h, _⟩ => by cases h⟩, fun x hx => by cases hx⟩
theorem okk_lit (f : OKey) : WideAt.IsKeyLit (okk f) := trivial
theorem srt_range (t : Int) : 0 ≤ srt t ∧ srt t ≤ 1000000 := by rcases srt_two t with h | h <;> omega
theorem kO_ok {c : Cel} (h : okT c) : (kO c).1.size ≤ 1000000 ∧ 0 ≤ (kO c).2 ∧ (kO c).2 ≤ 1000000 := ⟨by rw [kO]; show (strOfNums c.2.2).size ≤ _; rw [strOfNums_size]; exact h.2, srt_range _⟩
theorem keyOf_kO {c : Cel} (h : okT c) : keyOf Tryz.prog 116 (.agg #[.string (kO c).1, .int .i64 (kO c).2]) = some (okk (kO c)) := keyOk (kO c) (kO_ok h).1 (kO_ok h).2.1 (kO_ok h).2.2
def dropK (T : List Cel) (k : List UInt8 × Int) : List Cel := T.filter (fun x => decide (keyC x ≠ k))
theorem mem_dropK {T : List Cel} {k : List UInt8 × Int} {x : Cel} : x ∈ dropK T k ↔ x ∈ T ∧ keyC x ≠ k := by simp [dropK]
theorem dropK_len : ∀ (T : List Cel) (k : List UInt8 × Int), Apart T → (dropK T k).length + (if hasK T k then 1 else 0) = T.length
 | [], k, _ => rfl
 | x :: r, k, h => by
   have h1 := List.pairwise_cons.1 h; have ih := dropK_len r k h1.2
   by_cases e : keyC x = k
   ·have hn : hasK r k = false := by
     rw [hasK, List.any_eq_false]
     intro z hz hk
     exact h1.1 z hz (e.trans (of_decide_eq_true hk).symm)
    have ha : hasK (x :: r) k = true := by simp [hasK, e]
    rw [hn] at ih; rw [ha]; simp only [dropK, List.filter_cons, e] at ih ⊢
    simpa using ih
   ·have ha : hasK (x :: r) k = hasK r k := by simp [hasK, e]
    rw [ha]
    have ed : dropK (x :: r) k = x :: dropK r k := by simp [dropK, e]
    rw [ed, List.length_cons, List.length_cons]
    omega
theorem hasK_iff {T : List Cel} {k : List UInt8 × Int} : hasK T k = true ↔ ∃ c ∈ T, keyC c = k := by simp [hasK]
theorem has_iff {T : List Cel} {D : DataW Unit} (hh : ∀ (f : OKey) l, keyOf Tryz.prog 116 (.agg #[.string f.1, .int .i64 f.2]) = some l → (Maps.has D l = true ↔ ∃ c ∈ T, kO c = f)) {o : Cel} (ho : okT o) : Maps.has D (okk (kO o)) = hasK T (keyC o) := by
 rw [Bool.eq_iff_iff, hh (kO o) _ (keyOf_kO ho), hasK_iff]; simp only [kO_key]
theorem OpMap.put {w w' : World} {b N : Nat} {T : List Cel} {D : DataW Unit} {o : Cel} (ho : okT o)
  (hD : w.ownsMap Tryz.prog 116 opElem b N D ∧ (∀ c ∈ T, okT c) ∧ Apart T ∧ Maps.size D = T.length ∧ (∀ (f : OKey) l, keyOf Tryz.prog 116 (.agg #[.string f.1, .int .i64 f.2]) = some l → (Maps.has D l = true ↔ ∃ c ∈ T, kO c = f)) ∧ (∀ c ∈ T, D.atKey (okk (kO c)) zD = encD c))
  (h' : w'.ownsMap Tryz.prog 116 opElem b (N + 1) (D.put (okk (kO o)) (encD o))) : OpMap w' b (N + 1) (dropK T (keyC o) ++ [o]) := by
 obtain ⟨hown, hok, hap, hsz, hhas, hat⟩ := hD; have hm := hown.isMap; refine ⟨_, h', fun c hc => ?_, ?_, ?_, fun f l hf => ?_, fun c hc => ?_⟩
 ·rcases List.mem_append.1 hc with h | h
  ·exact hok c (mem_dropK.1 h).1
  ·simp at h; rw [h]; exact ho
 ·refine List.pairwise_append.2 ⟨hap.filter _, by simp, fun x hx y hy => ?_⟩
  simp at hy
  rw [hy]; exact (mem_dropK.1 hx).2
 ·rw [size_put (hown.tidy lawOk), has_iff hhas ho, hsz, List.length_append]
  have := dropK_len T (keyC o) hap
  by_cases hh : hasK T (keyC o) = true
  ·simp [hh] at this ⊢; omega
  ·simp [hh] at this ⊢; omega
 ·by_cases e : kO o = f
  ·subst e
   have el : l = okk (kO o) := by have := keyOf_kO ho; rw [hf] at this; exact Option.some.inj this
   rw [el, has_put_same hm (okk_lit _)]; exact ⟨fun _ => ⟨o, by simp, rfl⟩, fun _ => rfl⟩
  ·have hne : l ≠ okk (kO o) := fun h => e (by
    have h2 := keyOf_kO ho; rw [← h] at h2; have := lawOk.inj hf h2; obtain ⟨f1, f2⟩ := f
    have h9 : (kO o).fst = f1 ∧ (kO o).snd = f2 := by simpa using this.symm
    exact Prod.ext h9.1 h9.2)
   rw [has_put_other hne, hhas f l hf]
   constructor
   ·rintro ⟨c, hc, rfl⟩
    exact ⟨c, List.mem_append_left _ (mem_dropK.2 ⟨hc, fun h => e (kO_key.2 h.symm)⟩), rfl⟩
   ·rintro ⟨c, hc, rfl⟩
    rcases List.mem_append.1 hc with h | h
    ·exact ⟨c, (mem_dropK.1 h).1, rfl⟩
    ·simp at h; exact absurd (by rw [h]) e
 ·rcases List.mem_append.1 hc with h | h
  ·have h1 := mem_dropK.1 h
   rw [atKey_put_other (fun h => h1.2 (kO_key.1 (ok_inj (kO_ok (hok c h1.1)) (kO_ok ho) h)))]; exact hat c h1.1
  ·simp at h
   rw [h, atKey_put_same hm (okk_lit _)]
theorem OpMap.del {w w' : World} {b N : Nat} {T : List Cel} {D : DataW Unit} {o : Cel} (ho : okT o)
  (hD : w.ownsMap Tryz.prog 116 opElem b N D ∧ (∀ c ∈ T, okT c) ∧ Apart T ∧ Maps.size D = T.length ∧ (∀ (f : OKey) l, keyOf Tryz.prog 116 (.agg #[.string f.1, .int .i64 f.2]) = some l → (Maps.has D l = true ↔ ∃ c ∈ T, kO c = f)) ∧ (∀ c ∈ T, D.atKey (okk (kO c)) zD = encD c))
  (h' : w'.ownsMap Tryz.prog 116 opElem b N (D.del (okk (kO o)))) : OpMap w' b N (dropK T (keyC o)) := by
 obtain ⟨hown, hok, hap, hsz, hhas, hat⟩ := hD; refine ⟨_, h', fun c hc => hok c (mem_dropK.1 hc).1, hap.filter _, ?_, fun f l hf => ?_, fun c hc => ?_⟩
 ·have h1 := size_del (k := okk (kO o)) (hown.tidy lawOk)
  rw [has_iff hhas ho, hsz] at h1; have := dropK_len T (keyC o) hap
  omega
 ·by_cases e : kO o = f
  ·subst e
   have el : l = okk (kO o) := by have := keyOf_kO ho; rw [hf] at this; exact Option.some.inj this
   rw [el, has_del_same]; refine ⟨fun h => (by cases h), fun hh => ?_⟩; obtain ⟨c, hc, hk⟩ := hh; exact absurd (kO_key.1 hk) (mem_dropK.1 hc).2
  ·have hne : l ≠ okk (kO o) := fun h => e (by
    have h2 := keyOf_kO ho; rw [← h] at h2; have := lawOk.inj hf h2; obtain ⟨f1, f2⟩ := f
    have h9 : (kO o).fst = f1 ∧ (kO o).snd = f2 := by simpa using this.symm
    exact Prod.ext h9.1 h9.2)
   rw [has_del_other hne, hhas f l hf]
   constructor
   ·rintro ⟨c, hc, rfl⟩
    exact ⟨c, mem_dropK.2 ⟨hc, fun h => e (kO_key.2 h.symm)⟩, rfl⟩
   ·rintro ⟨c, hc, rfl⟩
    exact ⟨c, (mem_dropK.1 hc).1, rfl⟩
 ·have h1 := mem_dropK.1 hc
  rw [atKey_del_other (fun h => h1.2 (kO_key.1 (ok_inj (kO_ok (hok c h1.1)) (kO_ok ho) h)))]; exact hat c h1.1
theorem key_any (s : ByteArray) (p t : Int) (w : World) : Calls Tryz.prog 52 #[.agg #[.string s, .int .i64 p, .int .i64 t]] w fun e w' => e = .returned (.agg #[.string s, .int .i64 (srt t)]) ∧ Below w.heap.size w w' := by
 have HS := fun W => sortOf_any t W
 generalize srt t = q at HS ⊢
 have G1 : Box3 ((w.alloc (.cells #[.string s, .int .i64 p, .int .i64 t] 73)).alloc (.cells #[.string ⟨#[]⟩, .int .i64 0] 116)) w.heap.size (.string s) (.int .i64 p) (.int .i64 t) := Box3.of_block (t := 73) ((Below.heap_alloc _ _ _ (by simp)).trans (heap_alloc_new _ _)); have G2 := pair_new (w.alloc (.cells #[.string s, .int .i64 p, .int .i64 t] 73)) (.string ⟨#[]⟩) (.int .i64 0) 116
 have G3 : ∀ j, ((w.alloc (.cells #[.string s, .int .i64 p, .int .i64 t] 73)).alloc (.cells #[.string ⟨#[]⟩, .int .i64 0] 116)).frozen? ⟨w.heap.size + 1, j, none⟩ = false := fun j => by
  have h := heap_alloc_new (w.alloc (.cells #[.string s, .int .i64 p, .int .i64 t] 73)) (.cells #[.string ⟨#[]⟩, .int .i64 0] 116); rw [World.size_alloc] at h; exact frozen_of_row _ _ j _ _ h
 rw [World.size_alloc] at G2; have HB : Below w.heap.size w ((w.alloc (.cells #[.string s, .int .i64 p, .int .i64 t] 73)).alloc (.cells #[.string ⟨#[]⟩, .int .i64 0] 116)) := ((Below.refl _ _).alloc (Nat.le_refl _) _).alloc (by simp) _; have HG1 : Hid _ := G1; have HG2 : Hid _ := G2; have HG3 : Hid _ := G3; have HBB : Hid _ := HB; clear G1 G2 G3 HB
 go_enter Tryz.func52, Tryz.ntmps52
 go_wp2_with fail; obtain ⟨a0, a1, a2, _⟩ := HG1.out; obtain ⟨b0, b1⟩ := HG2.out; have ff := HG3.out; have hbb := HBB.out; clear HG1 HG2 HG3 HBB
 generalize (w.alloc (.cells #[.string s, .int .i64 p, .int .i64 t] 73)).alloc (.cells #[.string ⟨#[]⟩, .int .i64 0] 116) = W2 at *
 have HB2 : Hid _ := hbb; clear hbb
 go_region_held3 (fun W => W.cell? ⟨w.heap.size, 0, none⟩ = some (.string s) ∧ W.cell? ⟨w.heap.size, 2, none⟩ = some (.int .i64 t))
  (go_keep)
  ((go_at_call 125; refine (HS _).mono ?_; rintro e w' ⟨rfl, rfl⟩))
 all_goals go_wp2_with fail
 all_goals refine bodyPost_ret (v := .agg #[.string s, .int .i64 q]) (by simp [results, Tryz.results52, go_sem, b0, b1]) rfl ⟨rfl, ?_⟩
 all_goals exact (HB2.out.drew.setCell (p := ⟨_, _, none⟩) (by simp) _).setCell (p := ⟨_, _, none⟩) (by simp) _
def postB (t : Int) : Bool := t == 5 || t == 6
theorem isPost_any (s : ByteArray) (p t : Int) (w : World) : Calls Tryz.prog 53 #[.agg #[.string s, .int .i64 p, .int .i64 t]] w fun e w' => e = .returned (.bool (postB t)) ∧ Below w.heap.size w w' := by
 have HR : Hid (postB t = (t == 5 || t == 6)) := rfl; have HB : Hid (Below w.heap.size w (w.alloc (.cells #[.string s, .int .i64 p, .int .i64 t] 73))) := (Below.refl _ _).alloc (Nat.le_refl _) _
 cases h1 : (t == 5) <;> cases h2 : (t == 6)
 all_goals
  rw [h1, h2] at HR
  have HF : Hid (∀ b, b = postB t → Ending.returned (.bool b) = .returned (.bool (postB t))) := fun b h => ret_bool h
  go_enter Tryz.func53, Tryz.ntmps53
  go_wp2_with fail; go_ret; exact ⟨HF.out _ HR.out.symm, HB.out⟩
theorem kkM {w1 w5 : World} {b g : Nat} {v0 v1 v2 : Value} (hg : w1.grownBy w5 (some b)) (h : w1.cell? ⟨g, 0, none⟩ = some v0 ∧ w1.cell? ⟨g, 1, none⟩ = some v1 ∧ w1.cell? ⟨g, 2, none⟩ = some v2) (hne : g ≠ b) : w5.cell? ⟨g, 0, none⟩ = some v0 ∧ w5.cell? ⟨g, 1, none⟩ = some v1 ∧ w5.cell? ⟨g, 2, none⟩ = some v2 := by
 have hlt : g < w1.heap.size := World.block_lt_of_cell? _ _ h.1
 have hc : ∀ o, w5.cell? ⟨g, o, none⟩ = w1.cell? ⟨g, o, none⟩ := fun o => World.cell?_of_block (hg.block _ hlt (by simpa using hne))
 exact ⟨(hc _).trans h.1, (hc _).trans h.2.1, (hc _).trans h.2.2⟩
def addCode (T : List Cel) (o : Cel) : Int :=
 match findK T (keyC o) with
 | some x => if (postB x.2.1 != postB o.2.1) = true then 4 else 0
 | none => if o.1 = 0 then 0 else if T.length = 200 then 3 else 0
def addT (T : List Cel) (o : Cel) : List Cel := if addCode T o ≠ 0 then T else if o.1 = 0 then dropK T (keyC o) else dropK T (keyC o) ++ [o]
theorem findK_some {T : List Cel} {k : List UInt8 × Int} {x : Cel} (h : findK T k = some x) : x ∈ T ∧ keyC x = k := ⟨List.mem_of_find?_eq_some h, by simpa using List.find?_some h⟩
theorem findK_none {T : List Cel} {k : List UInt8 × Int} (h : findK T k = none) : hasK T k = false := by
 rw [hasK, List.any_eq_false]
 intro x hx
 have := List.find?_eq_none.1 h x hx; exact this
theorem six_below {W0 W w' : World} {a g : Nat} {u0 u1 u2 v0 v1 v2 : Value} (h : ((W.cell? ⟨a, 0, none⟩ = some u0 ∧ W.cell? ⟨a, 1, none⟩ = some u1 ∧ W.cell? ⟨a, 2, none⟩ = some u2) ∧ (W.cell? ⟨g, 0, none⟩ = some v0 ∧ W.cell? ⟨g, 1, none⟩ = some v1 ∧ W.cell? ⟨g, 2, none⟩ = some v2)) ∧ Below W0.heap.size W0 W) (hb : Below W.heap.size W w') :
  ((w'.cell? ⟨a, 0, none⟩ = some u0 ∧ w'.cell? ⟨a, 1, none⟩ = some u1 ∧ w'.cell? ⟨a, 2, none⟩ = some u2) ∧ (w'.cell? ⟨g, 0, none⟩ = some v0 ∧ w'.cell? ⟨g, 1, none⟩ = some v1 ∧ w'.cell? ⟨g, 2, none⟩ = some v2)) ∧ Below W0.heap.size W0 w' := by
 obtain ⟨⟨⟨h0, h1, h2⟩, h3, h4, h5⟩, h6⟩ := h; exact ⟨⟨⟨(hb.cell (World.block_lt_of_cell? _ _ h0)).trans h0, (hb.cell (World.block_lt_of_cell? _ _ h1)).trans h1, (hb.cell (World.block_lt_of_cell? _ _ h2)).trans h2⟩, (hb.cell (World.block_lt_of_cell? _ _ h3)).trans h3, (hb.cell (World.block_lt_of_cell? _ _ h4)).trans h4, (hb.cell (World.block_lt_of_cell? _ _ h5)).trans h5⟩, Below.on h6 hb⟩
theorem zeroOp (w : World) : (zeroValue 73).run Tryz.prog w = .ok (.agg #[.string ⟨#[]⟩, .int .i64 0, .int .i64 0]) w := by kernel_rfl
theorem three_new (W : World) (a b c : Value) (t : TypeId) : (W.alloc (.cells #[a, b, c] t)).cell? ⟨W.heap.size, 0, none⟩ = some a ∧ (W.alloc (.cells #[a, b, c] t)).cell? ⟨W.heap.size, 1, none⟩ = some b ∧ (W.alloc (.cells #[a, b, c] t)).cell? ⟨W.heap.size, 2, none⟩ = some c :=
 ⟨by simp [World.cell?_alloc_new], by simp [World.cell?_alloc_new], by simp [World.cell?_alloc_new]⟩
def AddOut (w : World) (B b N : Nat) (T : List Cel) (o : Cel) (e : Ending) (w' : World) : Prop := e = .returned (.int .i64 (addCode T o)) ∧ (∃ N', N' ≤ N + 1 ∧ OpMap w' b N' (addT T o)) ∧ Below B w w' ∧ w.grownBy w' (some b)
theorem grown_after {w a c : World} {b : Nat} (h : Below w.heap.size w a) (g : a.grownBy c (some b)) : w.grownBy c (some b) := ⟨g.os.trans h.os, g.tape.trans h.tape, g.output.trans h.output, Nat.le_trans h.size g.size, fun k hk hne => (g.block k (Nat.lt_of_lt_of_le hk h.size) hne).trans (h.block k hk)⟩
theorem grown_of {w a : World} {b : Nat} (h : Below w.heap.size w a) : w.grownBy a (some b) := ⟨h.os, h.tape, h.output, h.size, fun k hk _ => h.block k hk⟩
set_option maxHeartbeats 4000000 in
theorem add_any (b N B : Nat) (T : List Cel) (p t : Int) (xs : List Int) (s : ByteArray) (w : World) (hs : s = strOfNums xs) (hm : OpMap w b N T) (ho : okT (p, t, xs)) (hN : N ≤ 1000000) (hB : B ≤ b) (hl : T.length ≤ 1000000) :
  Calls Tryz.prog 30 #[.map (some b), .agg #[.string s, .int .i64 p, .int .i64 t]] w (AddOut w B b N T (p, t, xs)) := by
 have HM : Hid (OpMap w b N T) := hm; have HO : Hid (okT (p, t, xs)) := ho
 have HKY : keyOf Tryz.prog 116 (.agg #[.string s, .int .i64 (srt t)]) = some (okk (kO (p, t, xs))) := by rw [hs]; exact keyOf_kO ho
 have HEV : Hid (opElem (.agg #[.string s, .int .i64 p, .int .i64 t]) = some (encD (p, t, xs), [])) := by rw [hs]; exact opElem_enc (p, t, xs)
 have hK := fun W => key_any s p t W
 have hPo := fun W => isPost_any s p t W
 have hbw : b < w.heap.size := hm.lt; have hB1 : Below w.heap.size w (w.alloc (Obj.cells #[.string s, .int .i64 p, .int .i64 t] 73)) := (Below.refl _ _).alloc (Nat.le_refl _) _; obtain ⟨a0, a1, a2⟩ := three_new w (.string s) (.int .i64 p) (.int .i64 t) 73; have HB1 : Hid _ := hB1; have HK : Hid (∀ W, _) := hK; have HPO : Hid (∀ W, _) := hPo; have HBB : Hid (B ≤ b) := hB; clear hm ho hs hK hPo hB1 hB
 go_enter Tryz.func30, Tryz.ntmps30
 go_wp2_with fail
 generalize w.alloc (Obj.cells #[.string s, .int .i64 p, .int .i64 t] 73) = W1 at *
 refine (HK.out _).mono ?_; rintro e w1 ⟨rfl, hb1⟩; have a0 := (hb1.cell (World.block_lt_of_cell? _ _ a0)).trans a0; have a1 := (hb1.cell (World.block_lt_of_cell? _ _ a1)).trans a1; have a2 := (hb1.cell (World.block_lt_of_cell? _ _ a2)).trans a2; have HBw1 : Hid (Below w.heap.size w w1) := Below.on HB1.out hb1; obtain ⟨D, hD⟩ := HM.out.below HBw1.out; have hown := hD.1; have HD : Hid _ := hD; have hzo := zeroOp w1; clear hD hb1; go_wp2_with (at_lookup; refine wpList_lookup_own_ok _ rfl _ _ 69 rfl 116 73 lawOk Tryz.underlying69 opElem hzo zD [] rfl b N D rfl hown _ _ rfl HKY ?_; intro v ps hv; obtain ⟨⟨so, po, tQ⟩, rfl, hy⟩ := opElem_inv hv; simp only); obtain ⟨d0, d1, d2⟩ := three_new w1 (.string so) (.int .i64 po) (.int .i64 tQ) 73; have hal : Below w1.heap.size w1 (w1.alloc (Obj.cells #[.string so, .int .i64 po, .int .i64 tQ] 73)) := (Below.refl _ _).alloc (Nat.le_refl _) _
 have a0 := (hal.cell (World.block_lt_of_cell? _ _ a0)).trans a0; have a1 := (hal.cell (World.block_lt_of_cell? _ _ a1)).trans a1; have a2 := (hal.cell (World.block_lt_of_cell? _ _ a2)).trans a2; have HB3 : Hid (Below w.heap.size w (w1.alloc (Obj.cells #[.string so, .int .i64 po, .int .i64 tQ] 73))) := Below.on HBw1.out hal; have HHAS : Hid (Maps.has D (okk (kO (p, t, xs))) = hasK T (keyC (p, t, xs))) := has_iff HD.out.2.2.2.2.1 HO.out
 have HOLD : Hid (∀ x, findK T (keyC (p, t, xs)) = some x → tQ = x.2.1) := fun x hx => by
  obtain ⟨hxT, hxk⟩ := findK_some hx; have h1 := HD.out.2.2.2.2.2 x hxT; rw [kO_key.2 hxk] at h1; have h2 := hv; rw [h1] at h2; have h3 := opElem_at h2; simp only [encV, Value.agg.injEq] at h3; have h4 := congrArg Array.toList h3; simp only [List.cons.injEq, Value.int.injEq, true_and, and_true] at h4; exact h4.2.2
 obtain ⟨g, eg⟩ : ∃ g, g = w1.heap.size := ⟨_, rfl⟩
 rw [← eg] at d0 d1 d2 ⊢; clear hal hv hy hown hzo HBw1 HB1 eg
 generalize w1.alloc (Obj.cells #[.string so, .int .i64 po, .int .i64 tQ] 73) = W3 at *
 rw [HHAS.out]; have HM3 : Hid (OpMap W3 b N T) := HM.out.below HB3.out
 have HP1 : Hid (∀ W, Calls Tryz.prog 53 #[.agg #[.string so, .int .i64 po, .int .i64 tQ]] W fun e w' => e = .returned (.bool (postB tQ)) ∧ Below W.heap.size W w') := fun W => isPost_any so po tQ W
 have FIN : Hid (∀ (k : Int) (W : World) (N' : Nat), k = addCode T (p, t, xs) → N' ≤ N + 1 → OpMap W b N' (addT T (p, t, xs)) → Below B w W → w.grownBy W (some b) → AddOut w B b N T (p, t, xs) (.returned (.int .i64 k)) W) := fun k W N' hk h1 h2 h3 h4 => ⟨by rw [hk], ⟨N', h1, h2⟩, h3, h4⟩
 clear HHAS HD HM
 cases hfk : findK T (keyC (p, t, xs)) with
 | some x =>
   have eto := HOLD.out x hfk
   have hhk : hasK T (keyC (p, t, xs)) = true := by obtain ⟨h1, h2⟩ := findK_some hfk; exact hasK_iff.2 ⟨x, h1, h2⟩
   have HAC : Hid (addCode T (p, t, xs) = if (postB tQ != postB t) = true then 4 else 0) := by show _ = _; rw [addCode, hfk, eto]
   rw [hhk]; clear hfk hhk HOLD eto; clear HP1 HPO; go_wp2_with fail
   go_region_held3 (fun W => ((W.cell? ⟨w.heap.size, 0, none⟩ = some (.string s) ∧ W.cell? ⟨w.heap.size, 1, none⟩ = some (.int .i64 p) ∧ W.cell? ⟨w.heap.size, 2, none⟩ = some (.int .i64 t)) ∧ (W.cell? ⟨g, 0, none⟩ = some (.string so) ∧ W.cell? ⟨g, 1, none⟩ = some (.int .i64 po) ∧ W.cell? ⟨g, 2, none⟩ = some (.int .i64 tQ))) ∧ Below W3.heap.size W3 W) (first | exact kk | exact ⟨⟨⟨a0, a1, a2⟩, d0, d1, d2⟩, (Below.refl _ _).drew⟩ | go_keep)
    ((go_at_call 53; refine (isPost_any _ _ _ _).mono ?_; rintro e w4 ⟨rfl, hb4⟩; have kk := six_below (W0 := W3) (a := w.heap.size) (g := g) (u0 := .string s) (u1 := .int .i64 p) (u2 := .int .i64 t) (v0 := .string so) (v1 := .int .i64 po) (v2 := .int .i64 tQ) (by assumption) hb4; clear hb4))
   all_goals
    obtain ⟨⟨⟨a0, a1, a2⟩, _⟩, hb4⟩ := kk; have HB4 : Hid (Below w.heap.size w w4) := Below.on HB3.out hb4; have HM4 : Hid (OpMap w4 b N T) := HM3.out.below hb4; clear hb4 d0 d1 d2
    cases hbc : (postB tQ == postB t) with
    | false =>
      have hbb : (postB tQ != postB t) = true := by simp [bne, hbc]
      have HF : Hid (AddOut w B b N T (p, t, xs) (.returned (.int .i64 4)) w4) := FIN.out 4 w4 N (by rw [HAC.out, hbb]; rfl) (by omega) (by rw [addT, if_pos (by rw [HAC.out, hbb]; simp)]; exact HM4.out) (HB4.out.mono (by have := HBB.out; omega)) (grown_of HB4.out); clear HAC hbb; go_wp2_with fail; go_ret; exact HF.out
    | true =>
      have hbb : (postB tQ != postB t) = false := by simp [bne, hbc]
      have HAC' : Hid (addCode T (p, t, xs) = 0) := by show _ = _; rw [HAC.out, hbb]; rfl
      clear HAC hbb
      by_cases hp : p = 0
      ·have hp' : (p == 0) = true := by simpa using hp
       have HP0 : Hid (p = 0) := hp; clear hp
       have HC0 : Hid ((0 : Int) = addCode T (p, t, xs)) := by show _ = _; rw [HAC'.out]
       have HT0 : Hid (dropK T (keyC (p, t, xs)) = addT T (p, t, xs)) := by show _ = _; rw [addT, ← HC0.out]; simp [HP0.out]
       go_wp2_with fail; refine (HK.out _).mono ?_; rintro e w5 ⟨rfl, hb5⟩; obtain ⟨D5, hD5⟩ := HM4.out.below hb5; have hown5 := hD5.1
       have HD5 : Hid (∀ w6, w6.ownsMap Tryz.prog 116 opElem b N (D5.del (okk (kO (p, t, xs)))) → OpMap w6 b N (dropK T (keyC (p, t, xs)))) := fun w6 h6 => OpMap.del HO.out hD5 h6
       have HB5 : Hid (Below w.heap.size w w5) := Below.on HB4.out hb5; clear hD5 hb5; go_wp2_with (at_delete; refine wpList_delete_own _ rfl _ _ 69 116 rfl 73 lawOk Tryz.underlying69 opElem b N D5 rfl hown5 _ _ rfl HKY ?_; intro w6 hown6 hturn6); have HF : Hid (AddOut w B b N T (p, t, xs) (.returned (.int .i64 0)) w6) := FIN.out 0 w6 N HC0.out (by omega) (by rw [← HT0.out]; exact HD5.out w6 hown6) ((HB5.out.mono (by have := HBB.out; omega)).grown hturn6.grown (by have := HBB.out; have := HB5.out.size; omega) (fun j hj => by cases hj; exact HBB.out)) (grown_after HB5.out hturn6.grown); clear hown6 hturn6 hown5; go_wp2_with fail; go_ret; exact HF.out
      ·have hp' : (p == 0) = false := by simpa using hp
       have HP0 : Hid (¬ p = 0) := hp; clear hp
       have HC0 : Hid ((0 : Int) = addCode T (p, t, xs)) := by show _ = _; rw [HAC'.out]
       have HT0 : Hid (dropK T (keyC (p, t, xs)) ++ [(p, t, xs)] = addT T (p, t, xs)) := by show _ = _; rw [addT, ← HC0.out]; simp [HP0.out]
       go_wp2_with fail
       go_region_held3 (fun W => W.cell? ⟨w.heap.size, 0, none⟩ = some (.string s) ∧ W.cell? ⟨w.heap.size, 1, none⟩ = some (.int .i64 p) ∧ W.cell? ⟨w.heap.size, 2, none⟩ = some (.int .i64 t)) (first | exact kk5 | exact kk | go_keep)
        ((go_at_call 52; refine (HK.out _).mono ?_; rintro e w5 ⟨rfl, hb5⟩; have kk : w5.cell? ⟨w.heap.size, 0, none⟩ = some (.string s) ∧ w5.cell? ⟨w.heap.size, 1, none⟩ = some (.int .i64 p) ∧ w5.cell? ⟨w.heap.size, 2, none⟩ = some (.int .i64 t) := ⟨(hb5.cell (World.block_lt_of_cell? _ _ a0)).trans a0, (hb5.cell (World.block_lt_of_cell? _ _ a1)).trans a1, (hb5.cell (World.block_lt_of_cell? _ _ a2)).trans a2⟩; obtain ⟨D5, hD5⟩ := HM4.out.below ((Below.refl _ _).drew.trans hb5); obtain ⟨w6, hrun6, hown6, hg6⟩ := hD5.1.update lawOk Tryz.underlying69 (by unfold maxLen; omega) HKY HEV.out; have hM6 := OpMap.put HO.out hD5 hown6; have kk5 : w6.cell? ⟨w.heap.size, 0, none⟩ = some (.string s) ∧ w6.cell? ⟨w.heap.size, 1, none⟩ = some (.int .i64 p) ∧ w6.cell? ⟨w.heap.size, 2, none⟩ = some (.int .i64 t) := kkM hg6 kk (by omega)))
       all_goals
        have HF : Hid (AddOut w B b N T (p, t, xs) (.returned (.int .i64 0)) w6) := FIN.out 0 w6 (N + 1) HC0.out (by omega) (by rw [← HT0.out]; exact hM6) ((Below.mono (Below.on HB4.out ((Below.refl _ _).drew.trans hb5)) (by have := HBB.out; omega)).grown hg6 (by have := HBB.out; have := (Below.on HB4.out ((Below.refl _ _).drew.trans hb5)).size; omega) (fun j hj => by cases hj; exact HBB.out)) (grown_after (Below.on HB4.out ((Below.refl _ _).drew.trans hb5)) hg6); clear hown6 hg6 hM6 hrun6 hD5 kk kk5; go_wp2_with fail; go_ret; exact HF.out
 | none =>
   have hhk := findK_none hfk
   have HAC : Hid (addCode T (p, t, xs) = if p = 0 then 0 else if T.length = 200 then 3 else 0) := by show _ = _; rw [addCode, hfk]
   rw [hhk]; clear hfk hhk HOLD; have HB4 : Hid (Below w.heap.size w W3.drew) := HB3.out.drew; have HM4 : Hid (OpMap W3.drew b N T) := HM3.out.below (Below.refl _ _).drew; go_wp2_with fail; refine wp_region_held_drew (S := fun _ => True) (by kernel_rfl) ?_ (fun hHeld => ?_)
   ·exact trivial
   refine hTk (i := 0) (v := .bool false) (some 19) (fun o ho W hSw => ?y0) (by assumption) ?_
   case y0 => cases ho; simp [execOp, go_sem, Act.eval]
   simp only [Act.put, zzA, zzB, zzC]; refine hTk (i := 1) (v := .bool false) (some 20) (fun o ho W hSw => ?y1) (by assumption) ?_
   case y1 => cases ho; simp [execOp, go_sem, Act.eval]
   simp only [Act.put, zzA, zzB, zzC]; refine hSk (i := 2) (some 21) (by assumption) ?_; refine hSk (i := 3) (some 22) (by assumption) ?_; refine hSk (i := 4) (some 23) (by assumption) ?_; refine hSk (i := 5) (some 24) (by assumption) ?_; simp only [Act.put, zzA, zzB, zzC]; refine hSk (i := 6) (some 25) (by assumption) ?_; simp only [Act.put, zzA, zzB, zzC]; refine hTk (i := 7) (v := .bool false) (some 26) (fun o ho W hSw => ?y7) (by assumption) ?_
   case y7 => cases ho; simp [execOp, go_sem, Act.eval]
   simp only [Act.put, zzA, zzB, zzC]; refine hTk (i := 8) (v := .bool false) (some 18) (fun o ho W hSw => ?y8) (by assumption) ?_
   case y8 => cases ho; simp [execOp, go_sem, Act.eval]
   simp only [Act.put, zzA, zzB, zzC]; refine wpAnyH_done (by kernel_rfl) ?_ _; have a0 : W3.drew.cell? ⟨w.heap.size, 0, none⟩ = some (.string s) := a0; have a1 : W3.drew.cell? ⟨w.heap.size, 1, none⟩ = some (.int .i64 p) := a1; have a2 : W3.drew.cell? ⟨w.heap.size, 2, none⟩ = some (.int .i64 t) := a2; clear d0 d1 d2 HP1 HPO
   generalize W3.drew = w4 at *
   by_cases hp : p = 0
   ·have hp' : (p == 0) = true := by simpa using hp
    have HP0 : Hid (p = 0) := hp; clear hp
    have HC0 : Hid ((0 : Int) = addCode T (p, t, xs)) := by show _ = _; rw [HAC.out, if_pos HP0.out]
    have HT0 : Hid (dropK T (keyC (p, t, xs)) = addT T (p, t, xs)) := by show _ = _; rw [addT, ← HC0.out]; simp [HP0.out]
    go_wp2_with fail; refine (HK.out _).mono ?_; rintro e w5 ⟨rfl, hb5⟩; obtain ⟨D5, hD5⟩ := HM4.out.below hb5; have hown5 := hD5.1
    have HD5 : Hid (∀ w6, w6.ownsMap Tryz.prog 116 opElem b N (D5.del (okk (kO (p, t, xs)))) → OpMap w6 b N (dropK T (keyC (p, t, xs)))) := fun w6 h6 => OpMap.del HO.out hD5 h6
    have HB5 : Hid (Below w.heap.size w w5) := Below.on HB4.out hb5; clear hD5 hb5; go_wp2_with (at_delete; refine wpList_delete_own _ rfl _ _ 69 116 rfl 73 lawOk Tryz.underlying69 opElem b N D5 rfl hown5 _ _ rfl HKY ?_; intro w6 hown6 hturn6); have HF : Hid (AddOut w B b N T (p, t, xs) (.returned (.int .i64 0)) w6) := FIN.out 0 w6 N HC0.out (by omega) (by rw [← HT0.out]; exact HD5.out w6 hown6) ((HB5.out.mono (by have := HBB.out; omega)).grown hturn6.grown (by have := HBB.out; have := HB5.out.size; omega) (fun j hj => by cases hj; exact HBB.out)) (grown_after HB5.out hturn6.grown); clear hown6 hturn6 hown5; go_wp2_with fail; go_ret; exact HF.out
   ·have hp' : (p == 0) = false := by simpa using hp
    have HP0 : Hid (¬ p = 0) := hp; clear hp
    have hlen : ∀ ty, (Builtin.len_ #[69] ty #[.map (some b)]).run Tryz.prog w4 = .ok (.int .i64 T.length) w4 := fun ty => by obtain ⟨D4, h4⟩ := HM4.out; rw [← h4.2.2.2.1]; exact h4.1.len Tryz.underlying69 ty
    by_cases hT : T.length = 200
    ·have hT' : ((T.length : Int) == 200) = true := by simp; omega
     have HF : Hid (AddOut w B b N T (p, t, xs) (.returned (.int .i64 3)) w4) := FIN.out 3 w4 N (by rw [HAC.out, if_neg HP0.out, if_pos hT]) (by omega) (by rw [addT, if_pos (by rw [HAC.out, if_neg HP0.out, if_pos hT]; simp)]; exact HM4.out) (HB4.out.mono (by have := HBB.out; omega)) (grown_of HB4.out); clear HAC; rw [hT] at hlen; clear hT hT' hl; go_wp2_with fail; go_ret; exact HF.out
    ·have hT' : ((T.length : Int) == 200) = false := by simp; omega
     have hT'' : ¬ ((T.length : Int) = 200) := by omega
     have HT9 : Hid (¬ T.length = 200) := hT; clear hT
     have HC0 : Hid ((0 : Int) = addCode T (p, t, xs)) := by show _ = _; rw [HAC.out, if_neg HP0.out, if_neg HT9.out]
     have HT0 : Hid (dropK T (keyC (p, t, xs)) ++ [(p, t, xs)] = addT T (p, t, xs)) := by show _ = _; rw [addT, ← HC0.out]; simp [HP0.out]
     go_wp2_with fail
     go_region_held3 (fun W => W.cell? ⟨w.heap.size, 0, none⟩ = some (.string s) ∧ W.cell? ⟨w.heap.size, 1, none⟩ = some (.int .i64 p) ∧ W.cell? ⟨w.heap.size, 2, none⟩ = some (.int .i64 t)) (first | exact kk5 | exact kk | go_keep)
      ((go_at_call 52; refine (HK.out _).mono ?_; rintro e w5 ⟨rfl, hb5⟩; have kk : w5.cell? ⟨w.heap.size, 0, none⟩ = some (.string s) ∧ w5.cell? ⟨w.heap.size, 1, none⟩ = some (.int .i64 p) ∧ w5.cell? ⟨w.heap.size, 2, none⟩ = some (.int .i64 t) := ⟨(hb5.cell (World.block_lt_of_cell? _ _ a0)).trans a0, (hb5.cell (World.block_lt_of_cell? _ _ a1)).trans a1, (hb5.cell (World.block_lt_of_cell? _ _ a2)).trans a2⟩; obtain ⟨D5, hD5⟩ := HM4.out.below ((Below.refl _ _).drew.trans hb5); obtain ⟨w6, hrun6, hown6, hg6⟩ := hD5.1.update lawOk Tryz.underlying69 (by unfold maxLen; omega) HKY HEV.out; have hM6 := OpMap.put HO.out hD5 hown6; have kk5 : w6.cell? ⟨w.heap.size, 0, none⟩ = some (.string s) ∧ w6.cell? ⟨w.heap.size, 1, none⟩ = some (.int .i64 p) ∧ w6.cell? ⟨w.heap.size, 2, none⟩ = some (.int .i64 t) := kkM hg6 kk (by omega)))
     all_goals
      have HF : Hid (AddOut w B b N T (p, t, xs) (.returned (.int .i64 0)) w6) := FIN.out 0 w6 (N + 1) HC0.out (by omega) (by rw [← HT0.out]; exact hM6) ((Below.mono (Below.on HB4.out ((Below.refl _ _).drew.trans hb5)) (by have := HBB.out; omega)).grown hg6 (by have := HBB.out; have := (Below.on HB4.out ((Below.refl _ _).drew.trans hb5)).size; omega) (fun j hj => by cases hj; exact HBB.out)) (grown_after (Below.on HB4.out ((Below.refl _ _).drew.trans hb5)) hg6); clear hown6 hg6 hM6 hrun6 hD5 kk kk5; go_wp2_with fail; go_ret; exact HF.out
end
section
open Go Go.RowKit
def dRows : List (Int × Int × List UInt8) := [
 (1200, 0, [58, 45, 32, 45, 45, 62]), (1200, 4, [58, 45, 32, 63, 45]), (1150, 4, [100, 121, 110, 97, 109, 105, 99]), (1100, 1, [59]), (1050, 1, [45, 62]), (1000, 1, [44]), (900, 3, [92, 43]),
 (700, 0, [61, 32, 92, 61, 32, 61, 61, 32, 92, 61, 61, 32, 64, 60, 32, 64, 61, 60, 32, 64, 62, 32, 64, 62, 61, 32, 61, 46, 46, 32, 105, 115, 32, 61, 58, 61, 32, 61, 92, 61, 32, 60, 32, 61, 60, 32, 62, 32, 62, 61]),
 (500, 2, [43, 32, 45, 32, 47, 92, 32, 92, 47, 32, 120, 111, 114]), (400, 2, [42, 32, 47, 32, 47, 47, 32, 109, 111, 100, 32, 114, 101, 109, 32, 60, 60, 32, 62, 62]), (200, 0, [42, 42]), (200, 1, [94]), (200, 3, [45, 32, 43, 32, 92])]
def opsRow (r : Int × Int × List UInt8) : List Cel := (wd [] r.2.2).map (fun x => (r.1, r.2.1, numsU x))
def dOps : List Cel := dRows.flatMap opsRow
theorem dRows_len : dRows.length = 13 := rfl
theorem dOps_len : dOps.length ≤ 60 := by decide
theorem row_good : dRows.all (fun r => decide (0 < r.1 ∧ r.1 ≤ 1200 ∧ 0 ≤ r.2.1 ∧ r.2.1 ≤ 4) && (wd [] r.2.2).all (fun x => decide (1 ≤ x.length ∧ x.length ≤ 100))) = true := by decide
theorem fields_rows : dRows.all (fun r => decide (Lib.fields r.2.2 = wd [] r.2.2)) = true := by decide
theorem ascii_rows : dRows.all (fun r => r.2.2.all (fun b => decide (b.toNat < 128)) && decide (r.2.2.length < 100)) = true := by decide
structure Rel (T cs : List Cel) : Prop where
 asc : Asc cs
 apart : Apart T
 same : ∀ x, x ∈ T ↔ x ∈ cs
 post : ∀ x ∈ T, postB x.2.1 = false
theorem Rel.nil : Rel [] [] := ⟨List.Pairwise.nil, List.Pairwise.nil, fun _ => Iff.rfl, fun x h => by cases h⟩
theorem putO_asc' {cs : List Cel} {o : Cel} (hA : Asc cs) : Asc (putO cs o) := by
 rw [putO]
 cases h : (o.1 == 0) with
 | true => rw [putL_done]; exact hA.filter _
 | false => exact putL_asc o cs hA
theorem Rel.code {T cs : List Cel} (h : Rel T cs) {o : Cel} (hp : postB o.2.1 = false) (hl : T.length < 200) : addCode T o = 0 := by
 rw [addCode]
 cases hf : findK T (keyC o) with
 | some x =>
   have := h.post x (findK_some hf).1
   simp [this, hp]
 | none =>
   have : ¬ T.length = 200 := by omega
   simp [this]
theorem Rel.step {T cs : List Cel} (h : Rel T cs) {o : Cel} (h0 : o.1 ≠ 0) (hp : postB o.2.1 = false) (hl : T.length < 200) : Rel (addT T o) (putO cs o) := by
 have hc := h.code hp hl
 have e : addT T o = dropK T (keyC o) ++ [o] := by rw [addT, if_neg (by rw [hc]; simp), if_neg h0]
 refine ⟨putO_asc' h.asc, ?_, fun x => ?_, fun x hx => ?_⟩
 ·rw [e]
  refine List.pairwise_append.2 ⟨List.Pairwise.filter _ h.apart, by simp, fun x hx y hy => ?_⟩
  simp at hy
  rw [hy]; exact (mem_dropK.1 hx).2
 ·have hz : (o.1 == 0) = false := by simpa using h0
  rw [e, putO, hz, putL_mem]; simp only [List.mem_append, mem_dropK, List.mem_singleton, h.same]
  constructor
  ·rintro (h | h)
   ·exact .inr h
   ·exact .inl h
  ·rintro (h | h)
   ·exact .inr h
   ·exact .inl h
 ·rw [e] at hx
  rcases List.mem_append.1 hx with hx | hx
  ·exact h.post x (mem_dropK.1 hx).1
  ·simp at hx; rw [hx]; exact hp
theorem addT_len {T : List Cel} {o : Cel} : (addT T o).length ≤ T.length + 1 := by
 rw [addT]
 split
 ·omega
 ·have h2 : (dropK T (keyC o)).length ≤ T.length := List.length_filter_le _ _
  split
  ·omega
  ·simp; omega
def goodO (o : Cel) : Prop := o.1 ≠ 0 ∧ postB o.2.1 = false ∧ okT o
theorem dOps_good : ∀ o ∈ dOps, goodO o := fun o ho => by
 simp only [dOps, List.mem_flatMap, opsRow, List.mem_map] at ho; obtain ⟨r, hr, x, hx, rfl⟩ := ho; have h := List.all_eq_true.1 row_good r hr; simp only [Bool.and_eq_true, decide_eq_true_eq, List.all_eq_true] at h; have h2 := h.2 x hx; refine ⟨by show r.1 ≠ 0; omega, ?_, byte_numsU x, by simp [numsU]; omega⟩; simp only [postB, Bool.or_eq_false_iff, beq_eq_false_iff_ne]
 omega
theorem rel_fold : ∀ (os T cs : List Cel), Rel T cs → (∀ o ∈ os, goodO o) → T.length + os.length ≤ 200 → Rel (os.foldl addT T) (os.foldl putO cs) ∧ (os.foldl addT T).length ≤ T.length + os.length
 | [], T, cs, h, _, _ => ⟨h, by simp⟩
 | o :: r, T, cs, h, hg, hl => by
   have h1 := hg o (List.mem_cons_self ..); simp only [List.length_cons] at hl; have h2 := rel_fold r (addT T o) (putO cs o) (h.step h1.1 h1.2.1 (by omega)) (fun x hx => hg x (List.mem_cons_of_mem _ hx)) (by have := addT_len (T := T) (o := o); omega); refine ⟨h2.1, ?_⟩; have h3 := h2.2; have h4 := addT_len (T := T) (o := o); simp only [List.foldl_cons, List.length_cons]
   omega
def rowAt (i : Nat) : Int × Int × List UInt8 := dRows.getD i (0, 0, [])
theorem rowAt_mem {i : Nat} (h : i < 13) : rowAt i ∈ dRows := by
 rw [rowAt, List.getD, List.getElem?_eq_getElem (by rw [dRows_len]; exact h)]; exact List.getElem_mem _
def restO (i : Nat) : List Cel := (dRows.drop i).flatMap opsRow
theorem restO_at {i : Nat} (h : i < 13) : restO i = opsRow (rowAt i) ++ restO (i + 1) := by
 have h' : i < dRows.length := by rw [dRows_len]; exact h
 rw [restO, List.drop_eq_getElem_cons h', List.flatMap_cons, rowAt, List.getD, List.getElem?_eq_getElem h']; rfl
theorem restO_end : restO 13 = [] := rfl
theorem wordsLen {i : Nat} (h : i < 13) : (rowAt i).2.2.length < 100 ∧ (∀ b ∈ (rowAt i).2.2, b.toNat < 128) ∧ Lib.fields (rowAt i).2.2 = wd [] (rowAt i).2.2 := by
 have h1 := List.all_eq_true.1 ascii_rows _ (rowAt_mem h); have h2 := List.all_eq_true.1 fields_rows _ (rowAt_mem h); simp only [Bool.and_eq_true, decide_eq_true_eq, List.all_eq_true] at h1 h2; exact ⟨h1.2, h1.1, h2⟩
def dTab : List Cel := dOps.foldl putO []
end
section
open Go Go.RowKit Go.Maps
structure CollO (D : DataW Unit) (T fs : List Cel) (left : Lit → Bool) (cnt : Nat) : Prop where
 sub : ∀ l, left l = true → Maps.has D l = true
 cov : ∀ c ∈ T, left (okk (kO c)) = true ∨ c ∈ fs
 don : ∀ c ∈ fs, c ∈ T ∧ left (okk (kO c)) = false
 nd : fs.Pairwise (fun x y => keyC x ≠ keyC y)
 len : fs.length + cnt ≤ T.length
def HasO (D : DataW Unit) (T : List Cel) : Prop := ∀ (f : OKey) l, keyOf Tryz.prog 116 (.agg #[.string f.1, .int .i64 f.2]) = some l → (Maps.has D l = true ↔ ∃ c ∈ T, kO c = f)
theorem okk_same (f : OKey) : (okk f).sameKey (okk f) = true := by simp [okk, Lit.sameKey]
theorem CollO.start {D : DataW Unit} {T : List Cel} (hok : ∀ c ∈ T, okT c) (hsz : Maps.size D = T.length) (hhas : HasO D T) : CollO D T [] (Maps.has D) (Maps.size D) :=
 ⟨fun l h => h, fun c hc => .inl ((hhas (kO c) _ (keyOf_kO (hok c hc))).2 ⟨c, hc, rfl⟩), fun f h => by simp at h, by simp, by simp [hsz]⟩
theorem coll_which {D : DataW Unit} {T fs : List Cel} {left : Lit → Bool} {cnt : Nat} (h : CollO D T fs left cnt) (hok : ∀ c ∈ T, okT c) (hhas : HasO D T) (x : OKey) (kl : Lit) (hk : keyOf Tryz.prog 116 (.agg #[.string x.1, .int .i64 x.2]) = some kl) (hl : left kl = true) : ∃ c ∈ T, kO c = x ∧ kl = okk (kO c) := by
 obtain ⟨c, hc, e⟩ := (hhas x kl hk).1 (h.sub kl hl); refine ⟨c, hc, e, ?_⟩; have := keyOf_kO (hok c hc); rw [e] at this ⊢; rw [hk] at this; exact Option.some.inj this
theorem CollO.step {D : DataW Unit} {T fs : List Cel} {left : Lit → Bool} {cnt cnt' : Nat} (h : CollO D T fs left cnt) (hok : ∀ c ∈ T, okT c) (hap : Apart T) (c : Cel) (hc : c ∈ T) (hl : left (okk (kO c)) = true) (hlt : cnt' < cnt) :
  CollO D T (fs ++ [c]) (fun z => left z && !z.sameKey (okk (kO c))) cnt' := by
 have key_inj : ∀ f ∈ T, okk (kO f) = okk (kO c) → keyC f = keyC c := fun f hf e => kO_key.1 (ok_inj (kO_ok (hok f hf)) (kO_ok (hok c hc)) e)
 have uniq : ∀ f ∈ T, keyC f = keyC c → f = c := fun f hf e => by
  rcases List.mem_iff_getElem.1 hf with ⟨i, hi, rfl⟩
  rcases List.mem_iff_getElem.1 hc with ⟨j, hj, rfl⟩
  rcases Nat.lt_trichotomy i j with h1 | h1 | h1
  ·exact absurd e (List.pairwise_iff_getElem.1 hap i j hi hj h1)
  ·subst h1; rfl
  ·exact absurd e.symm (List.pairwise_iff_getElem.1 hap j i hj hi h1)
 refine ⟨fun l hl' => h.sub l (by simp only [Bool.and_eq_true] at hl'; exact hl'.1), fun f hf => ?_, fun f hf => ?_, ?_, ?_⟩
 ·rcases h.cov f hf with h1 | h1
  ·by_cases e : okk (kO f) = okk (kO c)
   ·right; rw [uniq f hf (key_inj f hf e)]; simp
   ·left
    simp only [h1, Bool.true_and, Bool.not_eq_true']; exact sameKey_ne e
  ·right; simp [h1]
 ·rcases List.mem_append.1 hf with h1 | h1
  ·exact ⟨(h.don f h1).1, by simp [(h.don f h1).2]⟩
  ·have e : f = c := by simpa using h1
   rw [e]; exact ⟨hc, by simp [okk_same]⟩
 ·rw [List.pairwise_append]
  refine ⟨h.nd, by simp, fun a ha b hb => ?_⟩
  have e : b = c := by simpa using hb
  rw [e]
  intro e2
  have h1 := h.don a ha; rw [uniq a h1.1 e2] at h1
  rw [h1.2] at hl; cases hl
 ·have := h.len
  simp; omega
theorem asc_of {ds : List Cel} (h : ds.Pairwise (fun x y => ltO y x = false)) (hk : ds.Pairwise (fun x y => keyC x ≠ keyC y)) : Asc ds :=
 (List.Pairwise.and h hk).imp (fun ⟨h1, h2⟩ => ltO_tri (fun e => h2 e.symm) h1)
def OpsOut (w : World) (T : List Cel) (e : Ending) (w' : World) : Prop := ∃ p n c ds, e = .returned (.slice p n c) ∧ OwnO w' w.heap.size p n c ds ∧ Asc ds ∧ (∀ x, x ∈ ds ↔ x ∈ T) ∧ Below w.heap.size w w'
set_option maxHeartbeats 2000000 in
theorem ops_any (b N : Nat) (T : List Cel) (w : World) (hm : OpMap w b N T) (hl : T.length ≤ 100000) (h0 : 0 < T.length) :
  Calls Tryz.prog 31 #[.map (some b)] w (OpsOut w T) := by
 obtain ⟨D, hown, hok, hap, hsz, hhas, hat⟩ := hm
 have HD : Hid ((∀ c ∈ T, okT c) ∧ Apart T ∧ HasO D T ∧ (∀ c ∈ T, D.atKey (okk (kO c)) zD = encD c)) := ⟨hok, hap, hhas, hat⟩
 have HC0 : Hid (CollO D T [] (Maps.has D) (Maps.size D)) := CollO.start hok hsz hhas; have hbl := hown.lt
 obtain ⟨q, eq⟩ : ∃ q, q = T.length := ⟨_, rfl⟩
 have hsz' : Maps.size D = q := by rw [hsz, eq]
 have hq : q ≤ 100000 := by omega
 have HQ : Hid (q = T.length) := eq; clear hok hhas hat hap eq hl hsz
 go_enter Tryz.func31, Tryz.ntmps31
 go_wp2_with (at_range; refine wpList_range_own _ rfl _ 69 rfl 116 73 lawOk Tryz.underlying69 _ b N D rfl hown ?_; intro w2 hrg0 hg0 hs0)
 go_frame
 have HB2 : Hid (Below w.heap.size w w2) := (Below.refl _ _).grown hg0 (Nat.le_refl _) (fun j hj => by cases hj)
 have hs2 : w.heap.size < w2.heap.size := by omega
 obtain ⟨r, er⟩ : ∃ r, r = w.heap.size := ⟨_, rfl⟩
 rw [← er] at hrg0 ⊢; rw [hsz'] at hrg0
 have HC0' : Hid (CollO D T [] (Maps.has D) q) := by rw [← hsz']; exact HC0.out
 have HER : Hid (r = w.heap.size) := er; clear hg0 hs0 HC0 er
 go_loopw [3] (fun s wr => ∃ (left : Lit → Bool) (cnt m : Nat) (fs : List Cel) (p : Option Addr) (c : Nat), m + cnt ≤ q ∧ s = .slice p m c ∧ wr.ranges Tryz.prog 116 opElem b r N D left cnt ∧ Hid (CollO D T fs left cnt) ∧
  Hid (OwnO wr (r + 1) p m c fs) ∧ Hid (Below w.heap.size w wr) ∧ w.heap.size < wr.heap.size) (fun _ wr => wr.rangeLeft b r)
 case atStart => exact ⟨Maps.has D, q, 0, [], none, 0, by omega, rfl, hrg0, HC0', OwnO.nil _ _, HB2, hs2⟩
 case round =>
  obtain ⟨left, cnt, m, fs, p, c, hmc, rfl, hrg, HCO, HO, HB, hws⟩ := hrel; go_wp2_with (at_next; refine wpList_next_ranges _ rfl _ rfl 116 lawOk opElem (fun x : OKey => .agg #[.string x.1, .int .i64 x.2]) (fun c : ByteArray × Int × Int => .agg #[.string c.1, .int .i64 c.2.1, .int .i64 c.2.2]) keyOk_inv (fun v y h => by obtain ⟨c, hc, _⟩ := opElem_inv h; exact ⟨c, hc⟩) b r N D left cnt rfl hrg ?_ ?_)
  ·intro hc0 hl0
   have HALL : Hid (∀ f, f ∈ fs ↔ f ∈ T) := fun f => ⟨fun h => (HCO.out.don f h).1, fun h => (HCO.out.cov f h).resolve_left (by rw [hl0]; simp)⟩
   have hm0 : 0 < m := by
    have h1 := HO.out.1
    rcases Nat.eq_zero_or_pos m with h2 | h2
    ·have hnil : fs = [] := List.length_eq_zero_iff.1 (by omega)
     cases hT : T with
     | nil => rw [hT] at h0; simp at h0
     | cons x xs => have := (HALL.out x).2 (by rw [hT]; simp); rw [hnil] at this; cases this
    ·exact h2
   obtain ⟨g, rfl⟩ : ∃ g, p = some ⟨g, 0, none⟩ := by
    obtain ⟨hn, rs, hl, hr, _⟩ := HO.out; obtain ⟨g, cap, hv, _⟩ := hr.form hm0; simp only [Value.slice.injEq] at hv; exact ⟨g, hv.1⟩
   have HSORT := sortOps_any wr (r + 1) g m c fs HO.out hm0 (by omega); have HND : Hid (fs.Pairwise (fun x y => keyC x ≠ keyC y)) := HCO.out.nd
   have HGB : Hid (w.heap.size ≤ g) := by have := (HO.out.row (k := g) rfl).1; have := HER.out; show _ ≤ _; omega
   clear hrg hc0 hl0 hrg0 HCO; go_wp2_with fail; refine HSORT.mono ?_; rintro e w4 ⟨rfl, ds, hperm, hsrt, hown4, hg4⟩
   have HF : Hid (OpsOut w T (.returned (.slice (some ⟨g, 0, none⟩) m c)) w4) := ⟨_, _, _, ds, rfl, hown4.mono (by have := HER.out; omega), asc_of hsrt (hperm.symm.pairwise HND.out (fun h e => h e.symm)), fun x => (hperm.mem_iff).trans (HALL.out x), HB.out.grown hg4 (Nat.le_of_lt hws) (fun j hj => by cases hj; exact HGB.out)⟩
   clear hperm hsrt hown4 hg4 HSORT; go_wp2_with fail; go_ret; exact HF.out
  ·intro x1 x2 s0 p0 t0 kl y1 y2 w3 cnt1 hkx hlx hvx hatx hrg1 hlt hg1 hs1 hen
   obtain ⟨c0, hc0T, hc0k, hkl⟩ := coll_which HCO.out HD.out.1 HD.out.2.2.1 (x1, x2) kl hkx hlx; subst hkl
   have hv0 : (.agg #[.string s0, .int .i64 p0, .int .i64 t0] : Value) = encV c0 := by
    have h1 := hatx zD; rw [HD.out.2.2.2 c0 hc0T] at h1; have h2 := hvx; rw [← h1] at h2; exact opElem_at h2
   have HCO2 : Hid (CollO D T (fs ++ [c0]) (fun z => left z && !z.sameKey (okk (kO c0))) cnt1) := HCO.out.step HD.out.1 HD.out.2.1 c0 hc0T hlx hlt; have hok0 := HD.out.1 c0 hc0T; obtain ⟨c00, c01, c02⟩ := c0; simp only [encV, Value.agg.injEq] at hv0; have hv1 := congrArg Array.toList hv0; simp only [List.cons.injEq, Value.int.injEq, Value.string.injEq, true_and, and_true] at hv1; obtain ⟨e0, e1, e2⟩ := hv1; subst e1 e2; have hb3 : Below w.heap.size w w3 := HB.out.grown hg1 (Nat.le_of_lt hws) (fun j hj => by cases hj; exact Nat.le_of_eq HER.out.symm); have hO3 : OwnO w3 (r + 1) p m c fs := HO.out.kept hg1 (Nat.lt_succ_self r)
   have hs3 : r + 1 ≤ w3.heap.size := by have := HER.out; omega
   have hal : Below w3.heap.size w3 (w3.alloc (.cells #[.string s0, .int .i64 p0, .int .i64 t0] 73)) := (Below.refl _ _).alloc (Nat.le_refl _) _; obtain ⟨w4, cp, hcv, hb4, hot⟩ := conv_bytes (w3.alloc (.cells #[.string s0, .int .i64 p0, .int .i64 t0] 73)) c02 hok0.1 9 Tryz.underlying9; rw [← e0] at hcv; have G : Box3 w4 w3.heap.size (.string s0) (.int .i64 p0) (.int .i64 t0) := Box3.of_block (t := 73) ((hb4.block _ (by simp)).trans (heap_alloc_new _ _)); obtain ⟨g0, g1, g2, _⟩ := G; have hb34 : Below w3.heap.size w3 w4 := Below.on hal hb4; have hrg4 := hrg1.kept (below_grownBy hb34) (by simp) (by simp); have HOT : Hid (OwnT w4 w3.heap.size (some ⟨(w3.alloc (.cells #[.string s0, .int .i64 p0, .int .i64 t0] 73)).heap.size, 0, none⟩) c02.length cp c02) := hot.mono (by simp); have hl0 : c02.length ≤ 1000000 := hok0.2
   obtain ⟨l0, el0⟩ : ∃ l, l = c02.length := ⟨_, rfl⟩
   rw [← el0] at hcv HOT
   obtain ⟨gt, egt⟩ : ∃ x, x = (w3.alloc (.cells #[.string s0, .int .i64 p0, .int .i64 t0] 73)).heap.size := ⟨_, rfl⟩
   rw [← egt] at hcv HOT; have HB34 : Hid (Below w3.heap.size w3 w4) := hb34; have HO3 : Hid (OwnO w3 (r + 1) p m c fs) := hO3; have HB3 : Hid (Below w.heap.size w w3) := hb3; clear hv0 hvx hatx hkx hlx hg1 hot hok0 hb4 hal hO3 hb3 hc0k hc0T hrg1 hb34 el0 egt e0 hs1; go_wp2_with (at_builtin; refine app_op2 w3 _ rfl _ _ rfl (r + 1) p m c fs rfl HO3.out (HB34.out.alloc HB34.out.size _) hs3 ⟨w4.heap.size, 0, none⟩ 1 rfl p0 t0 (some ⟨gt, 0, none⟩) l0 cp c02 (HOT.out.below ((Below.refl _ _).alloc (Nat.le_refl _) _)) (news_ro (Box3.of_block (t := 120) (heap_alloc_new _ _))) (by omega) ?_; intro g6 n6 cap6 w6 hown6 hgrow6 hat6 hn6)
   have hne : ∀ k, Value.ownBlock (.slice p m c) = some k → r < k := fun k hk => (HO3.out.row hk).1
   have hrg6 := (hrg4.alloc (Obj.cells #[.slice (some ⟨gt, 0, none⟩) l0 cp, .int .i64 p0, .int .i64 t0] 120)).kept hgrow6 (fun e => by have := hne b e.symm; have := HER.out; omega) (fun e => by have := hne r e.symm; omega); have HO6 : Hid (OwnO w6 (r + 1) (some ⟨g6, 0, none⟩) n6 cap6 (fs ++ [(p0, t0, c02)])) := hown6; have HB6 : Hid (Below w.heap.size w w6) := ((HB3.out.trans (HB34.out.mono (by have := HER.out; omega))).alloc (by have := HB34.out.size; have := HER.out; omega) _).grown hgrow6 (by have := HB34.out.size; have := HER.out; simp; omega) (fun k hk => by have := hne k hk; have := HER.out; omega)
   have hw6 : w.heap.size < w6.heap.size := by have h1 := hgrow6.size; simp at h1; have := HB34.out.size; have := HER.out; omega
   have hn6' : n6 = m + 1 := hn6.out; clear hown6 hgrow6 hat6 hrg4 hcv g0 g1 g2 hne hn6; go_wp2_with fail; go_roundw
   case rel => exact ⟨_, cnt1, n6, _, _, _, by omega, rfl, hrg6, HCO2, HO6, HB6, hw6⟩
   case measure => rw [hrg6.left_eq, hrg.left_eq]; exact hlt
theorem three_at {α : Type} (a b c : α → Value) : ∀ (rs : List α) (i : Nat) (h : i < rs.length), (rs.flatMap (fun r => [a r, b r, c r]))[i * 3]? = some (a rs[i]) ∧ (rs.flatMap (fun r => [a r, b r, c r]))[i * 3 + 1]? = some (b rs[i]) ∧ (rs.flatMap (fun r => [a r, b r, c r]))[i * 3 + 2]? = some (c rs[i])
 | [], i, h => by simp at h
 | r :: rs, 0, _ => by simp
 | r :: rs, i + 1, h => by
   have := three_at a b c rs i (by simpa using h)
   have e : (r :: rs).flatMap (fun r => [a r, b r, c r]) = a r :: b r :: c r :: rs.flatMap (fun r => [a r, b r, c r]) := by simp
   rw [e, show (i + 1) * 3 = (i * 3) + 1 + 1 + 1 by omega, show (i * 3) + 1 + 1 + 1 + 1 = (i * 3 + 1) + 1 + 1 + 1 by omega, show (i * 3) + 1 + 1 + 1 + 2 = (i * 3 + 2) + 1 + 1 + 1 by omega]
   simpa using this
def rowsV : List Value := dRows.flatMap (fun r => [.int .i64 r.1, .int .i64 r.2.1, strV r.2.2])
structure RowsInD (w : World) (A : Nat) : Prop where
 at_ : ∀ i, i < 13 → w.cell? ⟨A, i * 3, none⟩ = some (.int .i64 (rowAt i).1) ∧ w.cell? ⟨A, i * 3 + 1, none⟩ = some (.int .i64 (rowAt i).2.1) ∧ w.cell? ⟨A, i * 3 + 2, none⟩ = some (strV (rowAt i).2.2)
theorem rows_made (w : World) (t : TypeId) : RowsInD (w.alloc (.cells rowsV.toArray t)) w.heap.size := ⟨fun i hi => by
 have hl : i < dRows.length := by rw [dRows_len]; exact hi
 have h := three_at (fun r : Int × Int × List UInt8 => Value.int .i64 r.1) (fun r => Value.int .i64 r.2.1) (fun r => strV r.2.2) dRows i hl
 have e : dRows[i] = rowAt i := by rw [rowAt, List.getD, List.getElem?_eq_getElem hl]; rfl
 rw [e] at h; rw [World.cell?_alloc_new, World.cell?_alloc_new, World.cell?_alloc_new]
 simpa [rowsV] using h⟩
def SpIn (w : World) : Prop := ∀ c : Nat, c < 256 → w.cell? ⟨0, c, none⟩ = some (.int .u8 (if Lib.isSp (UInt8.ofNat c) then 1 else 0))
theorem SpIn.below {w w' : World} (h : SpIn w) (hb : Below w.heap.size w w') : SpIn w' := fun c hc => (hb.cell (World.block_lt_of_cell? _ _ (h c hc))).trans (h c hc)
theorem fields_any (l : List UInt8) (w : World) (hl : l.length < 100) (ha : ∀ b ∈ l, b.toNat < 128) (hf : Lib.fields l = wd [] l) (hT : SpIn w) :
  Calls Tryz.prog 29 #[.string (bOf l)] w fun e w' => e = .returned (.slice (some ⟨w.heap.size, 0, none⟩) (wd [] l).length (wd [] l).length) ∧ w' = w.alloc (.cells ((wd [] l).map strV).toArray 9) := by
 have h := Any.strings_Fields_core Tryz.fieldsL infoStr (bOf l) w (by rw [bOf_size]; omega) (fun j b hb => ha b (List.mem_of_getElem? hb)) hT; have e : (bOf l).data.toList = l := rfl; rw [e, hf] at h; exact h
def DefE (w : World) (e : Ending) (w' : World) : Prop := ∃ p n c, e = .returned (.slice p n c) ∧ OwnO w' w.heap.size p n c dTab ∧ Below w.heap.size w w'
set_option maxHeartbeats 4000000 in
theorem implDef_any (w : World) (hT : SpIn w) : Calls Tryz.prog 12 #[] w (DefE w) := by
 have HT : Hid (SpIn w) := hT; have hmm := @run_makeMap Tryz.prog
 obtain ⟨wR, eR⟩ : ∃ wR, wR = w.alloc (.cells rowsV.toArray 66) := ⟨_, rfl⟩
 have hRs : wR.heap.size = w.heap.size + 1 := by rw [eR]; simp
 have hrows : RowsInD wR w.heap.size := by rw [eR]; exact rows_made w _
 have hbR : Below w.heap.size w wR := by rw [eR]; exact (Below.refl _ _).alloc (Nat.le_refl _) _
 obtain ⟨wA, eA⟩ : ∃ wA, wA = wR.alloc (.map #[] 0) := ⟨_, rfl⟩
 have hm0 : OpMap wA (w.heap.size + 1) 0 [] := by rw [eA, ← hRs]; exact OpMap.made wR
 have hbA : Below wR.heap.size wR wA := by rw [eA]; exact (Below.refl _ _).alloc (Nat.le_refl _) _
 have hAs : wA.heap.size = w.heap.size + 1 + 1 := by rw [eA]; simp [hRs]
 have HRO : Hid (RowsInD wA w.heap.size) := ⟨fun i hi => ⟨(hbA.cell (World.block_lt_of_cell? _ _ (hrows.at_ i hi).1)).trans (hrows.at_ i hi).1, (hbA.cell (World.block_lt_of_cell? _ _ (hrows.at_ i hi).2.1)).trans (hrows.at_ i hi).2.1, (hbA.cell (World.block_lt_of_cell? _ _ (hrows.at_ i hi).2.2)).trans (hrows.at_ i hi).2.2⟩⟩
 have HBA : Hid (Below w.heap.size w wA) := Below.on hbR hbA; have HM0 : Hid (OpMap wA (w.heap.size + 1) 0 []) := hm0; have HAS : Hid (wA.heap.size = w.heap.size + 1 + 1) := hAs; clear hT hm0 hrows hbR hbA hAs
 go_enter Tryz.func12, Tryz.ntmps12
 go_wp2_with fail
 have eA' : wA = (w.alloc (Obj.cells #[.int .i64 1200, .int .i64 0, .string ⟨#[58, 45, 32, 45, 45, 62]⟩, .int .i64 1200, .int .i64 4, .string ⟨#[58, 45, 32, 63, 45]⟩, .int .i64 1150, .int .i64 4, .string ⟨#[100, 121, 110, 97, 109, 105, 99]⟩, .int .i64 1100, .int .i64 1, .string ⟨#[59]⟩, .int .i64 1050, .int .i64 1, .string ⟨#[45, 62]⟩, .int .i64 1000, .int .i64 1, .string ⟨#[44]⟩, .int .i64 900, .int .i64 3, .string ⟨#[92, 43]⟩, .int .i64 700, .int .i64 0, .string ⟨#[61, 32, 92, 61, 32, 61, 61, 32, 92, 61, 61, 32, 64, 60, 32, 64, 61, 60, 32, 64, 62, 32, 64, 62, 61, 32, 61, 46, 46, 32, 105, 115, 32, 61, 58, 61, 32, 61, 92, 61, 32, 60, 32, 61, 60, 32, 62, 32, 62, 61]⟩, .int .i64 500, .int .i64 2, .string ⟨#[43, 32, 45, 32, 47, 92, 32, 92, 47, 32, 120, 111, 114]⟩, .int .i64 400, .int .i64 2, .string ⟨#[42, 32, 47, 32, 47, 47, 32, 109, 111, 100, 32, 114, 101, 109, 32, 60, 60, 32, 62, 62]⟩, .int .i64 200, .int .i64 0, .string ⟨#[42, 42]⟩, .int .i64 200, .int .i64 1, .string ⟨#[94]⟩, .int .i64 200, .int .i64 3, .string ⟨#[45, 32, 43, 32, 92]⟩] 66)).alloc (.map #[] 0) := by rw [eA, eR]; rfl
 rw [← eA']; clear eA eA' eR hmm hRs wR
 go_loopw [24] (fun i wr => ∃ (k N : Nat) (D : List Cel), k ≤ 13 ∧ N ≤ 60 ∧ i = .int .i64 k ∧ Hid (D ++ restO k = dOps) ∧ Hid (N ≤ D.length) ∧ Hid (OpMap wr (w.heap.size + 1) N (D.foldl addT [])) ∧ Hid (Below (w.heap.size + 1) wA wr) ∧ w.heap.size + 1 + 1 ≤ wr.heap.size) (fun i _ => 13 - (intOf i).toNat)
 case atStart => exact ⟨0, 0, [], by omega, by omega, rfl, rfl, Nat.le_refl _, HM0, Below.refl _ _, by have := HAS.out; omega⟩
 case round =>
  obtain ⟨k, N, D, hk, hN, rfl, HQ, HND, HM, HB, hsz⟩ := hrel
  by_cases hlt : k < 13
  ·obtain ⟨hw1, hw2, hw3⟩ := wordsLen hlt
   have hkd : decide ((k : Int) < 13) = true := by simp; omega
   obtain ⟨d0, d1, d2⟩ := HRO.out.at_ k hlt; have hlw : w.heap.size < w.heap.size + 1 := Nat.lt_succ_self _
   replace d0 : wr.cell? ⟨w.heap.size, k * 3, none⟩ = _ := (HB.out.cell (p := ⟨w.heap.size, k * 3, none⟩) hlw).trans d0
   replace d1 : wr.cell? ⟨w.heap.size, k * 3 + 1, none⟩ = _ := (HB.out.cell (p := ⟨w.heap.size, k * 3 + 1, none⟩) hlw).trans d1
   replace d2 : wr.cell? ⟨w.heap.size, k * 3 + 2, none⟩ = _ := (HB.out.cell (p := ⟨w.heap.size, k * 3 + 2, none⟩) hlw).trans d2
   clear hlw; have HRA : Hid _ := restO_at hlt; have HOR : Hid (opsRow (rowAt k) = (wd [] (rowAt k).2.2).map (fun x => ((rowAt k).1, (rowAt k).2.1, numsU x))) := rfl
   obtain ⟨r, er⟩ : ∃ r, r = rowAt k := ⟨_, rfl⟩
   rw [← er] at d0 d1 d2 hw1 hw2 hw3 HRA HOR; obtain ⟨r0, r1, r2⟩ := r; simp only [strV] at d0 d1 d2 hw1 hw2 hw3 HOR; have hal : Below wr.heap.size wr (wr.alloc (.cells #[.int .i64 r0, .int .i64 r1, .string (bOf r2)] 66)) := (Below.refl _ _).alloc (Nat.le_refl _) _; have HBw : Hid (Below w.heap.size w (wr.alloc (.cells #[.int .i64 r0, .int .i64 r1, .string (bOf r2)] 66))) := (HBA.out.trans (HB.out.mono (by omega))).trans (hal.mono (by omega)); have HF := fields_any r2 (wr.alloc (.cells #[.int .i64 r0, .int .i64 r1, .string (bOf r2)] 66)) hw1 hw2 hw3 (HT.out.below HBw.out); obtain ⟨c0, c1, c2⟩ := three_new wr (.int .i64 r0) (.int .i64 r1) (.string (bOf r2)) 66
   have hwl : (wd [] r2).length ≤ 60 := by
    have h1 := congrArg List.length HQ.out; rw [HRA.out, HOR.out] at h1; simp only [List.length_append, List.length_map] at h1; have := dOps_len
    omega
   have HM1 : Hid (OpMap (wr.alloc (.cells #[.int .i64 r0, .int .i64 r1, .string (bOf r2)] 66)) (w.heap.size + 1) N (D.foldl addT [])) := HM.out.below hal; have HB1 : Hid (Below (w.heap.size + 1) wA (wr.alloc (.cells #[.int .i64 r0, .int .i64 r1, .string (bOf r2)] 66))) := HB.out.trans (hal.mono (by omega))
   obtain ⟨sr, esr⟩ : ∃ s, s = bOf r2 := ⟨_, rfl⟩
   rw [← esr] at d2 HF c0 c1 c2 HM1 HB1 HBw
   obtain ⟨nw, enw⟩ : ∃ n, n = (wd [] r2).length := ⟨_, rfl⟩
   rw [← enw] at HF hwl; have HNW : Hid (nw = (wd [] r2).length) := enw; clear er hw1 hw2 hw3 esr hal enw; go_wp2_with fail; refine HF.mono ?_; rintro e w2 ⟨rfl, hw2⟩
   have hb2 : Below (wr.heap.size + 1) (wr.alloc (.cells #[.int .i64 r0, .int .i64 r1, .string sr] 66)) w2 := by rw [hw2]; exact (Below.refl _ _).alloc (by simp) _
   have hs2 : w2.heap.size = wr.heap.size + 1 + 1 := by rw [hw2]; simp
   have HC2 : Hid (w2.cell? ⟨wr.heap.size, 0, none⟩ = some (.int .i64 r0) ∧ w2.cell? ⟨wr.heap.size, 1, none⟩ = some (.int .i64 r1)) := ⟨(hb2.cell (p := ⟨wr.heap.size, 0, none⟩) (Nat.lt_succ_self _)).trans c0, (hb2.cell (p := ⟨wr.heap.size, 1, none⟩) (Nat.lt_succ_self _)).trans c1⟩
   have HWD : Hid (∀ j, j < nw → ∃ x, (wd [] r2)[j]? = some x ∧ w2.cell? ⟨wr.heap.size + 1, j, none⟩ = some (.string (bOf x))) := fun j hj => by
    have hj' : j < (wd [] r2).length := by rw [← HNW.out]; exact hj
    refine ⟨(wd [] r2)[j], List.getElem?_eq_getElem hj', ?_⟩; have h9 := World.cell?_alloc_new (wr.alloc (.cells #[.int .i64 r0, .int .i64 r1, .string sr] 66)) ((wd [] r2).map strV).toArray 9 j; rw [World.size_alloc] at h9; rw [hw2, h9]
    simp [hj', strV]
   have HM2 : Hid (OpMap w2 (w.heap.size + 1) N (D.foldl addT [])) := HM1.out.below (by simpa using hb2); have HB2 : Hid (Below (w.heap.size + 1) wA w2) := HB1.out.trans (hb2.mono (by omega)); have HS2 : Hid (w2.heap.size = wr.heap.size + 1 + 1) := hs2
   have HQ2 : Hid (D ++ ((wd [] r2).map (fun x => (r0, r1, numsU x)) ++ restO (k + 1)) = dOps) := by show _ = _; rw [← HOR.out, ← HRA.out]; exact HQ.out
   obtain ⟨A4, eA4⟩ : ∃ a, a = wr.heap.size := ⟨_, rfl⟩
   have hA4 : w.heap.size + 1 < A4 := by omega
   simp only [World.size_alloc, ← eA4]; rw [← eA4] at HC2 HWD HS2; clear hw2 hb2 hs2 HF c0 c1 c2 HM1 HB1 eA4 d0 d1 d2; go_wp2_with fail
   go_loopw [32] (fun j wv => ∃ (i N : Nat) (D : List Cel), i ≤ nw ∧ N ≤ 60 ∧ j = .int .i64 i ∧ Hid (D ++ (((wd [] r2).drop i).map (fun x => (r0, r1, numsU x)) ++ restO (k + 1)) = dOps) ∧ Hid (N ≤ D.length) ∧ Hid (OpMap wv (w.heap.size + 1) N (D.foldl addT [])) ∧ Hid (w2.grownBy wv (some (w.heap.size + 1)))) (fun j _ => nw - (intOf j).toNat)
   case atStart => exact ⟨0, N, D, by omega, hN, rfl, HQ2, HND, HM2, ⟨rfl, rfl, rfl, Nat.le_refl _, fun _ _ _ => rfl⟩⟩
   case round =>
    obtain ⟨i, N5, D5, hi5, hN5, rfl, HQ5, HND5, HM5, HG5⟩ := hrel
    by_cases hlt5 : i < nw
    ·obtain ⟨x, hx, hcx⟩ := HWD.out i hlt5
     have hkp : ∀ (g o : Nat) (v : Value), A4 ≤ g → w2.cell? ⟨g, o, none⟩ = some v → wr.cell? ⟨g, o, none⟩ = some v := fun g o v hg h => (World.cell?_of_block (HG5.out.block g (World.block_lt_of_cell? _ _ h) (by simp; omega))).trans h
     have f0 := hkp _ _ _ (by omega) hcx; have f1 := hkp _ _ _ (Nat.le_refl _) HC2.out.1; have f2 := hkp _ _ _ (Nat.le_refl _) HC2.out.2
     have HQ6 : Hid ((D5 ++ [(r0, r1, numsU x)]) ++ (((wd [] r2).drop (i + 1)).map (fun x => (r0, r1, numsU x)) ++ restO (k + 1)) = dOps) := by
      show _ = _
      have hi' : i < (wd [] r2).length := (List.getElem?_eq_some_iff.1 hx).1; have hxe : (wd [] r2)[i] = x := (List.getElem?_eq_some_iff.1 hx).2; rw [← HQ5.out, List.drop_eq_getElem_cons hi', hxe]
      simp
     have hgo : goodO (r0, r1, numsU x) := dOps_good _ (by rw [← HQ6.out]; simp)
     have hlT : (D5.foldl addT []).length + 1 ≤ 61 := by
      have h1 := (rel_fold D5 [] [] Rel.nil (fun o ho => dOps_good o (by rw [← HQ5.out]; exact List.mem_append_left _ ho)) (by
       have h2 := congrArg List.length HQ5.out; simp only [List.length_append, List.length_nil] at h2 ⊢; have := dOps_len
       omega)).2
      have h2 := congrArg List.length HQ5.out; simp only [List.length_append, List.length_nil] at h1 h2; have := dOps_len
      omega
     have HFD : Hid ((D5 ++ [(r0, r1, numsU x)]).foldl addT [] = addT (D5.foldl addT []) (r0, r1, numsU x)) := by show _ = _; rw [List.foldl_append]; rfl
     have hN6 : N5 + 1 ≤ 60 ∧ N5 + 1 ≤ (D5 ++ [(r0, r1, numsU x)]).length := by
      have h2 := congrArg List.length HQ6.out; have h3 := HND5.out; simp only [List.length_append, List.length_cons, List.length_nil] at h2 ⊢; have := dOps_len
      omega
     have HADD := add_any (w.heap.size + 1) N5 (w.heap.size + 1) (D5.foldl addT []) r0 r1 (numsU x) (bOf x) wr (strOf_numsU x).symm HM5.out hgo.2.2 (by omega) (Nat.le_refl _) (by omega); have HN6 : Hid (N5 + 1 ≤ 60 ∧ N5 + 1 ≤ (D5 ++ [(r0, r1, numsU x)]).length) := hN6
     obtain ⟨sx, esx⟩ : ∃ s, s = bOf x := ⟨_, rfl⟩
     rw [← esx] at HADD f0; clear hkp hcx hx hgo hlT hN6 esx; go_wp2_with fail; refine HADD.mono ?_; rintro e w6 ⟨rfl, ⟨N6, hN6, hm6⟩, _, hg6⟩
     have HM6 : Hid (OpMap w6 (w.heap.size + 1) N6 ((D5 ++ [(r0, r1, numsU x)]).foldl addT [])) := by rw [HFD.out]; exact hm6
     have HG6 : Hid (w2.grownBy w6 (some (w.heap.size + 1))) := HG5.out.andThen hg6 (fun j hj => .inr hj)
     have h60 : N6 ≤ 60 := by have := HN6.out.1; omega
     have HL6 : Hid (N6 ≤ (D5 ++ [(r0, r1, numsU x)]).length) := Nat.le_trans hN6 HN6.out.2; clear hm6 hg6 HADD hN6 f0 f1 f2; go_wp2_with fail; go_roundw
     case rel => exact ⟨i + 1, N6, _, by omega, h60, by go_num, HQ6, HL6, HM6, HG6⟩
     case measure => simp [intOf]; omega
    ·obtain rfl : i = nw := by omega
     have HQ6 : Hid (D5 ++ restO (k + 1) = dOps) := by
      show _ = _
      have h9 := HQ5.out; rw [HNW.out, List.drop_length] at h9
      simpa using h9
     have HB6 : Hid (Below (w.heap.size + 1) wA wr) := HB2.out.grown HG5.out (by have := HS2.out; omega) (fun j hj => by cases hj; exact Nat.le_refl _)
     have hs6 : w.heap.size + 1 + 1 ≤ wr.heap.size := by have := HG5.out.size; have := HS2.out; omega
     go_wp2_with fail; go_roundw
     case rel => exact ⟨k + 1, N5, D5, by omega, hN5, by go_num, HQ6, HND5, HM5, HB6, hs6⟩
     case measure => simp [intOf]; omega
  ·obtain rfl : k = 13 := by omega
   have hDD : D = dOps := by have h9 := HQ.out; rw [restO_end] at h9; simpa using h9
   subst hDD; have hrel := rel_fold dOps [] [] Rel.nil dOps_good (by have := dOps_len; simp; omega)
   have hpos : 0 < (dOps.foldl addT []).length := by
    have h1 : dOps ≠ [] := by decide
    obtain ⟨o, r, hr⟩ : ∃ o r, dOps = r ++ [o] := ⟨dOps.getLast h1, dOps.dropLast, (List.dropLast_concat_getLast h1).symm⟩
    have hgo := dOps_good o (by rw [hr]; simp)
    have hr2 := rel_fold r [] [] Rel.nil (fun x hx => dOps_good x (by rw [hr]; exact List.mem_append_left _ hx)) (by
     have h2 := congrArg List.length hr; have := dOps_len
     simp at h2 ⊢; omega)
    have hc := hr2.1.code hgo.2.1 (by
     have h2 := congrArg List.length hr; have h3 := hr2.2; have := dOps_len
     simp at h2 h3; omega)
    rw [hr, List.foldl_append]
    show 0 < (addT _ o).length
    rw [addT, if_neg (by rw [hc]; simp), if_neg hgo.1]
    simp
   have HOPS := ops_any (w.heap.size + 1) N (dOps.foldl addT []) wr HM.out (by have h1 := hrel.2; have h2 := dOps_len; simp only [List.length_nil] at h1; omega) hpos
   have HUN : Hid (∀ ds, Asc ds → (∀ x, x ∈ ds ↔ x ∈ dOps.foldl addT []) → ds = dTab) := fun ds h1 h2 => asc_unique _ _ h1 hrel.1.asc (fun x => (h2 x).trans (hrel.1.same x))
   have HBw : Hid (Below w.heap.size w wr) := HBA.out.trans (HB.out.mono (by omega)); clear hrel hpos; go_wp2_with fail; refine HOPS.mono ?_; rintro e w7 ⟨p7, n7, c7, ds, rfl, hown7, hasc7, hmem7, hb7⟩
   have HF : Hid (DefE w (.returned (.slice p7 n7 c7)) w7) := ⟨p7, n7, c7, rfl, by rw [HUN.out ds hasc7 hmem7] at hown7; exact hown7.mono HBw.out.size, Below.on HBw.out hb7⟩
   clear hown7 hasc7 hmem7 hb7 HOPS; go_wp2_with fail; go_ret; exact HF.out
end
end Go.Proofs.YtdmmchoicngblaaGreatDoor
