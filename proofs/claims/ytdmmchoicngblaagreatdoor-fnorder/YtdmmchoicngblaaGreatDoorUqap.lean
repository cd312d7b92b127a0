/- Texts of OrT, Cmp11, Cmp12, Cmp13, Cmp14, CmG. Own work of the verifier. -/
import Derived.Shelf.SlSortCmp.Whole1
import Derived.Test.YtdmmchoicngblaaGreatDoorTrmL
import Derived.Test.YtdmmchoicngblaaGreatDoorUqal
import Derived.Test.YtdmmchoicngblaaGreatDoorCmpL
import Derived.Sort.OwnSortedInts
namespace Go.Proofs.YtdmmchoicngblaaGreatDoor
set_option linter.unusedVariables false
set_option maxRecDepth 100000
section
open Go Go.RowKit Go.Shelf Go.Lib Go.Sort
variable {α : Type} [Inhabited α]
set_option maxHeartbeats 2000000 in
theorem pdqB_any (enc : α → Value) (cf : α → α → Int) (b blk cap n : Nat) (lim : Int) (d0 d : Array α) (w0 w : World) (hcmp : CmpB enc cf b blk n w0) (R : Row1 enc w0 blk 0 d0) (hs0 : d0.size = n) (hs : d.size = n) (S : SW enc w0 blk 0 d w) (hn : n ≤ 12) :
  Calls Tryz.prog 289 #[.slice (some ⟨blk, 0, none⟩) n cap, .int .i64 0, .int .i64 n, .int .i64 lim, .func (.func 47) #[.map (some b)] #[]] w fun e w' => e = .returned (.tuple #[]) ∧ SW enc w0 blk 0 (Sort.insertionSort (ltOf cf) d 0 n) w' := by
 have HI := insB_any enc cf b blk cap n d0 d w0 w hcmp R hs0 hs S (by omega)
 have z1 : (n : Int) ≤ 12 := by omega
 have z2 : IntKind.i64.wrap (n : Int) = (n : Int) := by rw [IntKind.wrap_i64]; omega
 have z3 : (n : Int) - 0 = (n : Int) := by omega
 clear hcmp R hs0 hs S
 go_enter Tryz.func289, Tryz.ntmps289
 go_wp2_with fail; refine wp_loop_rounds 1 ?_; rw [rounds_succ]; go_wp2_with fail; refine HI.mono ?_; rintro e w1 ⟨rfl, h⟩; have H : Hid _ := h; clear h HI; go_wp2_with fail; refine bodyPost_ret (results_none rfl _ _ _) rfl ?_; exact ⟨rfl, H.out⟩
set_option maxHeartbeats 2000000 in
theorem sortB_any (enc : α → Value) (cf : α → α → Int) (b blk cap n : Nat) (d0 d : Array α) (w0 w : World) (hcmp : CmpB enc cf b blk n w0) (R : Row1 enc w0 blk 0 d0) (hs0 : d0.size = n) (hs : d.size = n) (S : SW enc w0 blk 0 d w) (hn : n ≤ 12) :
  Calls Tryz.prog 223 #[.slice (some ⟨blk, 0, none⟩) n cap, .func (.func 47) #[.map (some b)] #[]] w fun e w' => e = .returned (.tuple #[]) ∧ SW enc w0 blk 0 (Sort.insertionSort (ltOf cf) d 0 n) w' := by
 have HP := fun lim => pdqB_any enc cf b blk cap n lim d0 d w0 w hcmp R hs0 hs S hn
 have HL : Calls Tryz.prog 127 #[.int .u64 (n : Int)] w fun e w' => e = .returned (.int .i64 (Lib.bitLen n : Nat)) ∧ w' = w := by
  have h := Any.bits_Len (SlLaysF0.n15.bits (P := Tryz.prog) (ρ := Tryz.sortTrmL_ren) { Tryz.sortTrmL with }) (n : Int) w (by omega) (by omega)
  rwa [Int.toNat_natCast] at h
 have z1 : IntKind.u64.wrap (n : Int) = n := by simp [IntKind.wrap, IntKind.bits, IntKind.signed]; omega
 obtain ⟨q, eq⟩ : ∃ q : Int, q = (Lib.bitLen n : Nat) := ⟨_, rfl⟩
 rw [← eq] at HL; clear hcmp R hs0 hs S eq
 go_enter Tryz.func223, Tryz.ntmps223
 go_wp2_with fail; refine HL.mono ?_; rintro e w1 ⟨rfl, rfl⟩; go_wp2_with fail; refine (HP _).mono ?_; rintro e w2 ⟨rfl, h⟩; have H : Hid _ := h; clear h HP; go_wp2_with fail
 go_end0
 exact ⟨rfl, H.out⟩
end
section
open Go Go.RowKit Go.Maps Go.Sort Go.Shelf
def encF (x : Fun) : List Value := [.string x.1, .int .i64 x.2]
theorem isAggFun (w : World) : (isAgg 78).run Tryz.prog w = .ok true w := by kernel_rfl
theorem sizeOfFun (w : World) : (Go.sizeOf 78).run Tryz.prog w = .ok 2 w := by kernel_rfl
theorem cmpLaysFun (blk off size : Nat) (w : World) : CmpLays Tryz.prog 119 #[] encF 2 funCmp blk off size w := fun _ _ _ _ x y => compareFunctors_any x y _
theorem sortFunc_any (blk cap : Nat) (d : Array Fun) (w : World) (hH : HoldsK encF 2 w blk 0 d) (hblk : blk < w.heap.size) (hsz : d.size < 4611686018427387904) :
  Calls Tryz.prog 118 #[.slice (some ⟨blk, 0, none⟩) d.size cap, .func (.func 119) #[] #[]] w fun e w' => e = .returned (.tuple #[]) ∧ ∃ d' n os, PermIn 0 d.size d d' ∧ SortedIn (ltOf funCmp) 0 d.size d' ∧ w' = sortWorldK encF 2 w blk 0 n d' os := by
 have eg : ∀ args w, (callFunc 119 args).run Tryz.prog w = .ok (.enter 119 args) w := enters_of Tryz.func119 (by kernel_rfl) rfl; have hcon := AnyQ.slices_SortFunc Tryz.sortFunL 2 isAggFun sizeOfFun encF (fun _ => rfl) (fun x v hv => by simp [encF] at hv; rcases hv with rfl | rfl <;> rfl) funCmp fl_swo 119 #[] blk 0 cap d w eg (cmpLaysFun blk 0 d.size w) hH hblk hsz; exact hcon
def FunsIn (w : World) (g : Nat) (fs : List Fun) : Prop := ∀ i, i < fs.length → w.cell? ⟨g, i * 2, none⟩ = some (.string fs[i]!.1) ∧ w.cell? ⟨g, i * 2 + 1, none⟩ = some (.int .i64 fs[i]!.2)
theorem FunsIn.holds {w : World} {g : Nat} {fs : List Fun} (h : FunsIn w g fs) (hf : ∀ j, w.frozen? ⟨g, j, none⟩ = false) : HoldsK encF 2 w g 0 fs.toArray := fun j hj => by
 simp only [size_flatK, List.size_toArray] at hj; refine ⟨?_, by rw [Nat.zero_add]; exact hf j⟩; rw [Nat.zero_add, get_flatK _ _ _ _ (by simpa using hj)]
 have hi : j / 2 < fs.length := by omega
 obtain ⟨h0, h1⟩ := h (j / 2) hi
 rcases Nat.mod_two_eq_zero_or_one j with e | e
 ·have ej : j / 2 * 2 = j := by omega
  rw [ej] at h0; rw [h0, e]
  simp [encF]
 ·have ej : j / 2 * 2 + 1 = j := by omega
  rw [ej] at h1; rw [h1, e]
  simp [encF]
theorem holds_funs {w : World} {g : Nat} {d : Array Fun} (h : HoldsK encF 2 w g 0 d) : FunsIn w g d.toList := fun i hi => by
 have hi' : i < d.size := by simpa using hi
 have h0 := (h (i * 2) (by simp; omega)).1; have h1 := (h (i * 2 + 1) (by simp; omega)).1; rw [Nat.zero_add, get_flatK _ _ _ _ (by omega)] at h0 h1
 have e0 : i * 2 / 2 = i := by omega
 have e1 : (i * 2 + 1) / 2 = i := by omega
 have e2 : i * 2 % 2 = 0 := by omega
 have e3 : (i * 2 + 1) % 2 = 1 := by omega
 rw [e0, e2] at h0; rw [e1, e3] at h1
 have ed : d.toList[i]! = d[i]! := by simp [hi']
 rw [h0, h1, ed]
 simp [encF]
theorem grownBy_sortK {w : World} {g n : Nat} {os : Array Obj} (d : Array Fun) : w.grownBy (sortWorldK encF 2 w g 0 n d os) (some g) := by
 refine ⟨rfl, rfl, rfl, by simp [sortWorldK, putRowK], fun k hk hne => ?_⟩; rw [sortWorldK, heap_grow_old _ _ (by simpa [putRowK] using hk)]
 have : g ≠ k := fun e => hne (by rw [e])
 simp [putRowK, putRow, mapBlock, Sort.ahead, Array.getElem?_modify, this]
theorem sortFuns_any (fs : List Fun) (g cap : Nat) (w : World) (h : FunsIn w g fs) (hf : ∀ j, w.frozen? ⟨g, j, none⟩ = false) (hg : g < w.heap.size) (hl : fs.length ≤ 100000) :
  Calls Tryz.prog 118 #[.slice (some ⟨g, 0, none⟩) fs.length cap, .func (.func 119) #[] #[]] w fun e w' => e = .returned (.tuple #[]) ∧ ∃ ds : List Fun, ds.Perm fs ∧ (∀ i j, i < j → j < ds.length → ¬ fl ds[j]! ds[i]!) ∧ FunsIn w' g ds ∧ w.grownBy w' (some g) := by
 have hH := h.holds hf; have hc := sortFunc_any g cap fs.toArray w hH hg (by simp; omega); simp only [List.size_toArray] at hc; refine hc.mono ?_; rintro e w' ⟨rfl, d', n, os, hp, hs, rfl⟩
 have hsz : d'.size = fs.length := by simpa using hp.1
 refine ⟨rfl, d'.toList, ?_, fun i j hij hj => ?_, holds_funs (holdsK_sortWorldK_c encF 2 w g 0 fs.toArray d' n os hH hg (by simpa using hsz)), grownBy_sortK d'⟩
 ·have := hp.2.2
  rw [Array.extract_eq_self_of_le (by omega)] at this
  simpa using this
 ·have hj' : j < fs.length := by rw [← hsz]; simpa using hj
  have := hs i j (Nat.zero_le _) hij hj'; simp only [ltOf, decide_eq_false_iff_not, funCmp_lt] at this
  have ei : d'.toList[i]! = d'[i]! := by simp [show i < d'.size by omega]
  have ej : d'.toList[j]! = d'[j]! := by simp [show j < d'.size by omega]
  rw [ei, ej]; exact this
theorem funCmp_neg {f g : Fun} (h : fl f g) : funCmp f g = -1 := by
 unfold funCmp orI cmpI cmpS
 rcases h with h | ⟨h, h'⟩
 ·simp [h]
 ·simp [h, h']
theorem fl_asymm {f g : Fun} (h : fl f g) : ¬ fl g f := fun h2 => by
 rcases h with h | ⟨h, h'⟩ <;> rcases h2 with h2 | ⟨h2, h2'⟩
 ·omega
 ·omega
 ·omega
 ·have := bl_trans _ _ _ h' h2'; rw [bl_irrefl] at this; simp at this
theorem funCmp_pos {f g : Fun} (h : fl g f) : funCmp f g = 1 := by
 have h0 : ¬ fl f g := fl_asymm h
 unfold funCmp orI cmpI cmpS
 unfold fl at h h0
 rcases h with h | ⟨h, h'⟩
 ·have : ¬ f.2 < g.2 := by omega
  simp [h, this]
 ·have n1 : Op.bytesLess f.1.toList g.1.toList = false := by simpa using fun e => h0 (.inr ⟨h.symm, e⟩)
  have n2 : (f.1.toList == g.1.toList) = false := by
   cases e : (f.1.toList == g.1.toList) with
   | false => rfl
   | true =>
     have e' : f.1.toList = g.1.toList := by simpa using e
     rw [e', bl_irrefl] at h'; simp at h'
  simp [h, n1, n2]
theorem funCmp_self (f : Fun) : funCmp f f = 0 := by simp [funCmp, orI, cmpI, cmpS, bl_irrefl]
theorem fl_tri {f g : Fun} (h : ¬ fl f g) (hne : f ≠ g) : fl g f := by
 unfold fl at h ⊢
 by_cases h1 : g.2 < f.2
 ·exact .inl h1
 ·have e : f.2 = g.2 := by
   have : ¬ f.2 < g.2 := fun e => h (.inl e)
   omega
  have n : Op.bytesLess f.1.toList g.1.toList = false := by simpa using fun x => h (.inr ⟨e, x⟩)
  refine .inr ⟨e.symm, bl_tri _ _ n (fun x => hne ?_)⟩; obtain ⟨f1, f2⟩ := f; obtain ⟨g1, g2⟩ := g; simp only at e x; rw [e, ba_ext x]
theorem rankOk_of {ds ks : List Fun} {rk : Fun → Int} (hp : ∀ f ∈ ks, ∃ i, i < ds.length ∧ ds[i]! = f) (hnd : ∀ i j, i < j → j < ds.length → ds[i]! ≠ ds[j]!) (hs : ∀ i j, i < j → j < ds.length → ¬ fl ds[j]! ds[i]!) (hr : ∀ i, i < ds.length → rk ds[i]! = (i : Int)) : RankOk rk ks := fun f hf g hg => by
 obtain ⟨i, hi, rfl⟩ := hp f hf; obtain ⟨j, hj, rfl⟩ := hp g hg; rw [hr i hi, hr j hj]
 rcases Nat.lt_trichotomy i j with h | h | h
 ·rw [funCmp_neg (fl_tri (hs i j h hj) (fun e => hnd i j h hj e.symm))]
  simp [cmpI, h]
 ·subst h; rw [funCmp_self, cmpI_self]
 ·rw [funCmp_pos (fl_tri (hs j i h hi) (fun e => hnd j i h hi e.symm))]
  simp [cmpI, h]; omega
end
section
open Go Go.RowKit Go.Maps
theorem keyFun_inv (key : Value) (kl : Lit) (h : keyOf Tryz.prog 78 key = some kl) : ∃ x : Fun, key = .agg #[.string x.1, .int .i64 x.2] := by
 obtain ⟨n, hn⟩ := nTypes; obtain ⟨x, y, h⟩ := keyPair_inv Tryz.prog 78 9 3 _ _ _ rfl Tryz.underlying78 rfl rfl rfl rfl (by decide) (by decide) Tryz.underlying9 Tryz.underlying3 cellsFun cellsStr cellsIn n hn h; exact ⟨(x, y), h⟩
structure Coll (D : DataW Unit) (ks fs : List Fun) (left : Lit → Bool) (cnt : Nat) : Prop where
 sub : ∀ l, left l = true → Maps.has D l = true
 cov : ∀ f ∈ ks, left (fk f) = true ∨ f ∈ fs
 don : ∀ f ∈ fs, f ∈ ks ∧ left (fk f) = false
 nd : fs.Pairwise (· ≠ ·)
 len : fs.length + cnt ≤ ks.length
theorem fk_same (f : Fun) : (fk f).sameKey (fk f) = true := by simp [fk, Lit.sameKey]
theorem Coll.start {D : DataW Unit} {ks : List Fun} (hok : ∀ f ∈ ks, okF f) (hsz : Maps.size D = ks.length) (hhas : ∀ f l, keyOf Tryz.prog 78 (.agg #[.string f.1, .int .i64 f.2]) = some l → Maps.has D l = decide (f ∈ ks)) : Coll D ks [] (Maps.has D) (Maps.size D) :=
 ⟨fun l h => h, fun f hf => .inl (by rw [hhas f (fk f) (keyFun f (hok f hf).1 (hok f hf).2.1 (hok f hf).2.2)]; simpa using hf), fun f h => by simp at h, by simp, by simp [hsz]⟩
theorem Coll.step {D : DataW Unit} {ks fs : List Fun} {left : Lit → Bool} {cnt cnt' : Nat} (h : Coll D ks fs left cnt) (hok : ∀ f ∈ ks, okF f) (hhas : ∀ f l, keyOf Tryz.prog 78 (.agg #[.string f.1, .int .i64 f.2]) = some l → Maps.has D l = decide (f ∈ ks)) (x : Fun) (kl : Lit) (hk : keyOf Tryz.prog 78 (.agg #[.string x.1, .int .i64 x.2]) = some kl) (hl : left kl = true) (hc : cnt' < cnt) :
  Coll D ks (fs ++ [x]) (fun z => left z && !z.sameKey kl) cnt' := by
 have hx : x ∈ ks := by
  have h1 := hhas x kl hk; rw [h.sub kl hl] at h1
  simpa using h1.symm
 have hkl : kl = fk x := by
  have := keyFun x (hok x hx).1 (hok x hx).2.1 (hok x hx).2.2; rw [hk] at this; exact Option.some.inj this
 subst hkl; refine ⟨fun l hl' => h.sub l (by simp only [Bool.and_eq_true] at hl'; exact hl'.1), fun f hf => ?_, fun f hf => ?_, ?_, ?_⟩
 ·rcases h.cov f hf with h1 | h1
  ·by_cases e : f = x
   ·right; simp [e]
   ·left
    simp only [h1, Bool.true_and, Bool.not_eq_true']; exact sameKey_ne (fun e' => e (fk_inj (hok f hf) (hok x hx) e'))
  ·right; simp [h1]
 ·rcases List.mem_append.1 hf with h1 | h1
  ·exact ⟨(h.don f h1).1, by simp [(h.don f h1).2]⟩
  ·have e : f = x := by simpa using h1
   rw [e]; exact ⟨hx, by simp [fk_same]⟩
 ·rw [List.pairwise_append]
  refine ⟨h.nd, by simp, fun a ha b hb => ?_⟩
  have e : b = x := by simpa using hb
  rw [e]
  intro e2
  have := (h.don a ha).2; rw [e2, hl] at this
  cases this
 ·have := h.len
  simp; omega
def flatF (fs : List Fun) : List Value := fs.flatMap encF
theorem flatF_snoc (fs : List Fun) (x : Fun) : flatF (fs ++ [x]) = flatF fs ++ [.string x.1, .int .i64 x.2] := by simp [flatF, encF]
theorem flatF_at : ∀ (fs : List Fun) (i : Nat), i < fs.length → (flatF fs)[i * 2]? = some (.string fs[i]!.1) ∧ (flatF fs)[i * 2 + 1]? = some (.int .i64 fs[i]!.2)
 | [], i, h => by simp at h
 | x :: r, 0, _ => by simp [flatF, encF]
 | x :: r, i + 1, h => by
   have h' : i < r.length := by simpa using h
   obtain ⟨h0, h1⟩ := flatF_at r i h'
   have e0 : (i + 1) * 2 = i * 2 + 2 := by omega
   have e : flatF (x :: r) = .string x.1 :: .int .i64 x.2 :: flatF r := by simp [flatF, encF]
   rw [e, e0]; simp only [List.getElem?_cons_succ]; rw [h0, h1]
   simp
theorem infoFun : (Tryz.prog.info? 78).map (fun i => (i.zero, i.size, i.bytes)) = some (some (.agg #[.string ⟨#[]⟩, .int .i64 0]), 2, 24) := by kernel_rfl
theorem news_two (W : World) (a b : Value) (t : TypeId) (n : Nat) (hn : n = W.heap.size) (j : Nat) (u : Value) (h : [a, b][j]? = some u) : (W.alloc (.cells #[a, b] t)).cell? ((⟨n, 0, none⟩ : Addr).add j) = some u := by
 subst hn
 match j, h with
 | 0, h => simp at h; rw [← h]; exact (pair_new W a b t).1
 | 1, h => simp at h; rw [← h]; exact (pair_new W a b t).2
theorem row_kept {W W' : World} {B g n cap : Nat} {xs : List Value} {row : Option Nat} (h : W.ownsRow B 78 2 (.slice (some ⟨g, 0, none⟩) n cap) n xs) (hg : W.grownBy W' row) (hne : some g ≠ row) : W'.ownsRow B 78 2 (.slice (some ⟨g, 0, none⟩) n cap) n xs := by
 refine ⟨h.1, ?_⟩
 rcases h.2 with h' | ⟨g', cap', cur, hv, hB, hg', r⟩
 ·exact .inl h'
 ·simp only [Value.slice.injEq, Option.some.injEq, Addr.mk.injEq, and_true, true_and] at hv
  obtain ⟨rfl, rfl⟩ := hv; exact .inr ⟨_, _, cur, rfl, hB, (hg.block _ (Array.getElem?_eq_some_iff.1 hg').1 hne).trans hg', r⟩
set_option maxHeartbeats 1000000 in
theorem sort_any (b N : Nat) (ks : List Fun) (w : World) (hm : FunMap w b N ks (fun _ => 0)) (hN : N ≤ 100000) (hl : ks.length ≤ 100000) (hnd : ks.Pairwise (· ≠ ·)) :
  Calls Tryz.prog 46 #[.map (some b)] w fun e w' => e = .returned (.tuple #[]) ∧ ∃ rk N', RankOk rk ks ∧ FunMap w' b N' ks rk ∧ w.grownBy w' (some b) := by
 obtain ⟨D, hown, hok, hsz, hhas, hat⟩ := hm
 have HD : Hid ((∀ f ∈ ks, okF f) ∧ (∀ f l, keyOf Tryz.prog 78 (.agg #[.string f.1, .int .i64 f.2]) = some l → Maps.has D l = decide (f ∈ ks)) ∧ (∀ f ∈ ks, D.atKey (fk f) (.lit (.int .i64 0)) = .lit (.int .i64 0))) := ⟨hok, hhas, hat⟩
 have HSZ : Hid (Maps.size D = ks.length) := hsz; have HC0 : Hid (Coll D ks [] (Maps.has D) (Maps.size D)) := Coll.start hok hsz hhas; have hbl := hown.lt; obtain ⟨i0, hi, hz0, hz1, hz2⟩ := info_parts infoFun
 obtain ⟨q, eq⟩ : ∃ q, q = ks.length := ⟨_, rfl⟩
 have hmx : q ≤ maxLen := by unfold maxLen; omega
 have hq : q ≤ 100000 := by omega
 have HQ : Hid (q = ks.length) := eq
 have hsz' : Maps.size D = q := by rw [hsz, eq]
 clear hok hhas hat hsz eq hl
 go_enter Tryz.func46, Tryz.ntmps46
 go_wp2_with (first
  | (at_len; refine wpList_len_own _ rfl _ 105 rfl 78 3 Tryz.underlying105 _ b N D rfl hown ?_; rw [hsz'])
  | (at_make; refine wpList_make_own _ rfl _ _ 152 rfl w.heap.size 78 i0 (.agg #[.string ⟨#[]⟩, .int .i64 0]) 2 Tryz.underlying152 hi hz0 hz1 _ _ _ q rfl rfl rfl (by rw [hz2]; omega) hmx (Nat.le_refl _) ?_; intro w1 hrow1 hgrow1)
  | (at_range; refine wpList_range_own _ rfl _ 105 rfl 78 3 lawFun Tryz.underlying105 _ b N D rfl (hown.kept hgrow1 (by simp)) ?_; intro w2 hrg0 hg0 hs0))
 go_frame
 have hG : w.heap.size < w1.heap.size := (hrow1.lt w.heap.size rfl).2; have HROW2 : Hid (w2.ownsRow w.heap.size 78 2 (.slice (some ⟨w.heap.size, 0, none⟩) 0 q) 0 (flatF [])) := row_below hrow1 ((Below.refl _ _).grown hg0 (Nat.le_refl _) (fun j hj => by cases hj)); have HGR2 : Hid (w.grownBy w2 none) := hgrow1.andThen hg0 (fun j hj => by cases hj)
 obtain ⟨r, er⟩ : ∃ r, r = w1.heap.size := ⟨_, rfl⟩
 rw [← er] at hrg0 hG ⊢; rw [hsz'] at hrg0
 have HC0' : Hid (Coll D ks [] (Maps.has D) q) := by rw [← hsz']; exact HC0.out
 clear hrow1 hgrow1 hg0 hs0 er HC0
 go_loopw [2] (fun s wr => ∃ (left : Lit → Bool) (cnt m : Nat) (fs : List Fun), m + cnt ≤ q ∧ s = .slice (some ⟨w.heap.size, 0, none⟩) m q ∧ Hid (m = fs.length) ∧ wr.ranges Tryz.prog 78 (plainElem Tryz.prog 3) b r N D left cnt ∧ Hid (Coll D ks fs left cnt) ∧
  Hid (wr.ownsRow w.heap.size 78 2 (.slice (some ⟨w.heap.size, 0, none⟩) m q) m (flatF fs)) ∧ Hid (w.grownBy wr none)) (fun _ wr => wr.rangeLeft b r)
 case atStart => exact ⟨Maps.has D, q, 0, [], by omega, rfl, rfl, hrg0, HC0', HROW2, HGR2⟩
 case round =>
  obtain ⟨left, cnt, m, fs, hmc, rfl, HM, hrg, HCO, HROW, HGR⟩ := hrel; go_wp2_with (at_next; refine wpList_next_ranges _ rfl _ rfl 78 lawFun (plainElem Tryz.prog 3) (fun x : Fun => .agg #[.string x.1, .int .i64 x.2]) (fun c : Int => .int .i64 c) keyFun_inv (fun v y h => by obtain ⟨c, hc, _⟩ := plainElem_int_inv Tryz.underlying3 h; exact ⟨c, hc⟩) b r N D left cnt rfl hrg ?_ ?_)
  ·intro hc0 hl0
   have HALL : Hid (∀ f ∈ ks, f ∈ fs) := fun f hf => (HCO.out.cov f hf).resolve_left (by rw [hl0]; simp)
   have hmm : m ≤ q := by omega
   have hrow := HROW.out; have HSORT := sortFuns_any fs w.heap.size q wr (fun i hi => ⟨(hrow.cellAt (i * 2) (by have := HM.out; omega)).trans (flatF_at fs i hi).1, (hrow.cellAt (i * 2 + 1) (by have := HM.out; omega)).trans (flatF_at fs i hi).2⟩) (fun j => hrow.frozenAt j) (hrow.lt w.heap.size rfl).2 (by rw [← HM.out]; omega); rw [← HM.out] at HSORT; have HOWN : Hid (wr.ownsMap Tryz.prog 78 (plainElem Tryz.prog 3) b N D) := hrg.owns; clear hrow hrg hc0 hl0 hrg0; go_wp2_with fail; refine HSORT.mono ?_; rintro e w4 ⟨rfl, ds, hperm, hsrt, hfun4, hg4⟩
   have HM4 : Hid (FunMap w4 b N ks (fun _ => 0)) := ⟨D, HOWN.out.kept hg4 (by simp; omega), HD.out.1, HSZ.out, HD.out.2.1, HD.out.2.2⟩
   have HDS : Hid (m = ds.length) := by rw [HM.out]; exact hperm.length_eq.symm
   have HF4 : Hid (FunsIn w4 w.heap.size ds) := hfun4
   have HIN : Hid (∀ i, i < ds.length → ds[i]! ∈ ks) := fun i hi => (HCO.out.don _ (hperm.mem_iff.1 (by rw [List.getElem!_eq_getElem?_getD, List.getElem?_eq_getElem hi]; exact List.getElem_mem hi))).1
   have hpw : ds.Pairwise (· ≠ ·) := hperm.symm.pairwise HCO.out.nd (fun h => h.symm)
   have HND : Hid (∀ i j, i < j → j < ds.length → ds[i]! ≠ ds[j]!) := fun i j hij hj => by
    have := List.pairwise_iff_getElem.1 hpw i j (by omega) hj hij; rw [List.getElem!_eq_getElem?_getD, List.getElem!_eq_getElem?_getD, List.getElem?_eq_getElem hj, List.getElem?_eq_getElem (by omega)]; exact this
   have HRK : Hid (∀ rk : Fun → Int, (∀ i, i < ds.length → rk ds[i]! = (i : Int)) → RankOk rk ks) := fun rk hrk => rankOk_of (fun f hf => by
    obtain ⟨i, hi, e⟩ := List.mem_iff_getElem.1 (hperm.mem_iff.2 (HALL.out f hf))
    exact ⟨i, hi, by rw [List.getElem!_eq_getElem?_getD, List.getElem?_eq_getElem hi]; exact e⟩) HND.out hsrt hrk
   have HG4 : Hid (w.grownBy w4 (some b)) := (HGR.out.andThen hg4 (fun j hj => by cases hj; exact .inl (Nat.le_refl _))).but _; clear hperm hsrt hfun4 hg4 HSORT hpw; go_wp2_with fail
   go_loopw [23] (fun i wv => ∃ (j N' : Nat) (rk : Fun → Int), j ≤ m ∧ i = .int .i64 j ∧ N' ≤ N + j ∧ Hid (FunMap wv b N' ks rk) ∧ Hid (∀ i, i < j → rk ds[i]! = (i : Int)) ∧ Hid (FunsIn wv w.heap.size ds) ∧ Hid (w.grownBy wv (some b))) (fun i _ => m - (intOf i).toNat)
   case atStart => exact ⟨0, N, _, Nat.zero_le _, rfl, by omega, HM4, fun i h => by omega, HF4, HG4⟩
   case round =>
    obtain ⟨j, N', rk, hj, rfl, hN', HMj, HRj, HFj, HGj⟩ := hrel
    by_cases hlt : j < m
    ·have hjl : j < ds.length := by rw [← HDS.out]; exact hlt
     obtain ⟨d0, d1⟩ := HFj.out j hjl; have hin := HIN.out j hjl
     obtain ⟨x, ex⟩ : ∃ x, x = ds[j]! := ⟨_, rfl⟩
     rw [← ex] at d0 d1 hin; have hox := HD.out.1 x hin; have hk := keyFun x hox.1 hox.2.1 hox.2.2; have hal : Below wr.heap.size wr (wr.alloc (.cells #[.string x.1, .int .i64 x.2] 78)) := (Below.refl _ _).alloc (Nat.le_refl _) _; obtain ⟨D', hD'⟩ := HMj.out.below hal; have hown' := hD'.1
     have HPUT : Hid (∀ wz, wz.ownsMap Tryz.prog 78 (plainElem Tryz.prog 3) b (N' + 1) (D'.put (fk x) (.lit (.int .i64 j))) → FunMap wz b (N' + 1) ks (fun g => if g = x then (j : Int) else rk g)) := fun wz h' => by
      have h1 := FunMap.put ⟨D', hD'⟩ x hox j D' hD' h'
      rwa [putF, if_pos hin] at h1
     have HX : Hid (x = ds[j]!) := ex
     have HFA : Hid (FunsIn (wr.alloc (.cells #[.string x.1, .int .i64 x.2] 78)) w.heap.size ds) := fun i hi => ⟨(hal.cell (World.block_lt_of_cell? _ _ (HFj.out i hi).1)).trans (HFj.out i hi).1, (hal.cell (World.block_lt_of_cell? _ _ (HFj.out i hi).2)).trans (HFj.out i hi).2⟩
     have HGA : Hid (w.grownBy (wr.alloc (.cells #[.string x.1, .int .i64 x.2] 78)) (some b)) := HGj.out.andThen (World.grownBy_alloc _ _ none) (fun j hj => by cases hj); clear hD' hal hin ex hox; obtain ⟨x1, x2⟩ := x; simp only at d0 d1 hk hown' HFA HGA; go_wp2_with (at_mapUpdate; refine wpList_mapUpdate_own _ rfl _ _ _ 105 rfl 78 3 lawFun Tryz.underlying105 _ b N' D' rfl hown' (by unfold maxLen; omega) _ _ _ rfl rfl hk _ [] (plainElem_int Tryz.underlying3 (WalkArith.wf_i64 (by omega))) ?_; intro w6 hown6 hgrow6; go_frame); have HM6 : Hid _ := HPUT.out w6 hown6
     have HF6 : Hid (FunsIn w6 w.heap.size ds) := fun i hi => by
      have hblt : w.heap.size < (wr.alloc (.cells #[.string x1, .int .i64 x2] 78)).heap.size := World.block_lt_of_cell? _ _ (HFA.out i hi).1
      have hc : ∀ o, w6.cell? ⟨w.heap.size, o, none⟩ = (wr.alloc (.cells #[.string x1, .int .i64 x2] 78)).cell? ⟨w.heap.size, o, none⟩ := fun o => World.cell?_of_block (hgrow6.block _ hblt (by simp; omega))
      exact ⟨(hc _).trans (HFA.out i hi).1, (hc _).trans (HFA.out i hi).2⟩
     have HG6 : Hid (w.grownBy w6 (some b)) := HGA.out.andThen hgrow6 (fun j hj => .inr hj)
     have HR6 : Hid (∀ i, i < j + 1 → (if ds[i]! = (x1, x2) then (j : Int) else rk ds[i]!) = (i : Int)) := fun i hi => by
      by_cases e : i = j
      ·rw [e, if_pos HX.out.symm]
      ·rw [if_neg (by rw [HX.out]; exact HND.out i j (by omega) hjl)]
       exact HRj.out i (by omega)
     clear hown6 hgrow6 hown' hk d0 d1; go_wp2_with fail; go_roundw
     case rel => exact ⟨j + 1, N' + 1, _, by omega, by go_num, by omega, HM6, HR6, HF6, HG6⟩
     case measure => simp [intOf]; omega
    ·obtain rfl : j = m := by omega
     have HFIN : Hid (∃ rk N', RankOk rk ks ∧ FunMap wr b N' ks rk ∧ w.grownBy wr (some b)) := ⟨rk, N', HRK.out rk (by rw [← HDS.out]; exact HRj.out), HMj.out, HGj.out⟩
     go_wp2_with fail
     go_end0
     exact ⟨rfl, HFIN.out⟩
  ·intro x1 x2 c kl y1 y2 w3 cnt1 hkx hlx hvx hatx hrg1 hlt hg1 hs1 hen
   have HCO2 : Hid (Coll D ks (fs ++ [(x1, x2)]) (fun z => left z && !z.sameKey kl) cnt1) := HCO.out.step HD.out.1 HD.out.2.1 (x1, x2) kl hkx hlx hlt; have hrow3 := row_kept HROW.out hg1 (by simp; omega); have hrow5 := row_kept (row_kept hrow3 (World.grownBy_alloc w3 (.cells #[.string x1, .int .i64 x2] 78) none) (by simp)) (World.grownBy_alloc (w3.alloc (.cells #[.string x1, .int .i64 x2] 78)) (.cells #[.string x1, .int .i64 x2] 78) none) (by simp); have hrg5 := (hrg1.alloc (.cells #[.string x1, .int .i64 x2] 78)).alloc (.cells #[.string x1, .int .i64 x2] 78); have HG5 : Hid (w.grownBy ((w3.alloc (.cells #[.string x1, .int .i64 x2] 78)).alloc (.cells #[.string x1, .int .i64 x2] 78)) none) := ((HGR.out.andThen hg1 (fun j hj => by cases hj; left; omega)).andThen (World.grownBy_alloc w3 _ none) (fun j hj => by cases hj)).andThen (World.grownBy_alloc _ _ none) (fun j hj => by cases hj)
   clear hrow3 hvx hatx; go_wp2_with (at_builtin; refine wpList_append_fits _ rfl _ _ 152 rfl w.heap.size 78 i0 2 Tryz.underlying152 hi hz1 w.heap.size m q (flatF fs) rfl hrow5 ⟨wr.heap.size + 1, 0, none⟩ 1 1 [.string x1, .int .i64 x2] rfl rfl (fun j u hu => news_two (w3.alloc (.cells #[.string x1, .int .i64 x2] 78)) _ _ _ _ (by simp [hs1]) j u hu) (fun u hu => by simp at hu; rcases hu with rfl | rfl <;> rfl) (by omega) ?_; intro w6 hrow6 hg6); have hrg6 := hrg5.kept hg6 (by simp; omega) (by simp; omega)
   have HROW6 : Hid (w6.ownsRow w.heap.size 78 2 (.slice (some ⟨w.heap.size, 0, none⟩) (m + 1) q) (m + 1) (flatF (fs ++ [(x1, x2)]))) := by rw [flatF_snoc]; exact hrow6
   have HM6 : Hid (m + 1 = (fs ++ [(x1, x2)]).length) := by show _ = _; simp [HM.out]
   have HG6 : Hid (w.grownBy w6 none) := HG5.out.andThen hg6 (fun j hj => by cases hj; exact .inl (Nat.le_refl _)); clear hrow5 hrow6 hg6 hrg5; go_wp2_with fail; go_roundw
   case rel => exact ⟨_, cnt1, m + 1, _, by omega, rfl, HM6, hrg6, HCO2, HROW6, HG6⟩
   case measure => rw [hrg6.left_eq, hrg.left_eq]; exact hlt
end
section
open Go Go.RowKit Go.Maps Go.Sort
structure BelG (w w' : World) : Prop where
 bel : Below w.heap.size w w'
 drw : w.drawn ≤ w'.drawn
theorem BelG.refl (w : World) : BelG w w := ⟨Below.refl _ _, Nat.le_refl _⟩
theorem BelG.on {w w1 w2 : World} (a : BelG w w1) (b : BelG w1 w2) : BelG w w2 := ⟨Below.on a.bel b.bel, Nat.le_trans a.drw b.drw⟩
theorem BelG.alloc {w w1 : World} (a : BelG w w1) (x : Obj) : BelG w (w1.alloc x) := ⟨a.bel.alloc a.bel.size _, a.drw⟩
theorem BelG.drew {w w1 : World} (a : BelG w w1) : BelG w w1.drew := ⟨a.bel.drew, Nat.le_succ_of_le a.drw⟩
theorem BelG.grown {w w' : World} (h : BelG w w') : ∃ q os, w' = grow (w.drewN q) os := by
 obtain ⟨⟨h1, h2, h3, h4, h5⟩, h6⟩ := h; refine ⟨w'.drawn - w.drawn, w'.heap.extract w.heap.size w'.heap.size, ?_⟩
 have hh : w'.heap = w.heap ++ w'.heap.extract w.heap.size w'.heap.size := by
  apply Array.ext_getElem?
  intro i
  by_cases hi : i < w.heap.size
  ·rw [h5 i hi, Array.getElem?_append_left hi]
  ·rw [Array.getElem?_append_right (by omega)]
   by_cases hj : i < w'.heap.size
   ·rw [Array.getElem?_extract]
    simp only [Nat.min_self]; rw [if_pos (by omega), show w.heap.size + (i - w.heap.size) = i by omega]
   ·rw [Array.getElem?_eq_none (by omega), Array.getElem?_eq_none (by simp; omega)]
 cases w'
 cases w
 simp only [grow, World.drewN] at *; subst h1 h2 h3; simp only [World.mk.injEq, and_true, true_and]; exact ⟨hh, by omega⟩
structure CK (w0 w : World) : Prop where
 cell : ∀ {p v}, w0.cell? p = some v → w.cell? p = some v
 size : w0.heap.size ≤ w.heap.size
theorem CK.on {w0 w w' : World} (h : CK w0 w) (hb : BelG w w') : CK w0 w' := ⟨fun hp => (hb.bel.cell (World.block_lt_of_cell? _ _ (h.cell hp))).trans (h.cell hp), Nat.le_trans h.size hb.bel.size⟩
theorem CK.below {w0 w w' : World} (h : CK w0 w) (hb : Below w.heap.size w w') : CK w0 w' := ⟨fun hp => (hb.cell (World.block_lt_of_cell? _ _ (h.cell hp))).trans (h.cell hp), Nat.le_trans h.size hb.size⟩
theorem FunMap.belG {w w' : World} {b N : Nat} {ks : List Fun} {rk : Fun → Int} (h : FunMap w b N ks rk) (hb : BelG w w') : FunMap w' b N ks rk := h.below hb.bel
theorem atomFunG_any (s : ByteArray) (w : World) : Calls Tryz.prog 117 #[.string s] w fun e w' => e = .returned (.agg #[.string s, .int .i64 0]) ∧ BelG w w' := by
 go_enter Tryz.func117, Tryz.ntmps117
 go_wp2_with fail; exact bodyPost_ret (v := .agg #[.string s, .int .i64 0]) (by simp [results, Tryz.results117, go_sem]) rfl ⟨rfl, (BelG.refl _).alloc _⟩
theorem functorG_any (b g q : Nat) (str : ByteArray) (w : World) (h0 : w.cell? ⟨b, 0, none⟩ = some (.string str)) (h1 : w.cell? ⟨b, 1, none⟩ = some (.slice (some ⟨g, 0, none⟩) q q)) :
  Calls Tryz.prog 105 #[.pointer (some ⟨b, 0, none⟩)] w fun e w' => e = .returned (.agg #[.string str, .int .i64 q]) ∧ BelG w w' := by
 have a0 : ∀ x, (w.alloc x).cell? ⟨b, 0, none⟩ = some (.string str) := fun x => Lib.cell?_alloc_marked x h0
 have a1 : ∀ x, (w.alloc x).cell? ⟨b, 1, none⟩ = some (.slice (some ⟨g, 0, none⟩) q q) := fun x => Lib.cell?_alloc_marked x h1
 go_enter Tryz.func105, Tryz.ntmps105
 go_wp2_with fail
 go_region
 all_goals go_wp2_with fail
 all_goals exact bodyPost_ret (v := .agg #[.string str, .int .i64 q]) (by simp [results, Tryz.results105, go_sem]) rfl ⟨rfl, ((BelG.refl _).alloc _).drew⟩
def PlaceOutG (w : World) (k v : Int) (e : Ending) (w' : World) : Prop := e = .returned (.tuple #[.int .i64 k, .int .i64 v]) ∧ BelG w w'
theorem placeVarG_any (x : Int) (b : Nat) (w : World) : Calls Tryz.prog 120 #[.map (some b), .iface 82 (.int .i64 x)] w (PlaceOutG w 0 x) := by
 have a1 := isVar
 have HF : Hid (PlaceOutG w 0 x (.returned (.tuple #[.int .i64 0, .int .i64 x])) w) := ⟨rfl, BelG.refl _⟩
 go_enter Tryz.func120, Tryz.ntmps120
 go_wp2_with fail
 go_ret2
 exact HF.out
theorem placeNumG_any (x : Int) (b : Nat) (w : World) : Calls Tryz.prog 120 #[.map (some b), .iface 150 (.int .i64 x)] w (PlaceOutG w 1 x) := by
 have a1 := noVar_num; have a2 := isNum
 have HF : Hid (PlaceOutG w 1 x (.returned (.tuple #[.int .i64 1, .int .i64 x])) w) := ⟨rfl, BelG.refl _⟩
 go_enter Tryz.func120, Tryz.ntmps120
 go_wp2_with fail
 go_ret2
 exact HF.out
theorem placeAtomG_any (str : ByteArray) (b N : Nat) (ks : List Fun) (rk : Fun → Int) (w : World) (hm : FunMap w b N ks rk) (hf : (str, (0 : Int)) ∈ ks) : Calls Tryz.prog 120 #[.map (some b), .iface 94 (.string str)] w (PlaceOutG w 2 (rk (str, 0))) := by
 have a1 := noVar_atom; have a2 := noNum_atom; have a3 := isAtom
 have HA := fun W => atomFunG_any str W
 have HL : Hid (∀ W, Below w.heap.size w W → (Instr.lookup 105 (.map (some b)) (.agg #[.string str, .int .i64 0]) false).run Tryz.prog W = .ok (.int .i64 (rk (str, 0))) W) := fun W hW => (hm.below hW).look (str, 0) hf
 generalize rk (str, 0) = r at *
 clear hm hf
 go_enter Tryz.func120, Tryz.ntmps120
 go_wp2_with fail
 go_region_held3 (fun _ => True) (trivial)
  ((go_at_call 117; refine (HA _).mono ?_; rintro e w1 ⟨rfl, hg1⟩; have hb1 := hg1.bel; have hl := HL.out w1 (by first | exact hb1 | exact (Below.refl _ w).drew.trans hb1); have hl2 := HL.out w1.drew (by first | exact hb1.drew | exact ((Below.refl _ w).drew.trans hb1).drew)))
 all_goals go_wp2_with fail
 go_ret2
 exact ⟨rfl, (BelG.refl w).drew.on hg1⟩
theorem placeCompG_any (cb g q : Nat) (str : ByteArray) (b N : Nat) (ks : List Fun) (rk : Fun → Int) (w : World) (h0 : w.cell? ⟨cb, 0, none⟩ = some (.string str)) (h1 : w.cell? ⟨cb, 1, none⟩ = some (.slice (some ⟨g, 0, none⟩) q q)) (hm : FunMap w b N ks rk) (hf : (str, (q : Int)) ∈ ks) :
  Calls Tryz.prog 120 #[.map (some b), .iface 139 (.pointer (some ⟨cb, 0, none⟩))] w (PlaceOutG w 3 (rk (str, q))) := by
 have a1 := noVar_comp; have a2 := noNum_comp; have a3 := noAtom_comp; have a4 := isComp
 have HA : ∀ W, Below w.heap.size w W → Calls Tryz.prog 105 #[.pointer (some ⟨cb, 0, none⟩)] W fun e w' => e = .returned (.agg #[.string str, .int .i64 q]) ∧ BelG W w' := fun W hW => functorG_any cb g q str W ((hW.cell (World.block_lt_of_cell? _ _ h0)).trans h0) ((hW.cell (World.block_lt_of_cell? _ _ h1)).trans h1)
 have HL : Hid (∀ W, Below w.heap.size w W → (Instr.lookup 105 (.map (some b)) (.agg #[.string str, .int .i64 q]) false).run Tryz.prog W = .ok (.int .i64 (rk (str, q))) W) := fun W hW => (hm.below hW).look (str, q) hf
 generalize rk (str, q) = r at *
 clear hm hf h0 h1
 go_enter Tryz.func120, Tryz.ntmps120
 go_wp2_with fail
 go_region_held3 (fun _ => True) (trivial)
  ((go_at_call 105; refine (HA _ (by first | exact Below.refl _ _ | exact (Below.refl _ w).drew)).mono ?_; rintro e w1 ⟨rfl, hg1⟩; have hb1 := hg1.bel; have hl := HL.out w1 (by first | exact hb1 | exact (Below.refl _ w).drew.trans hb1); have hl2 := HL.out w1.drew (by first | exact hb1.drew | exact ((Below.refl _ w).drew.trans hb1).drew)))
 all_goals go_wp2_with fail
 go_ret2
 exact ⟨rfl, (BelG.refl w).drew.on hg1⟩
theorem placeG_any (c : Cel) (k : Fo) (v : Value) (Bt b N : Nat) (ks : List Fun) (rk : Fun → Int) (w0 w : World) (hok : (Fo.node c k .nil).ok) (hw : CK w0 w) (hm : FunMap w b N ks rk) (hf : c.1 = 2 ∨ c.1 = 3 → (strOfNums c.2.2, c.2.1) ∈ ks) (hn : NodeIn w0 Bt c (fun kv => FoIn w0 Bt k kv) v) :
  Calls Tryz.prog 120 #[.map (some b), v] w (PlaceOutG w c.1 (rankOf rk c)) := by
 rcases hn with ⟨h0, rfl⟩ | ⟨h0, rfl⟩ | ⟨h0, rfl⟩ | ⟨h0, cb, g, vs, rfl, _, _, c0, c1, _, _, hk⟩
 ·rw [rankOf, if_neg (by rw [h0]; decide), h0]
  exact placeVarG_any _ b w
 ·rw [rankOf, if_neg (by rw [h0]; decide), h0]
  exact placeNumG_any _ b w
 ·have hc1 : c.2.1 = 0 := by have := hok.1; rw [h0] at this; simp [cellB] at this; exact this.2
  have hf' := hf (.inl h0); rw [hc1] at hf'; rw [rankOf, if_pos (.inl h0), h0, hc1]; exact placeAtomG_any _ b N ks rk w hm hf'
 ·have hc1 : c.2.1 = (vs.length : Int) := by rw [FoIn.count _ _ hk]; exact hok.2.2.1 h0
  have hf' := hf (.inr h0); rw [hc1] at hf'; rw [rankOf, if_pos (.inr h0), h0, hc1]; exact placeCompG_any cb g vs.length _ b N ks rk w (hw.cell c0) (hw.cell c1) hm hf'
def CmpOutG (w : World) (r : Int) (e : Ending) (w' : World) : Prop := e = .returned (.int .i64 r) ∧ BelG w w'
def CmpOkG (w0 : World) (Bt b N : Nat) (ks : List Fun) (rk : Fun → Int) (n : Nat) : Prop := ∀ (c : Cel) (k : Fo) (v : Value) (c' : Cel) (k' : Fo) (v' : Value) (w : World), k.cells.length + 1 ≤ n → (Fo.node c k .nil).ok → (Fo.node c' k' .nil).ok → FoIn w0 Bt (.node c k .nil) [v] → FoIn w0 Bt (.node c' k' .nil) [v'] →
 NamesIn ks (c :: k.cells) → NamesIn ks (c' :: k'.cells) → CK w0 w → FunMap w b N ks rk → Calls Tryz.prog 47 #[.map (some b), v, v'] w (CmpOutG w (orI (cmpN rk c c') (cmpFo rk k k')))
set_option maxHeartbeats 1000000 in
theorem compareFuncG_any (w0 : World) (Bt b N : Nat) (ks : List Fun) (rk : Fun → Int) (n : Nat) (hcmp : CmpOkG w0 Bt b N ks rk n) (K K' : Fo) (vs vs' : List Value) (p p' : Option Addr) (q q' c1 c2 : Nat) (w : World) (hq : q = vs.length) (hq' : q' = vs'.length) (hqb : q ≤ 100000) (hqb' : q' ≤ 100000)
  (hK : K.cells.length ≤ n) (hok : K.ok) (hok' : K'.ok) (hfo : FoIn w0 Bt K vs) (hfo' : FoIn w0 Bt K' vs') (ha : ArgIn w0 p vs) (ha' : ArgIn w0 p' vs') (hns : NamesIn ks K.cells) (hns' : NamesIn ks K'.cells) (hw : CK w0 w) (hm : FunMap w b N ks rk) :
  Calls Tryz.prog 123 #[.slice p q c1, .slice p' q' c2, .func (.func 47) #[.map (some b)] #[]] w (CmpOutG w (cmpFo rk K K')) := by
 have HC : Hid (CmpOkG w0 Bt b N ks rk n) := hcmp
 have HQ : Hid (q = vs.length ∧ q' = vs'.length) := ⟨hq, hq'⟩
 have HOK : Hid (K.ok ∧ K'.ok ∧ K.cells.length ≤ n) := ⟨hok, hok', hK⟩
 have HFO : Hid (FoIn w0 Bt K vs ∧ FoIn w0 Bt K' vs') := ⟨hfo, hfo'⟩
 have HA : Hid (ArgIn w0 p vs ∧ ArgIn w0 p' vs') := ⟨ha, ha'⟩
 have HNS : Hid (NamesIn ks K.cells ∧ NamesIn ks K'.cells) := ⟨hns, hns'⟩
 have HW : Hid (CK w0 w) := hw; have HM : Hid (FunMap w b N ks rk) := hm; clear hcmp hq hq' hok hok' hK hfo hfo' ha ha' hns hns' hw hm
 go_enter Tryz.func123, Tryz.ntmps123
 go_wp2_with fail
 go_loopw [13] (fun i wr => ∃ (D R D' R' : Fo) (us vr us' vr' : List Value) (j : Nat), j ≤ q ∧ i = .int .i64 j ∧ Hid (K = D.cat R ∧ vs = us ++ vr ∧ us.length = j) ∧ Hid (K' = D'.cat R' ∧ vs' = us' ++ vr' ∧ us'.length = j) ∧ Hid (FoIn w0 Bt R vr ∧ FoIn w0 Bt R' vr') ∧ Hid (cmpFo rk K K' = cmpFo rk R R') ∧ Hid (BelG w wr)) (fun i _ => q - (intOf i).toNat)
 case atStart => exact ⟨.nil, K, .nil, K', [], vs, [], vs', 0, Nat.zero_le _, rfl, ⟨rfl, rfl, rfl⟩, ⟨rfl, rfl, rfl⟩, HFO, rfl, BelG.refl _⟩
 case round =>
  obtain ⟨D, R, D', R', us, vr, us', vr', j, hj, rfl, HF, HF', HR, HE, HB⟩ := hrel
  by_cases hlt : j < q
  ·obtain ⟨c, k, r, rfl⟩ : ∃ c k r, R = .node c k r := by
    cases R with
    | nil =>
      have h1 := HF.out; have h2 : vr = [] := HR.out.1; have h3 := HQ.out.1; rw [h1.2.1, h2, List.append_nil] at h3
      omega
    | node c k r => exact ⟨c, k, r, rfl⟩
   obtain ⟨v, vt, rfl, hnode, hrest⟩ := HR.out.1; obtain ⟨g, rfl, hg⟩ := HA.out.1 j (by rw [← HQ.out.1]; exact hlt)
   have hat : w0.cell? ⟨g, j, none⟩ = some v := by rw [hg, HF.out.2.1]; simp [List.getD, HF.out.2.2]
   have hwr : CK w0 wr := HW.out.on HB.out; have d1 : wr.cell? ⟨g, j, none⟩ = some v := hwr.cell hat
   by_cases hlt' : j < q'
   ·obtain ⟨c', k', r', rfl⟩ : ∃ c k r, R' = .node c k r := by
     cases R' with
     | nil =>
       have h1 := HF'.out; have h2 : vr' = [] := HR.out.2; have h3 := HQ.out.2; rw [h1.2.1, h2, List.append_nil] at h3
       omega
     | node c k r => exact ⟨c, k, r, rfl⟩
    obtain ⟨v', vt', rfl, hnode', hrest'⟩ := HR.out.2; obtain ⟨g', rfl, hg'⟩ := HA.out.2 j (by rw [← HQ.out.2]; exact hlt')
    have hat' : w0.cell? ⟨g', j, none⟩ = some v' := by rw [hg', HF'.out.2.1]; simp [List.getD, HF'.out.2.2]
    have d1' : wr.cell? ⟨g', j, none⟩ = some v' := hwr.cell hat'; have ho := (Fo.ok_cat D (.node c k r)).1 (HF.out.1 ▸ HOK.out.1); have ho' := (Fo.ok_cat D' (.node c' k' r')).1 (HF'.out.1 ▸ HOK.out.2.1)
    have hl : k.cells.length + 1 ≤ n := by
     have := HOK.out.2.2; rw [HF.out.1, Fo.cells_cat] at this; simp [Fo.cells] at this; omega
    have hsub : NamesIn ks (c :: k.cells) := HNS.out.1.sub fun x hx => by
     rw [HF.out.1, Fo.cells_cat]; simp only [Fo.cells, List.mem_append, List.mem_cons] at hx ⊢; rcases hx with h | h <;> simp [h]
    have hsub' : NamesIn ks (c' :: k'.cells) := HNS.out.2.sub fun x hx => by
     rw [HF'.out.1, Fo.cells_cat]; simp only [Fo.cells, List.mem_append, List.mem_cons] at hx ⊢; rcases hx with h | h <;> simp [h]
    have HCALL := HC.out c k v c' k' v' wr hl ⟨ho.2.1, ho.2.2.1, ho.2.2.2.1, ho.2.2.2.2.1, ho.2.2.2.2.2.1, trivial⟩ ⟨ho'.2.1, ho'.2.2.1, ho'.2.2.2.1, ho'.2.2.2.2.1, ho'.2.2.2.2.2.1, trivial⟩ ⟨v, [], rfl, hnode, rfl⟩ ⟨v', [], rfl, hnode', rfl⟩ hsub hsub' hwr (HM.out.belG HB.out); obtain ⟨t1, x1, rfl⟩ := hnode.iface; obtain ⟨t2, x2, rfl⟩ := hnode'.iface
    obtain ⟨cc, ecc⟩ : ∃ cc, cc = orI (cmpN rk c c') (cmpFo rk k k') := ⟨_, rfl⟩
    have HEE : Hid (cmpFo rk K K' = orI cc (cmpFo rk r r')) := by show _ = _; rw [HE.out, cmpFo, ecc]
    have HRR : Hid (FoIn w0 Bt r vt ∧ FoIn w0 Bt r' vt') := ⟨hrest, hrest'⟩
    rw [← ecc] at HCALL; clear ho ho' hl hsub hsub' hat hat' hg hg' hwr hnode hnode' hrest hrest' ecc; go_wp2_with fail; refine HCALL.mono ?_; rintro e w2 ⟨rfl, hb2⟩; have HB2 : Hid (BelG w w2) := BelG.on HB.out hb2; clear hb2 HCALL
    by_cases hz : cc = 0
    ·subst hz
     have HN : Hid (K = (D.cat (.node c k .nil)).cat r ∧ vs = (us ++ [.iface t1 x1]) ++ vt ∧ (us ++ [Value.iface t1 x1]).length = j + 1) := ⟨by rw [Fo.cat_assoc]; exact HF.out.1, by rw [HF.out.2.1]; simp, by simp [HF.out.2.2]⟩
     have HN' : Hid (K' = (D'.cat (.node c' k' .nil)).cat r' ∧ vs' = (us' ++ [.iface t2 x2]) ++ vt' ∧ (us' ++ [Value.iface t2 x2]).length = j + 1) := ⟨by rw [Fo.cat_assoc]; exact HF'.out.1, by rw [HF'.out.2.1]; simp, by simp [HF'.out.2.2]⟩
     go_wp2_with fail; go_roundw
     case rel => exact ⟨_, r, _, r', _, vt, _, vt', j + 1, by omega, by go_num, HN, HN', HRR, by show _ = _; rw [HEE.out, orI, if_neg (by simp)], HB2⟩
     case measure => simp [intOf]; omega
    ·have HFIN : Hid (CmpOutG w (cmpFo rk K K') (.returned (.int .i64 cc)) w2) := ⟨ret_int (by rw [HEE.out, orI, if_pos hz]), HB2.out⟩
     go_wp2_with fail; go_ret; exact HFIN.out
   ·obtain rfl : R' = .nil := by
     have h1 := FoIn.count _ _ HR.out.2; have h2 := HQ.out.2; rw [HF'.out.2.1, List.length_append] at h2; have h3 := HF'.out.2.2
     cases R' with
     | nil => rfl
     | node a b d => simp [Fo.count] at h1; omega
    have hge : (q' : Int) ≤ (j : Int) := by omega
    obtain ⟨t1, x1, rfl⟩ := hnode.iface
    have HFIN : Hid (CmpOutG w (cmpFo rk K K') (.returned (.int .i64 1)) wr) := ⟨ret_int (by rw [HE.out, cmpFo]), HB.out⟩
    clear hat hg hwr hnode hrest; go_wp2_with fail; go_ret; exact HFIN.out
  ·obtain rfl : j = q := by omega
   obtain rfl : R = .nil := by
    have h1 := FoIn.count _ _ HR.out.1; have h2 := HQ.out.1; rw [HF.out.2.1, List.length_append] at h2; have h3 := HF.out.2.2
    cases R with
    | nil => rfl
    | node a b d => simp [Fo.count] at h1; omega
   have hcnt : q' = j + R'.count := by
    have h1 := FoIn.count _ _ HR.out.2; have h2 := HQ.out.2; rw [HF'.out.2.1, List.length_append, HF'.out.2.2, h1] at h2; exact h2
   cases R' with
   | nil =>
     have hqq : q' = j := by simpa [Fo.count] using hcnt
     clear hcnt; subst hqq
     have HFIN : Hid (CmpOutG w (cmpFo rk K K') (.returned (.int .i64 0)) wr) := ⟨ret_int (by rw [HE.out, cmpFo]), HB.out⟩
     go_wp2_with fail; go_ret; exact HFIN.out
   | node a b' d =>
     have hlt2 : (j : Int) < (q' : Int) := by simp [Fo.count] at hcnt; omega
     have HFIN : Hid (CmpOutG w (cmpFo rk K K') (.returned (.int .i64 (-1))) wr) := ⟨ret_int (by rw [HE.out, cmpFo]), HB.out⟩
     clear hcnt; go_wp2_with fail; go_ret; exact HFIN.out
theorem argsG_any (c : Cel) (k : Fo) (v : Value) (Bt : Nat) (w0 w : World) (hok : (Fo.node c k .nil).ok) (hn : NodeIn w0 Bt c (fun kv => FoIn w0 Bt k kv) v) (hw : CK w0 w) :
  ∃ (p : Option Addr) (vs : List Value), FoIn w0 Bt k vs ∧ ArgIn w0 p vs ∧ ∀ W, BelG w W → Calls Tryz.prog 116 #[v] W fun e w' => e = .returned (.slice p vs.length vs.length) ∧ w' = W := by
 have leaf : ∀ (t : TypeId) (x : Value), v = .iface t x → (t = 82 ∨ t = 150 ∨ t = 94) → c.1 ≠ 3 → ∃ (p : Option Addr) (vs : List Value), FoIn w0 Bt k vs ∧ ArgIn w0 p vs ∧ ∀ W, BelG w W → Calls Tryz.prog 116 #[v] W fun e w' => e = .returned (.slice p vs.length vs.length) ∧ w' = W := fun t x hv ht h3 => by
  have hk : k = .nil := hok.2.2.2.1 h3; subst hk hv; exact ⟨none, [], rfl, fun j h => by simp at h, fun W _ => argsLeaf_any t x W ht⟩
 rcases hn with ⟨h0, hv⟩ | ⟨h0, hv⟩ | ⟨h0, hv⟩ | ⟨h0, b, g, vs, hv, _, _, c0, c1, _, cg, hk⟩
 ·exact leaf _ _ hv (.inl rfl) (by rw [h0]; decide)
 ·exact leaf _ _ hv (.inr (.inl rfl)) (by rw [h0]; decide)
 ·exact leaf _ _ hv (.inr (.inr rfl)) (by rw [h0]; decide)
 ·subst hv
  exact ⟨some ⟨g, 0, none⟩, vs, hk, fun j hj => ⟨g, rfl, cg j hj⟩, fun W hW => argsComp_any b g vs.length W ((hw.on hW).cell c1)⟩
set_option maxHeartbeats 1000000 in
theorem compareG_step (w0 : World) (Bt b N : Nat) (ks : List Fun) (rk : Fun → Int) (n : Nat) (hcmp : CmpOkG w0 Bt b N ks rk n) (hn : n ≤ 100000) : CmpOkG w0 Bt b N ks rk (n + 1) := by
 intro c k v c' k' v' w hl hok hok' hfo hfo' hns hns' hw hm
 obtain ⟨_, _, e, hnode, _⟩ := hfo; obtain ⟨rfl, rfl⟩ := List.cons.inj e; obtain ⟨_, _, e', hnode', _⟩ := hfo'; obtain ⟨rfl, rfl⟩ := List.cons.inj e'; clear e e'; have HP1 := placeG_any c k v Bt b N ks rk w0 w hok hw hm (hns c (by simp)) hnode
 have HP2 : Hid (∀ W, BelG w W → Calls Tryz.prog 120 #[.map (some b), v'] W (PlaceOutG W c'.1 (rankOf rk c'))) := fun W hW => placeG_any c' k' v' Bt b N ks rk w0 W hok' (hw.on hW) (hm.belG hW) (hns' c' (by simp)) hnode'
 obtain ⟨p1, vs, hfk, hak, HA1⟩ := argsG_any c k v Bt w0 w hok hnode hw; obtain ⟨p2, vs', hfk', hak', HA2⟩ := argsG_any c' k' v' Bt w0 w hok' hnode' hw; have hc1 := count_ok hok; have hc2 := count_ok hok'
 have HCF : Hid (∀ W, BelG w W → Calls Tryz.prog 123 #[.slice p1 vs.length vs.length, .slice p2 vs'.length vs'.length, .func (.func 47) #[.map (some b)] #[]] W (CmpOutG W (cmpFo rk k k'))) := fun W hW =>
  compareFuncG_any w0 Bt b N ks rk n hcmp k k' vs vs' p1 p2 vs.length vs'.length vs.length vs'.length W rfl rfl (by rw [FoIn.count _ _ hfk]; exact hc1) (by rw [FoIn.count _ _ hfk']; exact hc2) (by omega) hok.2.2.2.2.1 hok'.2.2.2.2.1 hfk hfk' hak hak' (hns.sub fun x hx => by simp [hx]) (hns'.sub fun x hx => by simp [hx]) (hw.on hW) (hm.belG hW)
 have HI1 := fun W => compareI_any c.1 c'.1 W
 have HI2 := fun W => compareI_any (rankOf rk c) (rankOf rk c') W
 have hO : ∀ (b : Nat) (W : World), W.cell? ⟨b, 0, none⟩ = some (.int .i64 (cmpI c.1 c'.1)) → W.cell? ⟨b, 1, none⟩ = some (.int .i64 (cmpI (rankOf rk c) (rankOf rk c'))) → Calls Tryz.prog 121 #[.slice (some ⟨b, 0, none⟩) 2 2] W fun e w' => e = .returned (.int .i64 (cmpN rk c c')) ∧ w' = W := fun b W h0 h1 => or_any b _ _ W h0 h1
 have HO : Hid _ := hO; have HA1' : Hid _ := HA1; have HA2' : Hid _ := HA2; have HI1' : Hid _ := HI1; have HI2' : Hid _ := HI2
 have HR : Hid (∀ cn, cn = cmpN rk c c' → (cn ≠ 0 → cn = orI (cmpN rk c c') (cmpFo rk k k')) ∧ (cn = 0 → cmpFo rk k k' = orI (cmpN rk c c') (cmpFo rk k k'))) := fun cn h => ⟨fun h1 => by rw [← h, orI, if_pos h1], fun h1 => by rw [← h, orI, if_neg (by simp [h1])]⟩
 obtain ⟨t1, x1, rfl⟩ := hnode.iface; obtain ⟨t2, x2, rfl⟩ := hnode'.iface
 generalize hcn : cmpN rk c c' = cn at *
 generalize hrr : orI cn (cmpFo rk k k') = rr at *
 clear hO HA1 HA2 HI1 HI2 hnode hnode' hfk hfk' hak hak' hns hns' hok hok' hm hcmp hl hc1 hc2
 generalize cmpI c.1 c'.1 = ci at *
 generalize cmpI (rankOf rk c) (rankOf rk c') = cj at *
 generalize rankOf rk c = r1 at *
 generalize rankOf rk c' = r2 at *
 generalize c.1 = k1 at *
 generalize c'.1 = k2 at *
 generalize cmpFo rk k k' = cf at *
 generalize vs.length = q1 at *
 generalize vs'.length = q2 at *
 go_enter Tryz.func47, Tryz.ntmps47
 go_wp2_with fail; clear hcn hrr; refine HP1.mono ?_; rintro e w1 ⟨rfl, hb1⟩; have HB1 : Hid (BelG w w1) := hb1; clear hb1 HP1; go_wp2_with fail; refine (HP2.out w1 HB1.out).mono ?_; rintro e w2 ⟨rfl, hb2⟩; have HB2 : Hid (BelG w w2) := BelG.on HB1.out hb2; clear hb2; go_wp2_with fail; refine (HI1'.out w2).mono ?_; rintro e w2 ⟨rfl, rfl⟩; go_wp2_with fail; refine (HI2'.out w2).mono ?_; rintro e w2 ⟨rfl, rfl⟩; go_wp2_with fail; refine (HO.out _ _ (by exact (pair_new w2 _ _ _).1) (by exact (pair_new w2 _ _ _).2)).mono ?_; rintro e w3 ⟨rfl, rfl⟩; have HB3 : Hid (BelG w (w2.alloc (.cells #[.int .i64 ci, .int .i64 cj] 3))) := HB2.out.alloc _
 generalize w2.alloc (.cells #[.int .i64 ci, .int .i64 cj] 3) = w3 at *
 by_cases hz : cn = 0
 ·have HRR : Hid (cf = rr) := (HR.out cn rfl).2 hz
  subst hz; go_wp2_with fail; refine (HA1'.out w3 HB3.out).mono ?_; rintro e w3 ⟨rfl, rfl⟩; go_wp2_with fail; refine (HA2'.out w3 HB3.out).mono ?_; rintro e w3 ⟨rfl, rfl⟩; go_wp2_with fail; refine (HCF.out w3 HB3.out).mono ?_; rintro e w4 ⟨rfl, hb4⟩
  have HFIN : Hid (CmpOutG w rr (.returned (.int .i64 cf)) w4) := ⟨ret_int HRR.out, BelG.on HB3.out hb4⟩
  clear hb4; go_wp2_with fail; go_ret; exact HFIN.out
 ·have HFIN : Hid (CmpOutG w rr (.returned (.int .i64 cn)) w3) := ⟨ret_int ((HR.out cn rfl).1 hz), HB3.out⟩
  go_wp2_with fail; go_ret; exact HFIN.out
theorem compareG_any (w0 : World) (Bt b N : Nat) (ks : List Fun) (rk : Fun → Int) : ∀ n, n ≤ 100000 → CmpOkG w0 Bt b N ks rk n
 | 0, _ => fun c k v c' k' v' w hl => by omega
 | n + 1, h => compareG_step w0 Bt b N ks rk n (compareG_any w0 Bt b N ks rk n (by omega)) (by omega)
end
end Go.Proofs.YtdmmchoicngblaaGreatDoor
