/- Texts of Tree3, Tree4, Tree5, Num, TermG, FunG. Own work of the verifier. -/
import Derived.Test.YtickbkcpcgmlmaaGreatDoorUqab
import Derived.Deep.RegionLaw
import Derived.Deep.Cut
import Derived.Maps.OwnSet
import Derived.Maps.OwnOps
namespace Go.Proofs.YtickbkcpcgmlmaaGreatDoor
set_option linter.unusedVariables false
set_option maxRecDepth 100000
section
open Go Go.RowKit
theorem flat_one (r : RC) : flat [r] = rcV r := by simp [flat]
theorem ownC_grew {W0 w w' : World} {B g n cap cp : Nat} {p : Option Addr} {cs : List Cel} {rs : List RC} (hn : n = cs.length) (hl : rs.length = cs.length) (hr0 : W0.ownsRow B 52 3 (.slice p n cp) n (flat rs))
  (hf : ∀ i, i < cs.length → Fits W0 B (rs.getD i RC.zero) (cs.getD i Cel.none)) (ha : ApartC p rs) (hb0 : Below W0.heap.size W0 w) (hB : B ≤ W0.heap.size)
  {kd nn : Int} {tp : Option Addr} {tn tc : Nat} {t : List Int} (ht : OwnT w W0.heap.size tp tn tc t)
  (hr : w'.ownsRow B 52 3 (.slice (some ⟨g, 0, none⟩) (n + 1) cap) (n + 1) (flat rs ++ rcV (kd, nn, tp, tn, tc))) (hg : w.grownBy w' (Value.ownBlock (.slice p n cp))) (hat : Value.ownBlock (.slice p n cp) = some g ∨ g = w.heap.size) :
  OwnC w' B (some ⟨g, 0, none⟩) (n + 1) cap (cs ++ [(kd, nn, t)]) := by
 have hown : ∀ k, Value.ownBlock (.slice p n cp) = some k → p = some ⟨k, 0, none⟩ ∧ k < W0.heap.size := fun k hk => by
  rcases hr0.2 with ⟨hv, _⟩ | ⟨g', cap', cur, hv, hb, hg', _⟩
  ·simp only [Value.slice.injEq] at hv; rw [hv.1] at hk; simp [Value.ownBlock] at hk
  ·simp only [Value.slice.injEq] at hv
   rw [hv.1] at hk ⊢
   simp [Value.ownBlock] at hk
   subst hk; exact ⟨rfl, (Array.getElem?_eq_some_iff.1 hg').1⟩
 have hold : ∀ i, i < cs.length → OwnT w B (rs.getD i RC.zero).2.2.1 (rs.getD i RC.zero).2.2.2.1 (rs.getD i RC.zero).2.2.2.2 (cs.getD i Cel.none).2.2 := fun i hi => (hf i hi).2.2.below hb0
 have hlow : ∀ i, i < cs.length → 0 < (rs.getD i RC.zero).2.2.2.1 → ∃ k, (rs.getD i RC.zero).2.2.1 = some ⟨k, 0, none⟩ ∧ k < W0.heap.size := fun i hi hp => by
  obtain ⟨k, e, _, hlt, _⟩ := (hf i hi).2.2.2 hp; exact ⟨k, e, hlt⟩
 have hhigh : 0 < tn → ∃ k, tp = some ⟨k, 0, none⟩ ∧ W0.heap.size ≤ k ∧ k < w.heap.size := fun hp => by
  obtain ⟨k, e, h1, h2, _⟩ := ht.2 hp; exact ⟨k, e, h1, h2⟩
 have hnewg : g < W0.heap.size ∨ g = w.heap.size := by
  rcases hat with h | h
  ·exact .inl (hown g h).2
  ·exact .inr h
 refine ⟨by simp; omega, rs ++ [(kd, nn, tp, tn, tc)], by simp; omega, by rw [flat_append, flat_one]; exact hr, fun i hi => ?_, fun i hi hp => ?_, fun i j hi hj hij hpi hpj => ?_⟩
 ·have hi' : i ≤ cs.length := by simp at hi; omega
  rw [rs_append_at _ _ _ (by omega), cs_append_at _ _ _ hi']
  by_cases e : i = cs.length
  ·rw [if_pos (by omega), if_pos e]
   refine ⟨rfl, rfl, (ht.mono hB).other hg.size (fun k hn0 e' => ?_)⟩; obtain ⟨k', e'', h1, h2⟩ := hhigh hn0
   have hkk : k = k' := by
    have := e'.symm.trans e''; exact congrArg Addr.block (Option.some.inj this)
   refine hg.block k (by omega) (fun hk => ?_); have := (hown k hk.symm).2
   omega
  ·rw [if_neg (by omega), if_neg e]
   refine ⟨(hf i (by omega)).1, (hf i (by omega)).2.1, (hold i (by omega)).other hg.size (fun k hn0 e' => ?_)⟩; obtain ⟨k', e'', h1⟩ := hlow i (by omega) hn0; have hkk : k = k' := congrArg Addr.block (Option.some.inj (e'.symm.trans e'')); refine hg.block k (by have := hb0.size; omega) (fun hk => ?_); exact ha.1 i (by omega) hn0 (by rw [e', (hown k hk.symm).1])
 ·have hi' : i ≤ rs.length := by simp at hi; omega
  rw [rs_append_at _ _ _ hi'] at hp ⊢
  by_cases e : i = rs.length
  ·rw [if_pos e] at hp ⊢
   obtain ⟨k', e'', h1, h2⟩ := hhigh hp; rw [show ((kd, nn, tp, tn, tc) : RC).2.2.1 = tp from rfl, e'']; exact ne_block (by omega) hp
  ·rw [if_neg e] at hp ⊢
   obtain ⟨k', e'', h1⟩ := hlow i (by omega) hp
   rcases hat with h | h
   ·rw [← (hown g h).1]
    exact ha.1 i (by omega) hp
   ·rw [e'']
    exact ne_block (by have := hb0.size; omega) hp
 ·have hi' : i ≤ rs.length := by simp at hi; omega
  have hj' : j ≤ rs.length := by simp at hj; omega
  rw [rs_append_at _ _ _ hi'] at hpi ⊢; rw [rs_append_at _ _ _ hj'] at hpj ⊢
  by_cases e : i = rs.length
  ·rw [if_pos e] at hpi ⊢
   rw [if_neg (by omega)] at hpj ⊢; obtain ⟨k', e'', h1, h2⟩ := hhigh hpi; obtain ⟨k2, e2, h3⟩ := hlow j (by omega) hpj; rw [show ((kd, nn, tp, tn, tc) : RC).2.2.1 = tp from rfl, e'', e2]; exact ne_block (by omega) hpi
  ·rw [if_neg e] at hpi ⊢
   by_cases e' : j = rs.length
   ·rw [if_pos e'] at hpj ⊢
    obtain ⟨k', e'', h1, h2⟩ := hhigh hpj; obtain ⟨k2, e2, h3⟩ := hlow i (by omega) hpi; rw [show ((kd, nn, tp, tn, tc) : RC).2.2.1 = tp from rfl, e'', e2]; exact ne_block (by omega) hpi
   ·rw [if_neg e'] at hpj ⊢
    exact ha.2 i j (by omega) (by omega) hij hpi hpj
theorem rcV_one (r : RC) : ∀ u ∈ rcV r, u.oneCell' = true := fun u hu => by
 simp [rcV] at hu
 rcases hu with rfl | rfl | rfl <;> rfl
theorem app_cell (W0 w : World) {ops : Array Oper} {rest : List Oper} {o : Oper} {a : Act} {Q : Exit → Act → World → Prop} (hgd : o.guard = none) (s x : Operand)
  (ho : o.op = .call { callee := .builtin .append, args := #[s, x], argTypes := #[27, 27] }) (B : Nat) (p : Option Addr) (n c : Nat) (cs : List Cel)
  (hs : a.eval s = .slice p n c) (hown : OwnC W0 B p n c cs) (hb0 : Below W0.heap.size W0 w) (hB : B ≤ W0.heap.size) (ad : Addr) (c' : Nat) (hx : a.eval x = .slice (some ad) 1 c') (kd nn : Int) (tp : Option Addr) (tn tc : Nat) (t : List Int)
  (ht : OwnT w W0.heap.size tp tn tc t) (hnews : ∀ j u, (rcV (kd, nn, tp, tn, tc))[j]? = some u → w.cell? (ad.add j) = some u) (hlen : n + 1 ≤ 1000000000)
  (h : ∀ g n' cap w', OwnC w' B (some ⟨g, 0, none⟩) n' cap (cs ++ [(kd, nn, t)]) → Below B w w' → Hid (n' = n + 1) → wpList Tryz.prog ops Q rest (a.put o.dst (.slice (some ⟨g, 0, none⟩) n' cap)) w') : wpList Tryz.prog ops Q (o :: rest) a w := by
 obtain ⟨i0, hi, hz0, hz1, hz2⟩ := info_parts infoCell; obtain ⟨hn, rs, hl, hr, hf, ha⟩ := hown; refine wpList_append_lies w hgd s x 27 ho B 52 i0 (.agg #[.int .i64 0, .int .i64 0, .slice none 0 0]) 3 40 Tryz.underlying27 hi hz0 hz1 hz2 rfl (by decide) (.slice p n c) n (flat rs) hs (row_below hr hb0) ad 1 c' (rcV (kd, nn, tp, tn, tc)) hx rfl hnews (rcV_one _) (by decide) (by unfold maxLen; omega) (by omega) (Nat.le_trans hB hb0.size) w.heap.size rfl ?_
 intro g cap w' hown' hgrow hat hlt
 refine h g _ cap w' (ownC_grew hn hl hr hf ha hb0 hB ht hown' hgrow hat) ((Below.refl _ _).grown hgrow (Nat.le_trans hB hb0.size) (fun k hk => ?_)) rfl; exact (hr.lt k hk).1
theorem step_app_cell (W0 w : World) {ops : Array Oper} {o : Oper} {a : Act} {K : Act → World → Prop} {Q : Exit → Act → World → Prop} {E : Prop} (hgd : o.guard = none) (s x : Operand)
  (ho : o.op = .call { callee := .builtin .append, args := #[s, x], argTypes := #[27, 27] }) (B : Nat) (p : Option Addr) (n c : Nat) (cs : List Cel)
  (hs : a.eval s = .slice p n c) (hown : OwnC W0 B p n c cs) (hb0 : Below W0.heap.size W0 w) (hB : B ≤ W0.heap.size) (ad : Addr) (c' : Nat) (hx : a.eval x = .slice (some ad) 1 c') (kd nn : Int) (tp : Option Addr) (tn tc : Nat) (t : List Int)
  (ht : OwnT w W0.heap.size tp tn tc t) (hnews : ∀ j u, (rcV (kd, nn, tp, tn, tc))[j]? = some u → w.cell? (ad.add j) = some u) (hlen : n + 1 ≤ 1000000000)
  (h : ∀ g n' cap w', OwnC w' B (some ⟨g, 0, none⟩) n' cap (cs ++ [(kd, nn, t)]) → Below B w w' → Hid (n' = n + 1) → K (a.put o.dst (.slice (some ⟨g, 0, none⟩) n' cap)) w') :
  if Region.wanted o (yielded ops a.tmps) = true then Oper.wp Tryz.prog o a w K Q else E := by
 obtain ⟨i0, hi, hz0, hz1, hz2⟩ := info_parts infoCell; obtain ⟨hn, rs, hl, hr, hf, ha⟩ := hown; refine step_append_lies w hgd s x 27 ho B 52 i0 (.agg #[.int .i64 0, .int .i64 0, .slice none 0 0]) 3 40 Tryz.underlying27 hi hz0 hz1 hz2 rfl (by decide) (.slice p n c) n (flat rs) hs (row_below hr hb0) ad 1 c' (rcV (kd, nn, tp, tn, tc)) hx rfl hnews (rcV_one _) (by decide) (by unfold maxLen; omega) (by omega) (Nat.le_trans hB hb0.size) w.heap.size rfl ?_
 intro g cap w' hown' hgrow hat hlt
 refine h g _ cap w' (ownC_grew hn hl hr hf ha hb0 hB ht hown' hgrow hat) ((Below.refl _ _).grown hgrow (Nat.le_trans hB hb0.size) (fun k hk => ?_)) rfl; exact (hr.lt k hk).1
def AppOut (w : World) (B : Nat) (cs ds : List Cel) (e : Ending) (w' : World) : Prop :=
 ∃ p n c, e = .returned (.slice p n c) ∧ OwnC w' B p n c (cs ++ ds) ∧ Below B w w'
theorem news_rc {w : World} {d : Nat} {r : RC} (h : Box3 w d (.int .i64 r.1) (.int .i64 r.2.1) (.slice r.2.2.1 r.2.2.2.1 r.2.2.2.2)) : ∀ j u, (rcV r)[j]? = some u → w.cell? ((⟨d, 0, none⟩ : Addr).add j) = some u := fun j u hu => by
 have e : (⟨d, 0, none⟩ : Addr).add j = ⟨d, j, none⟩ := by unfold Addr.add; split <;> simp_all
 rw [e]
 rcases j with _ | _ | _ | j
 ·simp only [rcV, List.getElem?_cons_zero, Option.some.injEq] at hu; rw [← hu]; exact h.1
 ·simp only [rcV, List.getElem?_cons_succ, List.getElem?_cons_zero, Option.some.injEq] at hu; rw [← hu]; exact h.2.1
 ·simp only [rcV, List.getElem?_cons_succ, List.getElem?_cons_zero, Option.some.injEq] at hu; rw [← hu]; exact h.2.2.1
 ·simp [rcV] at hu
theorem appVar_any (x : Int) (p : Option Addr) (n c : Nat) (cs : List Cel) (B : Nat) (w : World) (hB : B ≤ w.heap.size) (hn : n ≤ 100000000) (ho : OwnC w B p n c cs) :
  Calls Tryz.prog 458 #[.int .i64 x, .slice p n c] w (AppOut w B cs [(0, x, [])]) := by
 have HO : Hid (OwnC w B p n c cs) := ho; have hb : Below w.heap.size w (w.alloc (Obj.cells #[Value.int IntKind.i64 0, Value.int IntKind.i64 x, Value.slice none 0 0] 52)) := (Below.refl _ _).alloc (Nat.le_refl _) _; have HB : Hid _ := hb; have HX : Hid (Box3 (w.alloc (Obj.cells #[Value.int IntKind.i64 0, Value.int IntKind.i64 x, Value.slice none 0 0] 52)) w.heap.size (.int .i64 0) (.int .i64 x) (.slice none 0 0)) := Box3.of_block (t := 52) (heap_alloc_new _ _); clear ho hb
 go_enter Tryz.func458, Tryz.ntmps458
 go_wp2_with (at_builtin; refine app_cell w _ rfl _ _ rfl B p n c cs rfl HO.out HB.out hB ⟨w.heap.size, 0, none⟩ 1 rfl 0 x none 0 0 [] ⟨rfl, fun h => absurd h (Nat.lt_irrefl 0)⟩ (news_rc HX.out) (by omega) ?_; intro g n' cap w1 hown1 hb1 hn1); go_ret; exact ⟨_, _, _, rfl, hown1, ((Below.refl _ _).alloc hB _).trans hb1⟩
theorem appNum_any (x : Int) (p : Option Addr) (n c : Nat) (cs : List Cel) (B : Nat) (w : World) (hB : B ≤ w.heap.size) (hn : n ≤ 100000000) (ho : OwnC w B p n c cs) :
  Calls Tryz.prog 462 #[.int .i64 x, .slice p n c] w (AppOut w B cs [(1, x, [])]) := by
 have HO : Hid (OwnC w B p n c cs) := ho; have hb : Below w.heap.size w (w.alloc (Obj.cells #[Value.int IntKind.i64 1, Value.int IntKind.i64 x, Value.slice none 0 0] 52)) := (Below.refl _ _).alloc (Nat.le_refl _) _; have HB : Hid _ := hb; have HX : Hid (Box3 (w.alloc (Obj.cells #[Value.int IntKind.i64 1, Value.int IntKind.i64 x, Value.slice none 0 0] 52)) w.heap.size (.int .i64 1) (.int .i64 x) (.slice none 0 0)) := Box3.of_block (t := 52) (heap_alloc_new _ _); clear ho hb
 go_enter Tryz.func462, Tryz.ntmps462
 go_wp2_with (at_builtin; refine app_cell w _ rfl _ _ rfl B p n c cs rfl HO.out HB.out hB ⟨w.heap.size, 0, none⟩ 1 rfl 1 x none 0 0 [] ⟨rfl, fun h => absurd h (Nat.lt_irrefl 0)⟩ (news_rc HX.out) (by omega) ?_; intro g n' cap w1 hown1 hb1 hn1); go_ret; exact ⟨_, _, _, rfl, hown1, ((Below.refl _ _).alloc hB _).trans hb1⟩
theorem appAtom_any (xs : List Int) (hx : Byte xs) (p : Option Addr) (n c : Nat) (cs : List Cel) (B : Nat) (w : World) (hB : B ≤ w.heap.size) (hn : n ≤ 100000000) (ho : OwnC w B p n c cs) :
  Calls Tryz.prog 460 #[.string (strOfNums xs), .slice p n c] w (AppOut w B cs [(2, 0, xs)]) := by
 have HO : Hid (OwnC w B p n c cs) := ho; obtain ⟨w1, cap1, hcv, hb1, ht⟩ := conv_bytes w xs hx 143 Tryz.underlying143
 obtain ⟨m, em⟩ : ∃ m, m = xs.length := ⟨_, rfl⟩
 obtain ⟨str, es⟩ : ∃ str, str = strOfNums xs := ⟨_, rfl⟩
 rw [← em] at hcv ht; rw [← es] at hcv ⊢; have hs1 := hb1.size; have hb : Below w1.heap.size w1 (w1.alloc (Obj.cells #[Value.int IntKind.i64 2, Value.int IntKind.i64 0, Value.slice (some ⟨w.heap.size, 0, none⟩) m cap1] 52)) := (Below.refl _ _).alloc (Nat.le_refl _) _; have HB : Hid (Below w.heap.size w (w1.alloc (Obj.cells #[Value.int IntKind.i64 2, Value.int IntKind.i64 0, Value.slice (some ⟨w.heap.size, 0, none⟩) m cap1] 52))) := Below.on hb1 hb; have HT : Hid (OwnT (w1.alloc (Obj.cells #[Value.int IntKind.i64 2, Value.int IntKind.i64 0, Value.slice (some ⟨w.heap.size, 0, none⟩) m cap1] 52)) w.heap.size (some ⟨w.heap.size, 0, none⟩) m cap1 xs) := ht.below hb; have HX : Hid (Box3 (w1.alloc (Obj.cells #[Value.int IntKind.i64 2, Value.int IntKind.i64 0, Value.slice (some ⟨w.heap.size, 0, none⟩) m cap1] 52)) w1.heap.size (.int .i64 2) (.int .i64 0) (.slice (some ⟨w.heap.size, 0, none⟩) m cap1)) := Box3.of_block (t := 52) (heap_alloc_new _ _)
 have HS : Hid (Below B w (w1.alloc (Obj.cells #[Value.int IntKind.i64 2, Value.int IntKind.i64 0, Value.slice (some ⟨w.heap.size, 0, none⟩) m cap1] 52))) := HB.out.mono hB; clear ho hb hb1 ht em es hx
 go_enter Tryz.func460, Tryz.ntmps460
 go_wp2_with (at_builtin; refine app_cell w _ rfl _ _ rfl B p n c cs rfl HO.out HB.out hB ⟨w1.heap.size, 0, none⟩ 1 rfl 2 0 (some ⟨w.heap.size, 0, none⟩) m cap1 xs HT.out (news_rc HX.out) (by omega) ?_; intro g n' cap w2 hown1 hb2 hn1); go_ret; exact ⟨_, _, _, rfl, hown1, HS.out.trans hb2⟩
def CompAt (w : World) (B : Nat) (s : List Int) (k : Fo) (b g : Nat) (vs : List Value) : Prop :=
 B ≤ b ∧ B ≤ g ∧ w.cell? ⟨b, 0, none⟩ = some (.string (strOfNums s)) ∧ w.cell? ⟨b, 1, none⟩ = some (.slice (some ⟨g, 0, none⟩) vs.length vs.length) ∧ g < w.heap.size ∧ (∀ i, i < vs.length → w.cell? ⟨g, i, none⟩ = some (vs.getD i .nilIface)) ∧ FoIn w B k vs
set_option maxHeartbeats 2000000 in
theorem appComp_any : ∀ (N : Nat) (s : List Int) (k : Fo) (b g : Nat) (vs : List Value) (p : Option Addr) (n cp : Nat) (cs : List Cel) (Bt B : Nat) (w0 w : World), k.cells.length ≤ N → k.ok → Byte s → CompAt w0 Bt s k b g vs → Below w0.heap.size w0 w → w0.heap.size ≤ B → B ≤ w.heap.size →
  OwnC w B p n cp cs → n + 1 + k.cells.length ≤ 1000000 → Calls Tryz.prog 464 #[.pointer (some ⟨b, 0, none⟩), .slice p n cp] w (AppOut w B cs ((3, k.count, s) :: k.cells)) := by
 intro N
 induction N using Nat.strongRecOn with
 | _ N ih =>
   intro s k b g vs p n cp cs Bt B w0 w hN hok hs hcomp hw hB0 hB ho hn
   have HO : Hid (OwnC w B p n cp cs) := ho; have HC : Hid (CompAt w0 Bt s k b g vs) := hcomp; have HW : Hid (Below w0.heap.size w0 w) := hw; obtain ⟨w1, cap1, hcv, hb1, ht⟩ := conv_bytes w.drew s hs 9 Tryz.underlying9; have hvl : vs.length = k.count := FoIn.count _ _ hcomp.2.2.2.2.2.2; have c0 := (hw.cell (World.block_lt_of_cell? _ _ hcomp.2.2.1)).trans hcomp.2.2.1; have c1 := (hw.cell (World.block_lt_of_cell? _ _ hcomp.2.2.2.1)).trans hcomp.2.2.2.1; have hw1 : Below w.heap.size w w1 := (Below.refl _ _).drew.trans hb1; have d0 := (hw1.cell (World.block_lt_of_cell? _ _ c0)).trans c0; have d1 := (hw1.cell (World.block_lt_of_cell? _ _ c1)).trans c1
   obtain ⟨m, em⟩ : ∃ m, m = s.length := ⟨_, rfl⟩
   obtain ⟨str, es⟩ : ∃ str, str = strOfNums s := ⟨_, rfl⟩
   obtain ⟨q, eq⟩ : ∃ q, q = vs.length := ⟨_, rfl⟩
   rw [← em] at hcv ht; rw [← es] at hcv c0 d0; rw [← eq] at c1 d1; have hs1 := hb1.size; have hcv' : (convert 9 35 (.string str)).run Tryz.prog w.drew = .ok (.slice (some ⟨w.heap.size, 0, none⟩) m cap1) w1 := hcv; have ht' : OwnT w1 w.heap.size (some ⟨w.heap.size, 0, none⟩) m cap1 s := ht; have hb : Below w1.heap.size w1 (w1.alloc (Obj.cells #[Value.int IntKind.i64 3, Value.int IntKind.i64 q, Value.slice (some ⟨w.heap.size, 0, none⟩) m cap1] 52)) := (Below.refl _ _).alloc (Nat.le_refl _) _; have HB : Hid (Below w.heap.size w (w1.alloc (Obj.cells #[Value.int IntKind.i64 3, Value.int IntKind.i64 q, Value.slice (some ⟨w.heap.size, 0, none⟩) m cap1] 52))) := Below.on hw1 hb; have HT : Hid (OwnT (w1.alloc (Obj.cells #[Value.int IntKind.i64 3, Value.int IntKind.i64 q, Value.slice (some ⟨w.heap.size, 0, none⟩) m cap1] 52)) w.heap.size (some ⟨w.heap.size, 0, none⟩) m cap1 s) := ht'.below hb
   have HX : Hid (Box3 (w1.alloc (Obj.cells #[Value.int IntKind.i64 3, Value.int IntKind.i64 q, Value.slice (some ⟨w.heap.size, 0, none⟩) m cap1] 52)) w1.heap.size (.int .i64 3) (.int .i64 q) (.slice (some ⟨w.heap.size, 0, none⟩) m cap1)) := Box3.of_block (t := 52) (heap_alloc_new _ _); have HIH : Hid _ := ih
   have HE : Hid (q = vs.length ∧ vs.length = k.count) := ⟨eq, hvl⟩
   have hq : q ≤ 1000000 := by have := Fo.count_le k; omega
   clear ih ho hcomp hw em es eq hvl hb1 ht ht' hcv hb hw1
   go_enter Tryz.func464, Tryz.ntmps464
   go_upto_region 1 with fail
   go_cut [1] from 7 (fun v wc => ∃ g2 n2 c2, v = .slice (some ⟨g2, 0, none⟩) n2 c2 ∧ Hid (OwnC wc B (some ⟨g2, 0, none⟩) n2 c2 (cs ++ [((3, (q : Int), s) : Cel)])) ∧ Hid (Below B w wc) ∧ n2 = n + 1)
   case first =>
    go_region_law (refine step_app_cell w _ rfl _ _ rfl B p n cp cs rfl HO.out HB.out hB ⟨w1.heap.size, 0, none⟩ 1 rfl 3 q (some ⟨w.heap.size, 0, none⟩) m cap1 s HT.out (news_rc HX.out) (by omega) ?_; intro g1 n1 cap2 w2 hown1 hb2 hn1)
    all_goals go_wp2_with fail
    all_goals go_meet
    all_goals exact ⟨g1, n1, cap2, rfl, hown1, (HB.out.mono hB).trans hb2, hn1⟩
   case rest =>
    obtain ⟨g2, n2, c2, rfl, HO2, HB2, hn2⟩ := hcut; have e1 : wc.cell? ⟨b, 1, none⟩ = some (.slice (some ⟨g, 0, none⟩) q q) := (HB2.out.cell (p := ⟨b, 1, none⟩) (by have := World.block_lt_of_cell? _ _ HC.out.2.2.2.1; show b < B; simp at this; omega)).trans c1; clear c0 c1 d0 d1 hcv' HO HB HT HX; go_wp2_with fail
    go_loopw [1, 26] (fun v i wr => ∃ (D R : Fo) (us vs2 : List Value) (j : Nat) (p4 : Option Addr) (n4 c4 : Nat), j ≤ q ∧ n4 ≤ 1000000 ∧ i = .int .i64 j ∧ v = .slice p4 n4 c4 ∧ Hid (k = D.cat R ∧ vs = us ++ vs2 ∧ us.length = j ∧ n4 = n + 1 + D.cells.length) ∧ Hid (FoIn w0 Bt R vs2) ∧
     Hid (OwnC wr B p4 n4 c4 (cs ++ ((3, (q : Int), s) : Cel) :: D.cells)) ∧ Hid (Below B w wr)) (fun _ i _ => q - (intOf i).toNat)
    case atStart => exact ⟨.nil, k, [], vs, 0, _, _, _, Nat.zero_le _, by omega, rfl, rfl, ⟨rfl, rfl, rfl, by simp [Fo.cells, hn2]⟩, HC.out.2.2.2.2.2.2, HO2, HB2⟩
    case round =>
     obtain ⟨D, R, us, vs2, j, p4, n4, c4, hj, hn4, rfl, rfl, HF, HR, HO4, HB4⟩ := hrel
     by_cases hlt : j < q
     ·obtain ⟨c', k', r', rfl⟩ : ∃ c' k' r', R = .node c' k' r' := by
       cases R with
       | nil =>
         have h1 := HF.out; have h2 : vs2 = [] := HR.out; have h3 := HE.out.1; rw [h1.2.1, h2, List.append_nil] at h3
         omega
       | node c' k' r' => exact ⟨c', k', r', rfl⟩
      obtain ⟨v, vr, rfl, hnode, hrest⟩ := HR.out; have hok2 := (Fo.ok_cat D (.node c' k' r')).1 (HF.out.1 ▸ hok)
      have hlen : D.cells.length + (k'.cells.length + r'.cells.length + 1) = k.cells.length := by
       rw [HF.out.1, Fo.cells_cat]; simp [Fo.cells]
      have hat : w0.cell? ⟨g, j, none⟩ = some v := by
       rw [HC.out.2.2.2.2.2.1 j (by rw [← HE.out.1]; exact hlt), HF.out.2.1]
       simp [List.getD, HF.out.2.2.1]
      have hwr : Below w0.heap.size w0 wr := HW.out.trans (HB4.out.mono hB0); have c5 : wr.cell? ⟨g, j, none⟩ = some v := (hwr.cell (World.block_lt_of_cell? _ _ hat)).trans hat
      have next : ∀ p3 n3 c3 w3, OwnC w3 B p3 n3 c3 ((cs ++ ((3, (q : Int), s) : Cel) :: D.cells) ++ (c' :: k'.cells)) → Below B wr w3 →
        ∃ (D R : Fo) (us vs2 : List Value) (j' : Nat) (p4 : Option Addr) (n4 c4 : Nat), j' ≤ q ∧ n4 ≤ 1000000 ∧ Value.int .i64 ((j : Int) + 1) = .int .i64 j' ∧ Value.slice p3 n3 c3 = .slice p4 n4 c4 ∧ Hid (k = D.cat R ∧ vs = us ++ vs2 ∧ us.length = j' ∧ n4 = n + 1 + D.cells.length) ∧ Hid (FoIn w0 Bt R vs2) ∧
          Hid (OwnC w3 B p4 n4 c4 (cs ++ ((3, (q : Int), s) : Cel) :: D.cells)) ∧ Hid (Below B w w3) := fun p3 n3 c3 w3 h1 h2 => by
       have e3 := h1.1; have e4 := HO4.out.1; have e5 := HF.out.2.2.2; simp only [List.length_append, List.length_cons] at e3 e4; refine ⟨D.cat (.node c' k' .nil), r', us ++ [v], vr, j + 1, p3, n3, c3, by omega, by omega, by go_num, rfl, ⟨by rw [Fo.cat_assoc]; exact HF.out.1, by rw [HF.out.2.1]; simp, by simp [HF.out.2.2.1], ?_⟩, hrest, ?_, HB4.out.trans h2⟩
       ·rw [Fo.cells_cat]; simp [Fo.cells]; omega
       ·show OwnC _ _ _ _ _ _
        rw [Fo.cells_cat]; simpa [Fo.cells] using h1
      have NEXT : Hid _ := next
      clear next
      have hB4 : B ≤ wr.heap.size := Nat.le_trans hB HB4.out.size
      rcases hnode with ⟨h0, rfl⟩ | ⟨h0, rfl⟩ | ⟨h0, rfl⟩ | ⟨h0, b5, g5, kv, rfl, h5⟩
      ·have hk' : k' = .nil := hok2.2.2.2.2.1 (by rw [h0]; decide)
       have hcl := hok2.2.1; obtain ⟨c0, c1, c2'⟩ := c'; simp only at h0 hcl; subst h0 hk'
       have e : c2' = [] := by simp [cellB] at hcl; exact hcl.2.2
       subst e; have HS := appVar_any c1 p4 n4 c4 _ B wr hB4 (by omega) HO4.out; clear hok2 hlen hat hcl hrest hwr HO4 HR HIH; go_wp2_with fail; refine HS.mono ?_; rintro e w3 ⟨p3, n3, c3, rfl, hown3, hb3⟩; go_wp2_with fail; go_roundw
       case rel => exact NEXT.out p3 n3 c3 w3 hown3 hb3
       case measure => simp [intOf]; omega
      ·have hk' : k' = .nil := hok2.2.2.2.2.1 (by rw [h0]; decide)
       have hcl := hok2.2.1; obtain ⟨c0, c1, c2'⟩ := c'; simp only at h0 hcl; subst h0 hk'
       have e : c2' = [] := by simp [cellB] at hcl; exact hcl.2.2
       subst e; have HS := appNum_any c1 p4 n4 c4 _ B wr hB4 (by omega) HO4.out; clear hok2 hlen hat hcl hrest hwr HO4 HR HIH; go_wp2_with fail; refine HS.mono ?_; rintro e w3 ⟨p3, n3, c3, rfl, hown3, hb3⟩; go_wp2_with fail; go_roundw
       case rel => exact NEXT.out p3 n3 c3 w3 hown3 hb3
       case measure => simp [intOf]; omega
      ·have hk' : k' = .nil := hok2.2.2.2.2.1 (by rw [h0]; decide)
       have hcl := hok2.2.1; have hby := hok2.2.2.1; obtain ⟨c0, c1, c2'⟩ := c'; simp only at h0 hcl hby c5; subst h0 hk'
       have e : c1 = 0 := by simp [cellB] at hcl; exact hcl.2
       subst e; have HS := appAtom_any c2' hby p4 n4 c4 _ B wr hB4 (by omega) HO4.out
       obtain ⟨st, est⟩ : ∃ st, st = strOfNums c2' := ⟨_, rfl⟩
       rw [← est] at HS c5; clear hok2 hlen hat hcl hrest hwr HO4 HR HIH hby est; go_wp2_with fail; refine HS.mono ?_; rintro e w3 ⟨p3, n3, c3, rfl, hown3, hb3⟩; go_wp2_with fail; go_roundw
       case rel => exact NEXT.out p3 n3 c3 w3 hown3 hb3
       case measure => simp [intOf]; omega
      ·have hcl := hok2.2.1
       have hby := hok2.2.2.1; have hcn := hok2.2.2.2.1 h0; obtain ⟨c0, c1, c2'⟩ := c'; simp only at h0 hcl hby hcn h5; subst h0 hcn; have HS := HIH.out k'.cells.length (by omega) c2' k' b5 g5 kv p4 n4 c4 _ Bt B w0 wr (Nat.le_refl _) hok2.2.2.2.2.2.1 hby h5 hwr hB0 hB4 HO4.out (by have := HF.out.2.2.2; omega); clear hok2 hlen hat hcl hrest hwr HO4 HR HIH hby h5; go_wp2_with fail; refine HS.mono ?_; rintro e w3 ⟨p3, n3, c3, rfl, hown3, hb3⟩; go_wp2_with fail; go_roundw
       case rel => exact NEXT.out p3 n3 c3 w3 hown3 hb3
       case measure => simp [intOf]; omega
     ·obtain rfl : j = q := by omega
      obtain rfl : R = .nil := by
       have h1 := FoIn.count _ _ HR.out; have h2 := HE.out; rw [HF.out.2.1, List.length_append] at h2; have h3 := HF.out.2.2.1
       cases R with
       | nil => rfl
       | node a b d => simp [Fo.count] at h1; omega
      have HF' : Hid (D = k) := by have := HF.out.1; rw [Fo.cat_nil] at this; exact this.symm
      go_wp2_with fail; go_ret; refine ⟨_, _, _, rfl, ?_, HB4.out⟩; have h1 := HO4.out; rw [HF'.out, HE.out.1, HE.out.2] at h1; exact h1
end
section
open Go Go.RowKit Go.Maps
theorem lawVar : Keyed Tryz.prog 94 := int_keyed Tryz.underlying94
theorem zeroVar (w : World) : (zeroValue 94).run Tryz.prog w = .ok (.int .i64 0) w := by kernel_rfl
def putV (ks : List Int) (x : Int) : List Int := if x ∈ ks then ks else ks ++ [x]
def NumMap (w : World) (b : Nat) (ks : List Int) : Prop := ∃ D : DataW Unit, w.ownsMap Tryz.prog 94 (plainElem Tryz.prog 94) b ks.length D ∧ Maps.size D = ks.length ∧ (∀ x : Int, Maps.has D (.int .i64 x) = decide (x ∈ ks)) ∧
 (∀ x ∈ ks, D.atKey (.int .i64 x) (.lit (.int .i64 0)) = .lit (.int .i64 (ks.idxOf x)))
theorem NumMap.lt {w : World} {b : Nat} {ks : List Int} (h : NumMap w b ks) : b < w.heap.size := by obtain ⟨D, h, _⟩ := h; exact h.lt
theorem NumMap.of_block {w w' : World} {b : Nat} {ks : List Int} (h : NumMap w b ks) (hb : w'.heap[b]? = w.heap[b]?) : NumMap w' b ks := by
 obtain ⟨D, ⟨es, clock, h1, r⟩, h2⟩ := h; exact ⟨D, ⟨es, clock, hb.trans h1, r⟩, h2⟩
theorem NumMap.made (w : World) : NumMap (w.alloc (.map #[] 0)) w.heap.size [] := ⟨_, World.ownsMap_made _ _ _ _, rfl, fun x => rfl, fun x hx => by cases hx⟩
theorem of_any (b : Nat) (ks : List Int) (x : Int) (w : World) (h0 : 0 ≤ x) (h1 : x ≤ 1000000) (hl : ks.length ≤ 1000000) (hm : NumMap w b ks) :
  Calls Tryz.prog 141 #[.map (some b), .int .i64 x] w fun e w' => e = .returned (.int .i64 (ks.idxOf x)) ∧ NumMap w' b (putV ks x) ∧ w.grownBy w' (some b) := by
 obtain ⟨D, hown, hsz, hhas, hat⟩ := hm; have hk := keyOf_int_mk (P := Tryz.prog) Tryz.underlying94 (q := .i64) (a := x) (WalkArith.wf_i64 (by omega))
 by_cases hx : x ∈ ks
 ·have hh : Maps.has D (.int .i64 x) = true := by rw [hhas]; simpa using hx
  have hv := hat x hx
  have HO : Hid (NumMap w b (putV ks x)) := by rw [putV, if_pos hx]; exact ⟨D, hown, hsz, hhas, hat⟩
  clear hhas hat
  go_enter Tryz.func141, Tryz.ntmps141
  go_wp2_with (at_lookup; refine wpList_lookup_own_ok_int _ rfl _ _ 112 rfl 94 94 .i64 lawVar Tryz.underlying112 Tryz.underlying94 (zeroVar _) b ks.length D rfl hown _ _ rfl hk ?_; intro c hc hwc; rw [hh]; obtain rfl : c = ks.idxOf x := by (rw [hv] at hc; cases hc; rfl)); go_ret; exact ⟨rfl, HO.out, ⟨rfl, rfl, rfl, Nat.le_refl _, fun _ _ _ => rfl⟩⟩
 ·have hh : Maps.has D (.int .i64 x) = false := by rw [hhas]; simpa using hx
  have hi : ks.idxOf x = ks.length := List.idxOf_eq_length hx; have hkl : WideAt.IsKeyLit (.int .i64 x) := trivial
  have HF : Hid (∀ w', w'.ownsMap Tryz.prog 94 (plainElem Tryz.prog 94) b (ks.length + 1) (D.put (.int .i64 x) (.lit (.int .i64 ks.length))) → NumMap w' b (putV ks x)) := fun w' h => by
   have hm := hown.isMap; rw [putV, if_neg hx]; refine ⟨_, by simpa using h, ?_, fun y => ?_, fun y hy => ?_⟩
   ·rw [size_put (hown.tidy lawVar), hh, hsz]; simp
   ·by_cases e : y = x
    ·subst e; rw [has_put_same hm hkl]; simp
    ·rw [has_put_other (by simpa using e), hhas]; simp [e]
   ·by_cases e : y = x
    ·subst e
     rw [atKey_put_same hm hkl, List.idxOf_append, if_neg hx]
     simp
    ·have hy' : y ∈ ks := by simpa [e] using hy
     rw [atKey_put_other (by simpa using e), hat y hy', List.idxOf_append, if_pos hy']
  rw [hi]
  obtain ⟨l, el⟩ : ∃ l, l = ks.length := ⟨_, rfl⟩
  rw [← el] at hown hsz hl HF ⊢; clear hhas hat hi hx el
  go_enter Tryz.func141, Tryz.ntmps141
  go_wp2_with (first
   | (at_lookup; refine wpList_lookup_own_ok_int _ rfl _ _ 112 rfl 94 94 .i64 lawVar Tryz.underlying112 Tryz.underlying94 (zeroVar _) b l D rfl hown _ _ rfl hk ?_; intro c hc hwc; rw [hh])
   | (at_len; refine wpList_len_own _ rfl _ 112 rfl 94 94 Tryz.underlying112 _ b l D rfl hown ?_; rw [hsz])
   | (at_mapUpdate; refine wpList_mapUpdate_own _ rfl _ _ _ 112 rfl 94 94 lawVar Tryz.underlying112 _ b l D rfl hown (by unfold maxLen; omega) _ _ _ rfl rfl hk _ [] (plainElem_int Tryz.underlying94 (WalkArith.wf_i64 (by omega))) ?_; intro w1 hown1 hgrow1))
  go_ret; exact ⟨rfl, HF.out _ hown1, hgrow1⟩
end
section
open Go Go.RowKit
theorem tree_of {cs : List Cel} (hb : ∀ i, i < cs.length → Byte (cs.getD i Cel.none).2.2) (hv : validB cs = true) : ∃ c k, cs = c :: k.cells ∧ (Fo.node c k .nil).ok ∧ cs.length ≤ 2000 := by
 simp only [validB, Bool.and_eq_true, decide_eq_true_eq] at hv; obtain ⟨F, h1, h2, h3⟩ := forest_of cs 1 hb hv.2
 cases F with
 | nil => simp [Fo.count] at h1
 | node c k r =>
   cases r with
   | nil => exact ⟨c, k, by rw [← h2]; simp [Fo.cells], h3, hv.1⟩
   | node a b d => simp [Fo.count] at h1
theorem termOf_any (c : Cel) (k : Fo) (p : Option Addr) (n cap : Nat) (w : World) (hok : (Fo.node c k .nil).ok) (hn : n = k.cells.length + 1) (hc : n ≤ cap) (hm : cap ≤ 9223372036854775807) (hin : CIn w p (c :: k.cells)) :
  Calls Tryz.prog 97 #[.slice p n cap] w fun e w' => ∃ v, e = .returned v ∧ FoIn w' w.heap.size (.node c k .nil) [v] ∧ Below w.heap.size w w' := by
 have HF : Calls Tryz.prog 162 #[.slice p n cap] w (FirstOut w w c k [] cap) := firstTerm_any k.cells.length c k p n cap [] w w (Below.refl _ _) (Nat.le_refl _) hok (by rw [hn]; rfl) hc hm (by rw [List.append_nil]; exact hin); clear hok hin hn
 go_enter Tryz.func97, Tryz.ntmps97
 go_wp2_with fail; refine HF.mono ?_; rintro e w1 ⟨v, q, l, cp, rfl, _, _, _, hfo, hb⟩; obtain ⟨vt, vx, rfl⟩ := hfo.iface; have HFO : Hid (FoIn w1 w.heap.size (.node c k .nil) [.iface vt vx]) := hfo; have HB : Hid (Below w.heap.size w w1) := hb; clear hfo hb HF; go_wp2_with fail; go_ret; exact ⟨_, rfl, HFO.out, HB.out⟩
theorem functor_any (b g q : Nat) (str : ByteArray) (w : World) (h0 : w.cell? ⟨b, 0, none⟩ = some (.string str)) (h1 : w.cell? ⟨b, 1, none⟩ = some (.slice (some ⟨g, 0, none⟩) q q)) :
  Calls Tryz.prog 164 #[.pointer (some ⟨b, 0, none⟩)] w fun e w' => e = .returned (.agg #[.string str, .int .i64 q]) ∧ Below w.heap.size w w' := by
 have a0 : ∀ x, (w.alloc x).cell? ⟨b, 0, none⟩ = some (.string str) := fun x => Lib.cell?_alloc_marked x h0
 have a1 : ∀ x, (w.alloc x).cell? ⟨b, 1, none⟩ = some (.slice (some ⟨g, 0, none⟩) q q) := fun x => Lib.cell?_alloc_marked x h1
 go_enter Tryz.func164, Tryz.ntmps164
 go_wp2_with fail
 go_region
 all_goals go_wp2_with fail
 all_goals exact bodyPost_ret (v := .agg #[.string str, .int .i64 q]) (by simp [results, Tryz.results164, go_sem]) rfl ⟨rfl, ((Below.refl _ _).alloc (Nat.le_refl _) _).drew⟩
end
end Go.Proofs.YtickbkcpcgmlmaaGreatDoor
