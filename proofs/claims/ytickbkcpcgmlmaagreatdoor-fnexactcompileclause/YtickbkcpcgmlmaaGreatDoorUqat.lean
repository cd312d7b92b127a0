/- Texts of ClN, ClO. Own work of the verifier. -/
import Derived.Test.YtickbkcpcgmlmaaGreatDoorUqao
import Derived.Test.YtickbkcpcgmlmaaGreatDoorUqam
import Derived.Test.YtickbkcpcgmlmaaGreatDoorUqas
namespace Go.Proofs.YtickbkcpcgmlmaaGreatDoor
set_option maxRecDepth 100000
open Go Go.RowKit
set_option linter.unusedVariables false
set_option maxHeartbeats 1000000 in
theorem inline_any {w : World} {q : Option Addr} {n c : Nat} {t : Tr} (h : TI w q n c t) (hn : n ≤ 1000000) (hok : (Fo.node t.1 t.2 .nil).ok) (hcal : calC t.1 = true) :
  Calls Tryz.prog 17 #[.slice q n c] w fun e w' => e = .returned (.bool (inlG t)) ∧ Below w.heap.size w w' := by
 have HSP : Hid (∀ W, Below w.heap.size w W → Calls Tryz.prog 45 #[.slice q n c] W fun e w' => e = .returned (.bool (spcC t.1)) ∧ w' = W) := fun W hW => special_any (h.below hW) hok.2.1
 have HAR : Hid (∀ W, Below w.heap.size w W → Calls Tryz.prog 16 #[.slice q n c] W fun e w' => e = .returned (.int .i64 (fA t.1)) ∧ w' = W) := fun W hW => arity_any (h.below hW) hn
 obtain ⟨b, o, q1, qc, rfl, d0, d1, d2, d3⟩ := h.head
 have HBU : Hid (∀ W, Below w.heap.size w W → Calls Tryz.prog 46 #[.slice q1 t.1.2.2.length qc, .int .i64 (fA t.1)] W fun e w' => e = .returned (.bool (isBu (unU t.1.2.2) (fA t.1))) ∧ Below W.heap.size W w') := fun W hW => specIsBu_any q1 qc t.1.2.2 (fA t.1) W (d3.below hW)
 have hE : inlG t = (spcC t.1 || isBu (unU t.1.2.2) (fA t.1)) := by unfold inlG buC; rw [fA_num hok hcal]
 have HE : Hid (inlG t = (spcC t.1 || isBu (unU t.1.2.2) (fA t.1))) := hE
 have hn0 : 0 < n := by have := h.1; omega
 have hln : t.1.2.2.length ≤ 1000000 := by have := hok.1; simp only [cellB, decide_eq_true_eq] at this; omega
 rw [HE.out]
 generalize isBu (unU t.1.2.2) (fA t.1) = bu at HBU ⊢
 generalize fA t.1 = ar at HAR HBU
 generalize t.1.2.2.length = ln at HBU d2 hln
 generalize spcC t.1 = sp at HSP ⊢
 have HD2 : Hid (∀ W, Below w.heap.size w W → W.cell? ⟨b, o + 2, none⟩ = some (.slice q1 ln qc)) := fun W hW => (hW.cell (World.block_lt_of_cell? _ _ d2)).trans d2
 clear hE HE h hok hcal d0 d1 d2 d3
 go_enter Tryz.func17, Tryz.ntmps17
 go_wp2_with fail; refine wp_region_held_drew (S := fun W => W.cell? ⟨b, o + 2, none⟩ = some (.slice q1 ln qc)) (by kernel_rfl) (HD2.out _ (Below.refl _ _).drew) (fun hHeld => ?_); have hSS : w.drew.cell? ⟨b, o + 2, none⟩ = some (.slice q1 ln qc) := HD2.out _ (Below.refl _ _).drew; refine hTk (i := 0) (v := .slice (some ⟨b, o, none⟩) n c) (some 3) (fun o ho W hSw => ?y0) (by assumption) ?_
 case y0 => cases ho; simp [execOp, go_sem, Act.eval]
 simp only [Act.put, zzA, zzB, zzC]; refine hCallE (i := 1) (some 4) (by kernel_rfl) (by kernel_rfl) (by kernel_rfl) (fun o ho => ?y1) (HSP.out _ (Below.refl _ _).drew) ?_ (fun ch w' h => by obtain ⟨h, _⟩ := h; simp at h) (fun w' h => by obtain ⟨h, _⟩ := h; simp at h)
 case y1 => cases ho; simp [execOp, go_sem, Act.eval]
 rintro u w1 ⟨hu, hw1⟩
 cases hu
 subst hw1; refine ⟨hSS, ?_⟩; simp only [Act.put, zzA, zzB, zzC]
 cases sp with
 | true =>
   refine hTk (i := 2) (v := .bool true) (some 5) (fun o ho W hSw => ?y2) (by assumption) ?_
   case y2 => cases ho; simp [execOp, go_sem, Act.eval]
   simp only [Act.put, zzA, zzB, zzC]; refine hSk (i := 3) (some 6) (by assumption) ?_; refine hSk (i := 4) (some 7) (by assumption) ?_; refine hSk (i := 5) (some 8) (by assumption) ?_; refine hSk (i := 6) (some 9) (by assumption) ?_; simp only [Act.put, zzA, zzB, zzC]; refine hSk (i := 7) (some 10) (by assumption) ?_; refine hSk (i := 8) (some 11) (by assumption) ?_; refine hSk (i := 9) (some 12) (by assumption) ?_; simp only [Act.put, zzA, zzB, zzC]; refine hTk (i := 10) (v := .bool true) (some 13) (fun o ho W hSw => ?y10) (by assumption) ?_
   case y10 => cases ho; simp [execOp, go_sem, Act.eval]
   simp only [Act.put, zzA, zzB, zzC]; refine hTk (i := 11) (v := .bool true) (some 2) (fun o ho W hSw => ?y11) (by assumption) ?_
   case y11 => cases ho; simp [execOp, go_sem, Act.eval]
   simp only [Act.put, zzA, zzB, zzC]; refine wpAnyH_done (by kernel_rfl) ?_ _; clear hHeld hSS
   change Exit.then _ _ _ _ _
   go_wp2_with fail; go_ret; exact ⟨rfl, (Below.refl _ _).drew⟩
 | false =>
   refine hTk (i := 2) (v := .bool false) (some 5) (fun o ho W hSw => ?y2) (by assumption) ?_
   case y2 => cases ho; simp [execOp, go_sem, Act.eval]
   simp only [Act.put, zzA, zzB, zzC]; refine hTk (i := 3) (v := .slice (some ⟨b, o, none⟩) n c) (some 6) (fun o ho W hSw => ?y3) (by assumption) ?_
   case y3 => cases ho; simp [execOp, go_sem, Act.eval]
   simp only [Act.put, zzA, zzB, zzC]; refine hTk (i := 4) (v := .pointer (some ⟨b, o, none⟩)) (some 7) (fun o ho W hSw => ?y4) (by assumption) ?_
   case y4 => cases ho; simp [execOp, go_sem, Act.eval, hn0]
   simp only [Act.put, zzA, zzB, zzC]; refine hTk (i := 5) (v := .pointer (some ⟨b, o + 2, none⟩)) (some 8) (fun o ho W hSw => ?y5) (by assumption) ?_
   case y5 => cases ho; simp [execOp, go_sem, Act.eval]
   simp only [Act.put, zzA, zzB, zzC]; refine hTk (i := 6) (v := .slice q1 ln qc) (some 9) (fun o ho W hSw => ?y6) (by assumption) ?_
   case y6 => cases ho; simp [execOp, go_sem, Act.eval, hSw]
   simp only [Act.put, zzA, zzB, zzC]; refine hTk (i := 7) (v := .slice (some ⟨b, o, none⟩) n c) (some 10) (fun o ho W hSw => ?y7) (by assumption) ?_
   case y7 => cases ho; simp [execOp, go_sem, Act.eval]
   simp only [Act.put, zzA, zzB, zzC]; refine hCallE (i := 8) (some 11) (by kernel_rfl) (by kernel_rfl) (by kernel_rfl) (fun o ho => ?y8) (HAR.out _ (Below.refl _ _).drew) ?_ (fun ch w' h => by obtain ⟨h, _⟩ := h; simp at h) (fun w' h => by obtain ⟨h, _⟩ := h; simp at h)
   case y8 => cases ho; simp [execOp, go_sem, Act.eval]
   rintro u w2 ⟨hu, hw2⟩
   cases hu
   subst hw2; refine ⟨hSS, ?_⟩; simp only [Act.put, zzA, zzB, zzC]; refine hCallE (i := 9) (some 12) (by kernel_rfl) (by kernel_rfl) (by kernel_rfl) (fun o ho => ?y9) (HBU.out _ (Below.refl _ _).drew) ?_ (fun ch w' h => by obtain ⟨h, _⟩ := h; simp at h) (fun w' h => by obtain ⟨h, _⟩ := h; simp at h)
   case y9 => cases ho; simp [execOp, go_sem, Act.eval]
   rintro u w3 ⟨hu, hb3⟩
   cases hu
   have HB3 : Hid (Below w.heap.size w w3) := (Below.refl _ _).drew.trans hb3; refine ⟨HD2.out _ HB3.out, ?_⟩; have hS3 : w3.cell? ⟨b, o + 2, none⟩ = some (.slice q1 ln qc) := HD2.out _ HB3.out; clear hb3; simp only [Act.put, zzA, zzB, zzC]; refine hTk (i := 10) (v := .bool bu) (some 13) (fun o ho W hSw => ?y10) (by assumption) ?_
   case y10 => cases ho; simp [execOp, go_sem, Act.eval]
   simp only [Act.put, zzA, zzB, zzC]; refine hTk (i := 11) (v := .bool bu) (some 2) (fun o ho W hSw => ?y11) (by assumption) ?_
   case y11 => cases ho; simp [execOp, go_sem, Act.eval]
   simp only [Act.put, zzA, zzB, zzC]; refine wpAnyH_done (by kernel_rfl) ?_ _; clear hHeld hSS hS3
   change Exit.then _ _ _ _ _
   go_wp2_with fail; go_ret; exact ⟨by simp, HB3.out⟩
theorem maxV_le : ∀ (l : List Cel) (m : Int), m ≤ maxV m l ∧ ∀ v ∈ vsC l, v ≤ maxV m l
 | [], m => ⟨Int.le_refl _, fun v h => by simp [vsC] at h⟩
 | c :: r, m => by
   have ih := maxV_le r (if c.1 = 0 ∧ m < c.2.1 then c.2.1 else m); have e : maxV m (c :: r) = maxV (if c.1 = 0 ∧ m < c.2.1 then c.2.1 else m) r := rfl; rw [e]
   have h1 : m ≤ (if c.1 = 0 ∧ m < c.2.1 then c.2.1 else m) := by split <;> omega
   refine ⟨Int.le_trans h1 ih.1, fun v hv => ?_⟩; rw [vsC_cons] at hv
   by_cases h0 : c.1 = 0
   ·rw [if_pos h0] at hv
    rcases List.mem_cons.1 hv with rfl | hv
    ·have h2 : c.2.1 ≤ (if c.1 = 0 ∧ m < c.2.1 then c.2.1 else m) := by
      by_cases h9 : m < c.2.1
      ·rw [if_pos ⟨h0, h9⟩]; exact Int.le_refl _
      ·rw [if_neg (fun h => h9 h.2)]; omega
     exact Int.le_trans h2 ih.1
    ·exact ih.2 v hv
   ·rw [if_neg h0] at hv
    exact ih.2 v hv
theorem maxV_mem : ∀ (l : List Cel) (m : Int), maxV m l = m ∨ maxV m l ∈ vsC l
 | [], m => .inl rfl
 | c :: r, m => by
   have e : maxV m (c :: r) = maxV (if c.1 = 0 ∧ m < c.2.1 then c.2.1 else m) r := rfl; rw [e, vsC_cons]
   rcases maxV_mem r (if c.1 = 0 ∧ m < c.2.1 then c.2.1 else m) with h | h
   ·rw [h]
    by_cases h9 : c.1 = 0 ∧ m < c.2.1
    ·rw [if_pos h9, if_pos h9.1]; exact .inr (List.mem_cons_self ..)
    ·rw [if_neg h9]; exact .inl rfl
   ·by_cases h0 : c.1 = 0
    ·rw [if_pos h0]; exact .inr (List.mem_cons_of_mem _ h)
    ·rw [if_neg h0]; exact .inr h
theorem okV_lt : ∀ (vs : List Int) (m : Nat), okV m vs → ∀ v ∈ vs, v < endV m vs
 | [], m, _, v, h => by cases h
 | x :: r, m, h, v, hv => by
   have hl := endV_le r (if x = m then m + 1 else m)
   rcases List.mem_cons.1 hv with rfl | hv
   ·show v < endV (if v = m then m + 1 else m) r
    have h1 := h.1
    by_cases e : v = m
    ·rw [if_pos e] at hl ⊢; omega
    ·rw [if_neg e] at hl ⊢; omega
   ·exact okV_lt r _ h.2 v hv
theorem okV_all : ∀ (vs : List Int) (m : Nat), okV m vs → ∀ u : Nat, m ≤ u → u < endV m vs → (u : Int) ∈ vs
 | [], m, _, u, h1, h2 => by simp [endV] at h2; omega
 | x :: r, m, h, u, h1, h2 => by
   by_cases e : x = m
   ·by_cases hu : u = m
    ·rw [hu, ← e]; exact List.mem_cons_self ..
    ·refine List.mem_cons_of_mem _ (okV_all r (m + 1) ?_ u (by omega) ?_)
     ·have := h.2; rw [if_pos e] at this; exact this
     ·have h3 : endV m (x :: r) = endV (if x = m then m + 1 else m) r := rfl
      rw [h3, if_pos e] at h2; exact h2
   ·refine List.mem_cons_of_mem _ (okV_all r m ?_ u h1 ?_)
    ·have := h.2; rw [if_neg e] at this; exact this
    ·have h3 : endV m (x :: r) = endV (if x = m then m + 1 else m) r := rfl
     rw [h3, if_neg e] at h2; exact h2
theorem max_count {cs : List Cel} (h : renCells cs = cs) : maxV (-1) cs + 1 = ((visits [] cs).length : Int) := by
 obtain ⟨h1, h2⟩ := own_seq h; have hle := maxV_le cs (-1); rw [← h2]
 rcases maxV_mem cs (-1) with e | e
 ·by_cases hz : endV 0 (vsC cs) = 0
  ·rw [e, hz]; rfl
  ·have := hle.2 _ (okV_all _ 0 h1 (endV 0 (vsC cs) - 1) (Nat.zero_le _) (by omega))
   omega
 ·have hlt := okV_lt _ 0 h1 _ e
  by_cases hz : endV 0 (vsC cs) = 0
  ·rw [hz] at hlt; have := hle.1; omega
  ·have := hle.2 _ (okV_all _ 0 h1 (endV 0 (vsC cs) - 1) (Nat.zero_le _) (by omega))
   omega
theorem one_sliceC (q : Option Addr) (m c : Nat) : ∀ u ∈ [Value.slice q m c], u.oneCell' = true := fun u hu => by simp at hu; rw [hu]; rfl
theorem ArgRowU.at {w : World} : ∀ {rs : List (Option Addr × Nat × Nat)} {ts : List Tr}, ArgRowU w rs ts → ∀ i (h : i < ts.length), ∃ r, rs[i]? = some r ∧ TI w r.1 r.2.1 r.2.2 ts[i]
 | [], [], _, i, h => by simp at h
 | r :: rs, t :: ts, h, 0, _ => ⟨r, rfl, show r.2.1 = t.2.cells.length + 1 by have := h.1; omega, h.2.1, h.2.2.1, h.2.2.2.1⟩
 | r :: rs, t :: ts, h, i + 1, hi => by
   obtain ⟨r', h1, h2⟩ := ArgRowU.at h.2.2.2.2 i (by simpa using hi); exact ⟨r', by simpa using h1, by simpa using h2⟩
 | [], _ :: _, h, _, _ => h.elim
 | _ :: _, [], h, _, _ => h.elim
theorem ArgRowU.cat {w : World} : ∀ {rs : List (Option Addr × Nat × Nat)} {ts : List Tr} {r : Option Addr × Nat × Nat} {t : Tr}, ArgRowU w rs ts → TI w r.1 r.2.1 r.2.2 t → ArgRowU w (rs ++ [r]) (ts ++ [t]) := fun h ht => ArgRowU.snoc (by have := ht.1; omega) ht.2.1 ht.2.2.1 ht.2.2.2 h
def GoOut (w0 w : World) (t : Tr) (e : Ending) (w' : World) : Prop :=
 ∃ p m mc rs, e = .returned (.tuple #[.slice p m mc, .bool ((goalsT t).all goodG)]) ∧ ((goalsT t).all goodG = true → m = (goalsT t).length ∧ w'.ownsRow w.heap.size 27 1 (.slice p m mc) m (rs.map slV) ∧ ArgRowU w0 rs (goalsT t)) ∧ Below w.heap.size w w'
theorem conj_size : ∀ (N : Nat) (c : Cel) (k : Fo), k.cells.length ≤ N → ∀ x ∈ conjL c k, x.2.cells.length ≤ k.cells.length
 | N, c, k, hN, x, hx => by
   by_cases hc : c = comma
   ·match k with
    | .node c1 k1 (.node c2 k2 .nil) =>
      subst hc
      cases N with
      | zero => simp [Fo.cells] at hN
      | succ N =>
        rw [conjL_comma] at hx
        rcases List.mem_cons.1 hx with rfl | hx
        ·simp [Fo.cells]; omega
        ·have ih := conj_size N c2 k2 (by simp [Fo.cells] at hN; omega) x hx
         simp [Fo.cells]; omega
    | .nil => unfold conjL at hx; unfold splitC at hx; simp at hx; rw [hx]; simp
    | .node c1 k1 .nil => unfold conjL at hx; unfold splitC at hx; simp at hx; rw [hx]; simp
    | .node c1 k1 (.node c2 k2 (.node c3 k3 r)) => unfold conjL at hx; unfold splitC at hx; simp at hx; rw [hx]; simp
   ·rw [conjL_other c k hc] at hx; simp at hx; rw [hx]; simp
theorem conj_ok : ∀ (N : Nat) (c : Cel) (k : Fo), k.cells.length ≤ N → (Fo.node c k .nil).ok → ∀ x ∈ conjL c k, (Fo.node x.1 x.2 .nil).ok
 | N, c, k, hN, hok, x, hx => by
   by_cases hc : c = comma
   ·match k, hok with
    | .node c1 k1 (.node c2 k2 .nil), hok =>
      subst hc
      cases N with
      | zero => simp [Fo.cells] at hN
      | succ N =>
        have hk := hok.2.2.2.2.1; rw [conjL_comma] at hx
        rcases List.mem_cons.1 hx with rfl | hx
        ·exact ⟨hk.1, hk.2.1, hk.2.2.1, hk.2.2.2.1, hk.2.2.2.2.1, trivial⟩
        ·exact conj_ok N c2 k2 (by simp [Fo.cells] at hN; omega) hk.2.2.2.2.2 x hx
    | .nil, hok => unfold conjL at hx; unfold splitC at hx; simp at hx; rw [hx]; exact hok
    | .node c1 k1 .nil, hok => unfold conjL at hx; unfold splitC at hx; simp at hx; rw [hx]; exact hok
    | .node c1 k1 (.node c2 k2 (.node c3 k3 r)), hok => unfold conjL at hx; unfold splitC at hx; simp at hx; rw [hx]; exact hok
   ·rw [conjL_other c k hc] at hx; simp at hx; rw [hx]; exact hok
theorem TI.second {w : World} {q : Option Addr} {n c : Nat} {t : Tr} (h : TI w q n c t) (hok : (Fo.node t.1 t.2 .nil).ok) (h3 : t.1.1 = 3) (h1 : t.1.2.1 = 1) : 1 < n ∧ ∃ b o, q = some ⟨b, o, none⟩ ∧ w.cell? ⟨b, o + 3, none⟩ = some (.int .i64 (kid0 t).1.1) := by
 have hcnt : t.2.count = 1 := by have := hok.2.2.1 h3; omega
 obtain ⟨c1, k, e⟩ : ∃ c1 k, t = (c1, k) := ⟨_, _, rfl⟩
 subst e
 cases k with
 | nil => simp [Fo.count] at hcnt
 | node c2 k2 r =>
   have hl : 1 < n := by have := h.1; simp [Fo.cells] at this; omega
   obtain ⟨b, o, rfl, hc⟩ := h.2.2.2 (by simp); obtain ⟨q1, qc, d0, d1, d2, d3⟩ := hc 1 (by simp [Fo.cells]); refine ⟨hl, b, o, rfl, ?_⟩
   simpa [Fo.cells, kid0, trs] using d0
set_option maxHeartbeats 2000000 in
theorem goals_any (t : Tr) (q : Option Addr) (n cap : Nat) (w : World) (hok : (Fo.node t.1 t.2 .nil).ok) (hn : n ≤ 2000) (hin : TI w q n cap t) :
  Calls Tryz.prog 42 #[.slice q n cap] w (GoOut w w t) := by
 have HI0 := isT_any hin ⟨#[116, 114, 117, 101]⟩ 0; have e0 : isB (strOfNums t.1.2.2) ⟨#[116, 114, 117, 101]⟩ t.1.1 t.1.2.1 0 = decide (t.1 = trueC) := isB_zero hok.2.1 hok.1 [116, 114, 117, 101]; rw [e0] at HI0
 by_cases ht : t.1 = trueC
 ·rw [decide_eq_true ht] at HI0
  have eg : goalsT t = [] := by unfold goalsT; rw [if_pos ht]
  have HO : Hid (GoOut w w t (.returned (.tuple #[.slice none 0 0, .bool true])) w) := ⟨none, 0, 0, [], by rw [eg]; rfl, fun _ => ⟨by rw [eg]; rfl, World.ownsRow_nil _ _ _ _, by rw [eg]; trivial⟩, Below.refl _ _⟩
  clear hok hin ht eg e0
  go_enter Tryz.func42, Tryz.ntmps42
  go_wp2_with fail; refine HI0.mono ?_; rintro e w1 ⟨rfl, hw1⟩; subst hw1; go_wp2_with fail
  go_ret2
  exact HO.out
 ·rw [decide_eq_false ht] at HI0
  have eg : goalsT t = conjL t.1 t.2 := by unfold goalsT; rw [if_neg ht]
  have HGO : Hid (goalsT t = conjL t.1 t.2) := eg; have HOK0 : Hid (Fo.node t.1 t.2 .nil).ok := hok; have HIN0 : Hid (TI w q n cap t) := hin
  have hn1 : t.2.cells.length + 1 = n := by have := hin.1; omega
  have hcn : n ≤ cap ∧ cap ≤ 9223372036854775807 := ⟨hin.2.1, hin.2.2.1⟩
  obtain ⟨i0, hi, hz0, hz1, hz2⟩ := info_parts infoCells; clear hok hin ht eg e0
  go_enter Tryz.func42, Tryz.ntmps42
  go_wp2_with fail; refine HI0.mono ?_; rintro e w1 ⟨rfl, hw1⟩; subst hw1; clear HI0; go_wp2_with fail
  go_loopw [0, 4] (fun s out wr => ∃ (its : List Tr) (t' : Tr) (q' : Option Addr) (n' cap' : Nat) (rs : List (Option Addr × Nat × Nat)) (p4 : Option Addr) (n4 c4 : Nat), n4 + n' ≤ 2000 ∧ (n' ≤ cap' ∧ cap' ≤ 9223372036854775807) ∧ s = .slice q' n' cap' ∧ out = .slice p4 n4 c4 ∧ Hid (splitC t.1 t.2 = (its ++ (splitC t'.1 t'.2).1, (splitC t'.1 t'.2).2) ∧ n4 = its.length) ∧
   Hid (TI w1 q' n' cap' t') ∧ Hid (Fo.node t'.1 t'.2 .nil).ok ∧ Hid (ArgRowU w1 rs its) ∧ Hid (wr.ownsRow w1.heap.size 27 1 (.slice p4 n4 c4) n4 (rs.map slV)) ∧ Hid (Below w1.heap.size w1 wr)) (fun _ out _ => 2001 - lenOf out)
  case atStart => exact ⟨[], t, q, n, cap, [], none, 0, 0, by omega, hcn, rfl, rfl, ⟨rfl, rfl⟩, HIN0, HOK0, trivial, World.ownsRow_nil _ _ _ _, Below.refl _ _⟩
  case round =>
   obtain ⟨its, t', q', n', cap', rs, p4, n4, c4, hn4, hcp, rfl, rfl, HF, HT, HO, HA, HR, HB⟩ := hrel; have HIS := isT_any (HT.out.below HB.out) ⟨#[44]⟩ 2; have e1 : isB (strOfNums t'.1.2.2) ⟨#[44]⟩ t'.1.1 t'.1.2.1 2 = decide (t'.1 = comma) := isB_pos HO.out.2.1 [44] 2 (by decide); rw [e1] at HIS; clear e1; have hBs : w1.heap.size ≤ wr.heap.size := HB.out.size
   by_cases hc : t'.1 = comma
   ·rw [decide_eq_true hc] at HIS
    have h3 : t'.1.1 = 3 := by rw [hc]; rfl
    have hcnt : t'.2.count = 2 := by
     have h9 := HO.out.2.2.1 h3; rw [hc] at h9; have e2 : (comma.2.1 : Int) = 2 := rfl
     omega
    have HAR := l2argsU_any t'.1 t'.2 q' n' cap' w1 wr HB.out h3 HO.out (by have := HT.out.1; simp; omega) (by omega) hcp.1 hcp.2 HT.out.2.2.2
    unfold ArgsOutU at HAR
    obtain ⟨c1, k1, c2, k2, ek⟩ := two_of hcnt
    have etr : trs t'.2 = [(c1, k1), (c2, k2)] := by rw [ek]; rfl
    rw [etr, hcnt] at HAR
    have HNX : Hid (splitC t.1 t.2 = ((its ++ [(c1, k1)]) ++ (splitC c2 k2).1, (splitC c2 k2).2) ∧ (its ++ [(c1, k1)]).length = n4 + 1 ∧ (Fo.node c2 k2 .nil).ok ∧ k1.cells.length + k2.cells.length + 3 ≤ n') := by
     have hk := HO.out.2.2.2.2.1; rw [ek] at hk; refine ⟨?_, by simp [HF.out.2], hk.2.2.2.2.2, ?_⟩
     ·rw [HF.out.1, hc, ek, splitC_comma]; simp
     ·have := HT.out.1; rw [ek] at this; simp [Fo.cells] at this; omega
    have HRW : Hid (wr.ownsRow w1.heap.size 27 1 (.slice p4 n4 c4) n4 (rs.map slV)) := HR.out; clear hc h3 hcnt ek etr HT HO HR HF; go_wp2_with fail; refine HIS.mono ?_; rintro e w2 ⟨rfl, hw2⟩; subst hw2; go_wp2_with fail; refine HAR.mono ?_; rintro e w3 ⟨q5, m5, mc5, rs5, rfl, hm5, hrow5, harg5, hb5⟩
    obtain ⟨r1, r2, e5⟩ : ∃ r1 r2, rs5 = [r1, r2] := by
     have hl := ArgRowU.len harg5
     match rs5, hl with
     | [r1, r2], _ => exact ⟨r1, r2, rfl⟩
    subst e5; subst hm5; obtain ⟨g5, cap5, hv5, hbg5, hgl5⟩ := World.ownsRow.form hrow5 (by decide)
    obtain ⟨rfl, rfl⟩ : q5 = some ⟨g5, 0, none⟩ ∧ mc5 = cap5 := by injection hv5 with h1 _ h2; exact ⟨h1, h2⟩
    have x0 : w3.cell? ⟨g5, 0, none⟩ = some (.slice r1.1 r1.2.1 r1.2.2) := hrow5.cellAt 0 (by decide); have x1 : w3.cell? ⟨g5, 1, none⟩ = some (.slice r2.1 r2.2.1 r2.2.2) := hrow5.cellAt 1 (by decide); obtain ⟨a1, a2, a3, a4, a5, a6, a7, a8, _⟩ := harg5
    have HT1 : Hid (TI w1 r1.1 r1.2.1 r1.2.2 (c1, k1)) := ⟨by show r1.2.1 = k1.cells.length + 1; simp only at a1; omega, a2, a3, a4⟩
    have HT2 : Hid (TI w1 r2.1 r2.2.1 r2.2.2 (c2, k2)) := ⟨by show r2.2.1 = k2.cells.length + 1; simp only at a5; omega, a6, a7, a8⟩
    have HR3 : Hid (w3.ownsRow w1.heap.size 27 1 (.slice p4 n4 c4) n4 (rs.map slV)) := row_below HRW.out hb5; have HB3 : Hid (Below w1.heap.size w1 w3) := Below.on HB.out hb5; have hBs3 : w1.heap.size ≤ w3.heap.size := HB3.out.size
    have HG5 : Hid (∀ k, Value.ownBlock (.slice p4 n4 c4) = some k → k ≠ g5) := fun k hk => by have := (HRW.out.lt k hk).2; omega
    have hr1 : r1.2.1 ≤ 2000 ∧ r1.2.2 ≤ 9223372036854775807 := ⟨by have h9 := HNX.out.2.2.2; have h8 : r1.2.1 = k1.cells.length + 1 := HT1.out.1; omega, a3⟩
    clear a1 a2 a3 a4 a5 a6 a7 a8 hrow5 hv5 hbg5 hb5 HAR HIS; obtain ⟨rp1, rn1, rc1⟩ := r1; obtain ⟨rp2, rn2, rc2⟩ := r2; simp only at x0 x1 HT1 HT2 hr1; go_wp2_with (at_builtin; refine wpList_append_lies _ rfl _ _ 38 rfl w1.heap.size 27 i0 (.slice none 0 0) 1 24 Tryz.underlying38 hi hz0 hz1 hz2 rfl (by decide) (.slice p4 n4 c4) n4 (rs.map slV) rfl (HR3.out.alloc _) ⟨w3.heap.size, 0, none⟩ 1 1 [.slice rp1 rn1 rc1] rfl rfl (cell_one_new _ _ _) (one_sliceC _ _ _) (by decide) (by unfold maxLen; omega) (by omega) (by simp; omega) _ rfl ?_; intro g6 cap6 w6 hown6 hgrow6 hat6 hlt6; have y1 : w6.cell? ⟨g5, 1, none⟩ = some (.slice rp2 rn2 rc2) := (World.cell?_of_block (hgrow6.block g5 (by simp; omega) (fun e => HG5.out g5 e.symm rfl))).trans (Lib.cell?_alloc_marked _ x1))
    have HO6 : Hid (w6.ownsRow w1.heap.size 27 1 (.slice (some ⟨g6, 0, none⟩) (n4 + 1) cap6) (n4 + 1) ((rs ++ [(rp1, rn1, rc1)]).map slV)) := by
     show World.ownsRow _ _ _ _ _ _ _
     rw [List.map_append]; exact hown6
    have HB6 : Hid (Below w1.heap.size w1 w6) := (HB3.out.alloc hBs3 _).trans ((Below.refl _ _).grown hgrow6 (by simp; omega) (fun k hk => (HR3.out.lt k hk).1)); clear hown6 hgrow6 hat6 x0 x1 y1; go_wp2_with fail; go_roundw
    case rel => exact ⟨its ++ [(c1, k1)], (c2, k2), rp2, rn2, rc2, rs ++ [(rp1, rn1, rc1)], _, n4 + 1, cap6, by have h8 : rn2 = k2.cells.length + 1 := HT2.out.1; have := HNX.out.2.2.2; omega, ⟨HT2.out.2.1, HT2.out.2.2.1⟩, rfl, rfl, ⟨HNX.out.1, HNX.out.2.1.symm⟩, HT2, HNX.out.2.2.1, ArgRowU.cat HA.out HT1.out, HO6, HB6⟩
    case measure => simp [lenOf]; omega
   ·rw [decide_eq_false hc] at HIS
    have HCJ : Hid (conjL t.1 t.2 = its ++ [t'] ∧ n4 = its.length) := by
     have h1 := HF.out.1; rw [splitC_other t'.1 t'.2 hc, List.append_nil] at h1; exact ⟨by unfold conjL; rw [h1], HF.out.2⟩
    have HRW : Hid (wr.ownsRow w1.heap.size 27 1 (.slice p4 n4 c4) n4 (rs.map slV)) := HR.out
    have hn4' : n4 ≤ 2000 := by omega
    clear hc HF HR; go_wp2_with (first | (go_at_call 37; refine HIS.mono ?_; rintro e w2 ⟨rfl, hw2⟩; rw [hw2]) | (at_builtin; refine wpList_append_lies _ rfl _ _ 38 rfl w1.heap.size 27 i0 (.slice none 0 0) 1 24 Tryz.underlying38 hi hz0 hz1 hz2 rfl (by decide) (.slice p4 n4 c4) n4 (rs.map slV) rfl (HRW.out.alloc _) ⟨wr.heap.size, 0, none⟩ 1 1 [.slice q' n' cap'] rfl rfl (cell_one_new _ _ _) (one_sliceC _ _ _) (by decide) (by unfold maxLen; omega) (by omega) (by simp; omega) _ rfl ?_; intro g6 cap6 w6 hown6 hgrow6 hat6 hlt6))
    have HO6 : Hid (w6.ownsRow w1.heap.size 27 1 (.slice (some ⟨g6, 0, none⟩) (n4 + 1) cap6) (n4 + 1) ((rs ++ [(q', n', cap')]).map slV)) := by
     show World.ownsRow _ _ _ _ _ _ _
     rw [List.map_append]; exact hown6
    have HB6 : Hid (Below w1.heap.size w1 w6) := (HB.out.alloc hBs _).trans ((Below.refl _ _).grown hgrow6 (by simp; omega) (fun k hk => (HRW.out.lt k hk).1))
    obtain ⟨gs, egs⟩ : ∃ gs, gs = its ++ [t'] := ⟨_, rfl⟩
    obtain ⟨rs6, ers6⟩ : ∃ rs6, rs6 = rs ++ [(q', n', cap')] := ⟨_, rfl⟩
    have HA6 : Hid (ArgRowU w1 rs6 gs) := by show ArgRowU _ _ _; rw [egs, ers6]; exact ArgRowU.cat HA.out HT.out
    have HGS : Hid (goalsT t = gs ∧ gs.length = n4 + 1) := ⟨by rw [HGO.out, HCJ.out.1, egs], by rw [egs, List.length_append, HCJ.out.2]; rfl⟩
    have HGK : Hid (∀ x ∈ gs, (Fo.node x.1 x.2 .nil).ok ∧ x.2.cells.length ≤ 2000) := fun x hx => by
     rw [egs, ← HCJ.out.1] at hx; refine ⟨conj_ok _ t.1 t.2 (Nat.le_refl _) HOK0.out x hx, ?_⟩; have := conj_size _ t.1 t.2 (Nat.le_refl _) x hx
     omega
    rw [← ers6] at HO6; clear hown6 hgrow6 hat6 HIS HA HT HO HCJ egs ers6 HRW hcp; go_wp2_with fail
    go_loop [6] (fun i => ∃ j : Nat, j ≤ n4 + 1 ∧ i = .int .i64 j ∧ Hid ((gs.take j).all goodG = true)) (fun i => n4 + 1 - (intOf i).toNat)
    case atStart => exact ⟨0, Nat.zero_le _, rfl, rfl⟩
    case round =>
     obtain ⟨j, hj, rfl, HAL⟩ := hrel
     by_cases hlt : j < n4 + 1
     ·have hjg : j < gs.length := by rw [HGS.out.2]; exact hlt
      obtain ⟨r, hr, hti⟩ := ArgRowU.at HA6.out j hjg; have hrl := ArgRowU.len HA6.out; have d0 := HO6.out.cellAt j (by omega); rw [List.getElem?_map, hr] at d0; have d0' : w6.cell? ⟨g6, j, none⟩ = some (.slice r.1 r.2.1 r.2.2) := d0; obtain ⟨rp, rn, rc⟩ := r; simp only at d0' hti; have hti6 := hti.below HB6.out; have hmem := HGK.out gs[j] (List.getElem_mem hjg)
      have hrn : rn ≤ 2001 ∧ rc ≤ 9223372036854775807 := ⟨by have := hti.1; omega, hti.2.2.1⟩
      have HCA := callable_any hti6 (by omega)
      have HNOT : Hid (goodG gs[j] = false → GoOut w1 w1 t (.returned (.tuple #[.slice none 0 0, .bool false])) w6) := fun hf => by
       have ha : gs.all goodG = false := by
        cases hh : gs.all goodG with
        | false => rfl
        | true =>
          have := List.all_eq_true.1 hh gs[j] (List.getElem_mem hjg); rw [hf] at this; exact absurd this (by decide)
       refine ⟨none, 0, 0, [], by rw [HGS.out.1, ha], fun h => ?_, HB6.out⟩; rw [HGS.out.1, ha] at h; exact absurd h (by decide)
      have HNXT : Hid (goodG gs[j] = true → (gs.take (j + 1)).all goodG = true) := fun hg => by
       rw [List.take_succ_eq_append_getElem hjg, List.all_append, HAL.out]
       simp [hg]
      have eG : goodG gs[j] = (calC gs[j].1 && (!conG gs[j].1 && (!spcC gs[j].1 || decide ((kid0 gs[j]).1.1 = 0)))) := rfl
      cases hcal : calC gs[j].1 with
      | false =>
        have HO9 : Hid _ := HNOT.out (by rw [eG, hcal]; rfl); rw [hcal] at HCA; clear HNOT HNXT eG hcal hti hti6 hmem d0 hr hrl HAL; go_wp2_with fail; refine HCA.mono ?_; rintro e w7 ⟨rfl, hw7⟩; rw [hw7]; go_wp2_with fail
        go_ret2
        exact HO9.out
      | true =>
        rw [hcal] at HCA; have HCO := conM_any hti6 hmem.1 hcal; have HSP := special_any hti6 hmem.1.2.1
        cases hcon : conG gs[j].1 with
        | true =>
          have HO9 : Hid _ := HNOT.out (by rw [eG, hcal, hcon]; rfl); rw [hcon] at HCO; clear HNOT HNXT eG hcal hti hti6 hmem d0 hr hrl HAL hcon HSP; go_wp2_with fail; refine HCA.mono ?_; rintro e w7 ⟨rfl, hw7⟩; rw [hw7]; go_wp2_with fail; refine HCO.mono ?_; rintro e w8 ⟨rfl, hw8⟩; rw [hw8]; go_wp2_with fail
          go_ret2
          exact HO9.out
        | false =>
          rw [hcon] at HCO
          cases hsp : spcC gs[j].1 with
          | false =>
            rw [hsp] at HSP; have HN9 : Hid _ := HNXT.out (by rw [eG, hcal, hcon, hsp]; rfl); clear HNOT HNXT eG hcal hti hti6 hmem d0 hr hrl HAL hcon hsp; go_wp2_with fail; refine HCA.mono ?_; rintro e w7 ⟨rfl, hw7⟩; rw [hw7]; go_wp2_with fail; refine HCO.mono ?_; rintro e w8 ⟨rfl, hw8⟩; rw [hw8]; go_wp2_with fail; refine HSP.mono ?_; rintro e w9 ⟨rfl, hw9⟩; rw [hw9]; go_wp2_with fail
            go_round
            case rel => exact ⟨j + 1, by omega, by go_num, HN9⟩
            case measure => simp [intOf]; omega
          | true =>
            have h13 : gs[j].1.1 = 3 ∧ gs[j].1.2.1 = 1 := by
             unfold spcC at hsp
             rw [decide_eq_true_eq] at hsp; exact ⟨hsp.1, hsp.2.1⟩
            obtain ⟨h1n, b9, o9, eq9, d9⟩ := TI.second hti6 hmem.1 h13.1 h13.2; have hkb : 0 ≤ (kid0 gs[j]).1.1 ∧ (kid0 gs[j]).1.1 ≤ 3 ∨ True := .inr trivial; rw [hsp] at HSP; subst eq9
            cases hk0 : decide ((kid0 gs[j]).1.1 = 0) with
            | true =>
              have HN9 : Hid _ := HNXT.out (by rw [eG, hcal, hcon, hsp, hk0]; rfl); have hz : (kid0 gs[j]).1.1 = 0 := of_decide_eq_true hk0; rw [hz] at d9; clear HNOT HNXT eG hcal hti hti6 hmem d0 hr hrl HAL hcon hsp hk0 hz hkb h13; go_wp2_with fail; refine HCA.mono ?_; rintro e w7 ⟨rfl, hw7⟩; rw [hw7]; go_wp2_with fail; refine HCO.mono ?_; rintro e w8 ⟨rfl, hw8⟩; rw [hw8]; go_wp2_with fail; refine HSP.mono ?_; rintro e w9 ⟨rfl, hw9⟩; rw [hw9]; go_wp2_with fail
              go_round
              case rel => exact ⟨j + 1, by omega, by go_num, HN9⟩
              case measure => simp [intOf]; omega
            | false =>
              have HO9 : Hid _ := HNOT.out (by rw [eG, hcal, hcon, hsp, hk0]; rfl); have hz : ¬ (kid0 gs[j]).1.1 = 0 := of_decide_eq_false hk0
              generalize (kid0 gs[j]).1.1 = kx at d9 hz
              clear HNOT HNXT eG hcal hti hti6 hmem d0 hr hrl HAL hcon hsp hk0 hkb h13; go_wp2_with fail; refine HCA.mono ?_; rintro e w7 ⟨rfl, hw7⟩; rw [hw7]; go_wp2_with fail; refine HCO.mono ?_; rintro e w8 ⟨rfl, hw8⟩; rw [hw8]; go_wp2_with fail; refine HSP.mono ?_; rintro e w9 ⟨rfl, hw9⟩; rw [hw9]; go_wp2_with fail
              go_ret2
              exact HO9.out
     ·obtain rfl : j = n4 + 1 := by omega
      have HOF : Hid (GoOut w1 w1 t (.returned (.tuple #[.slice (some ⟨g6, 0, none⟩) (n4 + 1) cap6, .bool true])) w6) := by
       have e1 : gs.take (n4 + 1) = gs := by rw [← HGS.out.2]; exact List.take_length
       have h1 := HAL.out; rw [e1] at h1; exact ⟨_, _, _, rs6, by rw [HGS.out.1, h1], fun _ => ⟨by rw [HGS.out.1]; exact HGS.out.2.symm, HO6.out, by rw [HGS.out.1]; exact HA6.out⟩, HB6.out⟩
      clear HAL; go_wp2_with fail
      go_ret2
      exact HOF.out
end Go.Proofs.YtickbkcpcgmlmaaGreatDoor
