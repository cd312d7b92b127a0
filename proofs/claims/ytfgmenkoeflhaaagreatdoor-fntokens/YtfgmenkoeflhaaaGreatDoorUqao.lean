/- Texts of OpsV3, OpsP, RegK, OpsS1. Own work of the verifier. -/
import Derived.Test.YtfgmenkoeflhaaaGreatDoorUqan
namespace Go.Proofs.YtfgmenkoeflhaaaGreatDoor
set_option linter.unusedVariables false
section
open Go Go.RowKit
def okB (k n : Int) (s : ByteArray) (m : Nat) : Bool := decide (1 ≤ m ∧ m ≤ 100) && (decide (0 ≤ n ∧ n ≤ 6) && (decide (1 ≤ k ∧ k ≤ 1200) && (if s.toList == [44] then (k == 1000 && n == 1) else !resB s)))
def ltO (a b : Cel) : Bool := decide (opCmp a b < 0)
def okC (c : Cel) : Bool := okB c.1 c.2.1 (strOfNums c.2.2) c.2.2.length
def comC (c : Cel) : Bool := (strOfNums c.2.2).toList == [44]
def chainO : Option Cel → List Cel → Bool
 | _, [] => true
 | a, c :: r => okC c && (match a with | none => true | some x => ltO x c) && chainO (some c) r
def tabB (cs : List Cel) : Bool := decide (cs.length ≤ 200) && (chainO none cs && cs.any comC)
def befO (cs : List Cel) (k : Nat) : Option Cel := if k = 0 then none else some (cs.getD (k - 1) Cel.none)
theorem chainO_at (cs : List Cel) (k : Nat) (h : k < cs.length) : chainO (befO cs k) (cs.drop k) = (okC (cs.getD k Cel.none) && (match befO cs k with | none => true | some x => ltO x (cs.getD k Cel.none)) && chainO (befO cs (k + 1)) (cs.drop (k + 1))) := by
 have e : befO cs (k + 1) = some (cs.getD k Cel.none) := by simp [befO]
 rw [drop_at cs k h, e]
 generalize befO cs k = a
 cases a <;> rfl
theorem opCmp_lt (x y : Cel) : opCmp x y < 0 ↔ Op.bytesLess (strOfNums x.2.2).toList (strOfNums y.2.2).toList = true ∨ ((strOfNums x.2.2).toList = (strOfNums y.2.2).toList ∧ srt x.2.1 < srt y.2.1) := by
 unfold opCmp orI cmpI cmpS
 cases h1 : Op.bytesLess (strOfNums x.2.2).toList (strOfNums y.2.2).toList with
 | true => simp
 | false =>
   by_cases e : (strOfNums x.2.2).toList = (strOfNums y.2.2).toList
   ·simp only [e]
    simp
    split
    ·simp; omega
    ·split <;> simp <;> omega
   ·simp [e]
theorem ltO_trans {x y z : Cel} (h1 : ltO x y = true) (h2 : ltO y z = true) : ltO x z = true := by
 simp only [ltO, decide_eq_true_eq, opCmp_lt] at *
 rcases h1 with h1 | ⟨h1, h1'⟩ <;> rcases h2 with h2 | ⟨h2, h2'⟩
 ·exact .inl (bl_trans _ _ _ h1 h2)
 ·exact .inl (h2 ▸ h1)
 ·exact .inl (h1 ▸ h2)
 ·exact .inr ⟨h1.trans h2, by omega⟩
theorem com_srt {c : Cel} (h : okC c = true) (hc : comC c = true) : srt c.2.1 = 1 := by
 simp only [okC, okB, Bool.and_eq_true] at h; rw [comC] at hc; rw [if_pos hc] at h; simp only [Bool.and_eq_true, beq_iff_eq] at h; rw [h.2.2.2.2]; decide
theorem com_not_lt {x y : Cel} (hx : okC x = true) (hy : okC y = true) (cx : comC x = true) (cy : comC y = true) : ltO x y = false := by
 rw [ltO, decide_eq_false_iff_not, opCmp_lt]
 have ex : (strOfNums x.2.2).toList = [44] := by simpa [comC] using cx
 have ey : (strOfNums y.2.2).toList = [44] := by simpa [comC] using cy
 rw [ex, ey, bl_irrefl, com_srt hx cx, com_srt hy cy]
 simp
theorem chainO_all : ∀ (cs : List Cel) (a : Cel), chainO (some a) cs = true → ∀ c ∈ cs, ltO a c = true ∧ okC c = true
 | [], a, _, c, hc => by cases hc
 | x :: r, a, h, c, hc => by
   simp only [chainO, Bool.and_eq_true] at h
   rcases List.mem_cons.1 hc with rfl | hc
   ·exact ⟨h.1.2, h.1.1⟩
   ·have := chainO_all r x h.2 c hc
    exact ⟨ltO_trans h.1.2 this.1, this.2⟩
theorem com_count : ∀ (cs : List Cel) (a : Option Cel), chainO a cs = true → cs.countP comC = if cs.any comC then 1 else 0
 | [], _, _ => rfl
 | x :: r, a, h => by
   simp only [chainO, Bool.and_eq_true] at h; have ih := com_count r (some x) h.2; rw [List.countP_cons, ih]
   cases hx : comC x with
   | false => rw [List.any_cons, hx]; cases r.any comC <;> simp
   | true =>
     have : r.any comC = false := by
      rw [List.any_eq_false]
      intro c hc hcc
      have := chainO_all r x h.2 c hc; rw [com_not_lt h.1.1 this.2 hx hcc] at this
      cases this.1
     rw [List.any_cons, hx, this]; simp
def keyC (c : Cel) : List UInt8 × Int := ((strOfNums c.2.2).toList, srt c.2.1)
theorem ltO_iff_key (x y : Cel) : ltO x y = true ↔ Op.bytesLess (keyC x).1 (keyC y).1 = true ∨ ((keyC x).1 = (keyC y).1 ∧ (keyC x).2 < (keyC y).2) := by
 rw [ltO, decide_eq_true_eq, opCmp_lt]; rfl
theorem ltO_tri {x y : Cel} (hk : keyC x ≠ keyC y) (h : ltO x y = false) : ltO y x = true := by
 have h' : ¬ ltO x y = true := by rw [h]; simp
 rw [ltO_iff_key] at h' ⊢
 by_cases e : (keyC x).1 = (keyC y).1
 ·refine .inr ⟨e.symm, ?_⟩
  have n : ¬ (keyC x).2 < (keyC y).2 := fun z => h' (.inr ⟨e, z⟩)
  have n2 : (keyC x).2 ≠ (keyC y).2 := fun z => hk (Prod.ext e z)
  omega
 ·exact .inl (bl_tri _ _ (by simpa using fun z => h' (.inl z)) e)
def putL (o : Cel) : Bool → List Cel → List Cel
 | done, [] => if done then [] else [o]
 | done, x :: r => if keyC x = keyC o then putL o done r else if !done && ltO o x then o :: x :: putL o true r else x :: putL o done r
def putO (cs : List Cel) (o : Cel) : List Cel := putL o (o.1 == 0) cs
theorem putL_done (o : Cel) : ∀ cs : List Cel, putL o true cs = cs.filter (fun x => decide (keyC x ≠ keyC o))
 | [] => rfl
 | x :: r => by
   rw [putL, putL_done o r, List.filter_cons]
   by_cases e : keyC x = keyC o <;> simp [e]
theorem putL_mem (o : Cel) : ∀ (cs : List Cel) (x : Cel), x ∈ putL o false cs ↔ x = o ∨ (x ∈ cs ∧ keyC x ≠ keyC o)
 | [], x => by simp [putL]
 | y :: r, x => by
   have ih := putL_mem o r x; rw [putL]
   by_cases e : keyC y = keyC o
   ·rw [if_pos e, ih, List.mem_cons]
    constructor
    ·rintro (h | h)
     ·exact .inl h
     ·exact .inr ⟨.inr h.1, h.2⟩
    ·rintro (h | ⟨h | h, h2⟩)
     ·exact .inl h
     ·exact absurd (h ▸ e) h2
     ·exact .inr ⟨h, h2⟩
   ·rw [if_neg e]
    by_cases l : ltO o y = true
    ·rw [if_pos (by simp [l]), putL_done]
     simp only [List.mem_cons, List.mem_filter, decide_eq_true_eq]
     constructor
     ·rintro (h | h | h)
      ·exact .inl h
      ·exact .inr ⟨.inl h, by rw [h]; exact e⟩
      ·exact .inr ⟨.inr h.1, h.2⟩
     ·rintro (h | ⟨h | h, h2⟩)
      ·exact .inl h
      ·exact .inr (.inl h)
      ·exact .inr (.inr ⟨h, h2⟩)
    ·rw [if_neg (by simp [l]), List.mem_cons, ih, List.mem_cons]
     constructor
     ·rintro (h | h | h)
      ·exact .inr ⟨.inl h, by rw [h]; exact e⟩
      ·exact .inl h
      ·exact .inr ⟨.inr h.1, h.2⟩
     ·rintro (h | ⟨h | h, h2⟩)
      ·exact .inr (.inl h)
      ·exact .inl h
      ·exact .inr (.inr ⟨h, h2⟩)
def Asc (cs : List Cel) : Prop := cs.Pairwise (fun x y => ltO x y = true)
theorem Asc.filter {cs : List Cel} (h : Asc cs) (p : Cel → Bool) : Asc (cs.filter p) := List.Pairwise.filter p h
theorem putL_asc (o : Cel) : ∀ cs : List Cel, Asc cs → Asc (putL o false cs)
 | [], _ => by simp [putL, Asc]
 | y :: r, h => by
   have h1 := List.pairwise_cons.1 h; have ih := putL_asc o r h1.2; rw [putL]
   by_cases e : keyC y = keyC o
   ·rw [if_pos e]; exact ih
   ·rw [if_neg e]
    by_cases l : ltO o y = true
    ·rw [if_pos (by simp [l]), putL_done]
     refine List.Pairwise.cons (fun z hz => ?_) (List.Pairwise.cons (fun z hz => h1.1 z (List.mem_filter.1 hz).1) (h1.2.filter _))
     rcases List.mem_cons.1 hz with rfl | hz
     ·exact l
     ·exact ltO_trans l (h1.1 z (List.mem_filter.1 hz).1)
    ·rw [if_neg (by simp [l])]
     refine List.Pairwise.cons (fun z hz => ?_) ih
     rcases (putL_mem o r z).1 hz with rfl | hz
     ·exact ltO_tri (fun x => e x.symm) (by simpa using l)
     ·exact h1.1 z hz.1
def findK (cs : List Cel) (k : List UInt8 × Int) : Option Cel := cs.find? (fun x => decide (keyC x = k))
end
section
open Go
section
variable {P : Program} {ops : Array Oper} {Q : Exit → Act → World → Prop} {md : Region.Mode} {S : World → Prop}
theorem hTake {i : Nat} {v : Value} {fuel : Nat} {listed : Array Bool} {a : Act} {w : World} (d : Option Tmp) (hd : (ops[i]?).map (·.dst) = some d)
 (hs : Region.noSelect ops = true) (hf : Region.free md ops listed i = true) (hr : (Region.ready md ops listed).contains i = true) (hw : (ops[i]?).map (fun o => Region.wanted o (yielded ops a.tmps)) = some true)
 (hQ : ∀ c a w, Q (.panic c) (a.put d v) w → Q (.panic c) a w) (hrun : ∀ o, ops[i]? = some o → ∀ w, S w → (execOp a.eval o).run P w = .ok (.value v) w) (hS : S w)
 (h : wpAnyH P md ops Q S fuel (listed.setIfInBounds i true) (a.put d v) w) : wpAnyH P md ops Q S (fuel + 1) listed a w := by
 cases hi : ops[i]? with
 | none => simp [hi] at hd
 | some o =>
   have hd' : o.dst = d := by simpa [hi] using hd
   have hw' : Region.wanted o (yielded ops a.tmps) = true := by simpa [hi] using hw
   subst hd'; exact wpAnyH_take hi hs hf hr hQ (.inl ⟨hw', hrun o hi⟩) hS h
theorem hSkip {i : Nat} {fuel : Nat} {listed : Array Bool} {a : Act} {w : World} (d : Option Tmp) (hd : (ops[i]?).map (·.dst) = some d)
 (hs : Region.noSelect ops = true) (hf : Region.free md ops listed i = true) (hr : (Region.ready md ops listed).contains i = true) (hw : (ops[i]?).map (fun o => Region.wanted o (yielded ops a.tmps)) = some false)
 (hQ : ∀ c a w, Q (.panic c) (a.put d undef) w → Q (.panic c) a w) (hS : S w)
 (h : wpAnyH P md ops Q S fuel (listed.setIfInBounds i true) (a.put d undef) w) : wpAnyH P md ops Q S (fuel + 1) listed a w := by
 cases hi : ops[i]? with
 | none => simp [hi] at hd
 | some o =>
   have hd' : o.dst = d := by simpa [hi] using hd
   have hw' : Region.wanted o (yielded ops a.tmps) = false := by simpa [hi] using hw
   subst hd'; exact wpAnyH_take hi hs hf hr hQ (.inr ⟨hw', rfl⟩) hS h
theorem hTk {i : Nat} {v : Value} {fuel : Nat} {listed : Array Bool} {a : Act} {w : World} (d : Option Tmp) (hrun : ∀ o, ops[i]? = some o → ∀ w, S w → (execOp a.eval o).run P w = .ok (.value v) w) (hS : S w)
 (h : wpAnyH P md ops Q S fuel (listed.setIfInBounds i true) (a.put d v) w) (hQ : ∀ c a w, Q (.panic c) (a.put d v) w → Q (.panic c) a w := by exact fun _ _ _ h => h) (hd : (ops[i]?).map (·.dst) = some d := by kernel_rfl)
 (hs : Region.noSelect ops = true := by kernel_rfl) (hf : Region.free md ops listed i = true := by kernel_rfl) (hr : (Region.ready md ops listed).contains i = true := by kernel_rfl) (hw : (ops[i]?).map (fun o => Region.wanted o (yielded ops a.tmps)) = some true := by kernel_rfl) : wpAnyH P md ops Q S (fuel + 1) listed a w := hTake d hd hs hf hr hw hQ hrun hS h
theorem hSk {i : Nat} {fuel : Nat} {listed : Array Bool} {a : Act} {w : World} (d : Option Tmp) (hS : S w)
 (h : wpAnyH P md ops Q S fuel (listed.setIfInBounds i true) (a.put d undef) w) (hQ : ∀ c a w, Q (.panic c) (a.put d undef) w → Q (.panic c) a w := by exact fun _ _ _ h => h) (hd : (ops[i]?).map (·.dst) = some d := by kernel_rfl)
 (hs : Region.noSelect ops = true := by kernel_rfl) (hf : Region.free md ops listed i = true := by kernel_rfl) (hr : (Region.ready md ops listed).contains i = true := by kernel_rfl) (hw : (ops[i]?).map (fun o => Region.wanted o (yielded ops a.tmps)) = some false := by kernel_rfl) : wpAnyH P md ops Q S (fuel + 1) listed a w := hSkip d hd hs hf hr hw hQ hS h
end
end
section
open Go Go.RowKit
theorem l3infix_any (t : Int) (w : World) : Calls Tryz.prog 105 #[.int .i64 t] w fun e w' => e = .returned (.bool (decide (t ≤ 2))) ∧ w' = w := by
 cases h : decide (t ≤ 2)
 all_goals
  go_enter Tryz.func105, Tryz.ntmps105
  go_wp2_with fail; go_ret; exact ⟨rfl, rfl⟩
def hitB (s : List UInt8) (pf : Bool) (x : Cel) : Bool := ((strOfNums x.2.2).toList == s) && (preB x.2.1 == pf)
def fIdx (s : List UInt8) (pf : Bool) : Nat → List Cel → Int
 | _, [] => -1
 | k, x :: r => if hitB s pf x then k else fIdx s pf (k + 1) r
theorem fIdx_at (s : List UInt8) (pf : Bool) (cs : List Cel) (k : Nat) (h : k < cs.length) : fIdx s pf k (cs.drop k) = if hitB s pf (cs.getD k Cel.none) then (k : Int) else fIdx s pf (k + 1) (cs.drop (k + 1)) := by
 rw [drop_at cs k h, fIdx]
set_option maxRecDepth 100000 in
set_option maxHeartbeats 2000000 in
theorem l3find_any (p : Option Addr) (c : Nat) (cs : List Cel) (q : Option Addr) (l cq : Nat) (xs : List Int) (pf : Bool) (w : World) (hl : l = xs.length) (hn : cs.length ≤ 1000000) (hin : OIn w p cs) (hx : BIn w q xs) :
 Calls Tryz.prog 117 #[.slice p cs.length c, .slice q l cq, .bool pf] w fun e w' => e = .returned (.int .i64 (fIdx (strOfNums xs).toList pf 0 cs)) ∧ ∃ m, w' = w.drewN m := by
 have HIN : Hid (OIn w p cs) := hin; have HX : Hid (BIn w q xs) := hx; have HL : Hid (l = xs.length) := hl
 obtain ⟨sn, esn⟩ : ∃ s, s = strOfNums xs := ⟨_, rfl⟩
 rw [← esn]; have HSN : Hid (sn = strOfNums xs) := esn; clear hin hx hl esn
 have HF : Hid (∀ b, b = fIdx sn.toList pf 0 cs → Ending.returned (.int .i64 b) = .returned (.int .i64 (fIdx sn.toList pf 0 cs))) := fun b h => ret_int h
 go_enter Tryz.func117, Tryz.ntmps117
 go_wp2_with fail
 go_loopw [7] (fun i wr => ∃ k m : Nat, k ≤ cs.length ∧ i = .int .i64 k ∧ Hid (wr = w.drewN m) ∧ Hid (fIdx sn.toList pf 0 cs = fIdx sn.toList pf k (cs.drop k))) (fun i _ => cs.length - (intOf i).toNat)
 case atStart => exact ⟨0, 0, Nat.zero_le _, rfl, rfl, rfl⟩
 case round =>
  obtain ⟨k, m, hk, rfl, HW, HQ⟩ := hrel
  by_cases hlt : k < cs.length
  ·obtain ⟨g, o, rfl, hcs⟩ := HIN.out (by omega)
   have hat : OAt wr g (o + k * 3) (cs.getD k Cel.none) := by rw [HW.out]; exact hcs k hlt
   have HFI : Hid _ := fIdx_at sn.toList pf cs k hlt; have HHB : Hid (hitB sn.toList pf (cs.getD k Cel.none) = (((strOfNums (cs.getD k Cel.none).2.2).toList == sn.toList) && (preB (cs.getD k Cel.none).2.1 == pf))) := rfl
   obtain ⟨x, ex⟩ : ∃ x, x = cs.getD k Cel.none := ⟨_, rfl⟩
   rw [← ex] at hat HFI HHB; obtain ⟨qx, qc, h0, h1, h2, h3⟩ := hat; obtain ⟨x0, x1, x2⟩ := x; simp only at h0 h1 h2 h3 HHB
   obtain ⟨l2, el2⟩ : ∃ l, l = x2.length := ⟨_, rfl⟩
   obtain ⟨sx, esx⟩ : ∃ s, s = strOfNums x2 := ⟨_, rfl⟩
   rw [← el2] at h2; rw [← esx] at HHB; have HLX : Hid (l2 = x2.length) := el2; have HSX : Hid (sx = strOfNums x2) := esx; have H3 : Hid (BIn wr qx x2) := h3
   have HXW : Hid (BIn wr q xs) := by rw [HW.out]; exact HX.out
   have cvx : (convert 22 9 (.slice qx l2 qc)).run Tryz.prog wr.drew = .ok (.string sx) wr.drew := by rw [HSX.out]; exact conv_str (w := wr.drew) H3.out l2 qc HLX.out 9 Tryz.underlying9
   have cvn : (convert 22 9 (.slice q l cq)).run Tryz.prog wr.drew = .ok (.string sn) wr.drew := by rw [HSN.out]; exact conv_str (w := wr.drew) HXW.out l cq HL.out 9 Tryz.underlying9
   clear el2 esx ex h3 hcs h0
   cases hs : (sx.toList == sn.toList) with
   | true =>
     cases hp : (preB x1 == pf) with
     | true =>
       have HR : Hid (fIdx sn.toList pf 0 cs = (k : Int)) := by show _ = _; rw [HQ.out, HFI.out, HHB.out, hs, hp]; rfl
       clear HFI HHB; go_wp2_with fail
       go_region_held3 (fun W => W = wr.drew) (rfl)
        ((go_at_call 81; refine (l3prefix_any _ _).mono ?_; rintro e w' ⟨rfl, rfl⟩))
       all_goals go_wp2_with fail
       all_goals go_ret
       all_goals exact ⟨HF.out _ HR.out.symm, m + 1, by rw [HW.out]; rfl⟩
     | false =>
       have HR : Hid (fIdx sn.toList pf 0 cs = fIdx sn.toList pf (k + 1) (cs.drop (k + 1))) := by show _ = _; rw [HQ.out, HFI.out, HHB.out, hs, hp]; rfl
       clear HFI HHB; go_wp2_with fail
       go_region_held3 (fun W => W = wr.drew) (rfl)
        ((go_at_call 81; refine (l3prefix_any _ _).mono ?_; rintro e w' ⟨rfl, rfl⟩))
       all_goals go_wp2_with fail
       all_goals go_roundw
       all_goals first
        | (simp [intOf]; omega)
        | exact ⟨k + 1, m + 1, by omega, by go_num, by rw [HW.out]; rfl, HR⟩
   | false =>
     have HR : Hid (fIdx sn.toList pf 0 cs = fIdx sn.toList pf (k + 1) (cs.drop (k + 1))) := by show _ = _; rw [HQ.out, HFI.out, HHB.out, hs]; rfl
     have HH2 : Hid (wr.cell? ⟨g, o + k * 3, none⟩ = some (.slice qx l2 qc)) := h2
     have hk0 : (0 : Int) ≤ (k : Int) := by omega
     have hk1 : (k : Int) < (cs.length : Int) := by omega
     clear HFI HHB; go_wp2_with fail; refine wp_region_held_drew (S := fun W => W = wr.drew) (by kernel_rfl) ?_ (fun hHeld => ?_)
     ·exact rfl
     refine hTk (i := 0) (v := .slice (some ⟨g, o, none⟩) cs.length c) (some 14) (fun o ho W hSw => ?y0) (by assumption) ?_
     case y0 => cases ho; simp [execOp, go_sem, Act.eval]
     simp only [Act.put, zzA, zzB, zzC]; refine hTk (i := 1) (v := .int .i64 k) (some 15) (fun o ho W hSw => ?y1) (by assumption) ?_
     case y1 => cases ho; simp [execOp, go_sem, Act.eval]
     simp only [Act.put, zzA, zzB, zzC]; refine hTk (i := 2) (v := .pointer (some ⟨g, o + k * 3, none⟩)) (some 16) (fun o ho W hSw => ?y2) (by assumption) ?_
     case y2 => cases ho; simp [execOp, go_sem, Act.eval, hk0, hk1]
     simp only [Act.put, zzA, zzB, zzC]; refine hTk (i := 3) (v := .pointer (some ⟨g, o + k * 3, none⟩)) (some 17) (fun o ho W hSw => ?y3) (by assumption) ?_
     case y3 => cases ho; simp [execOp, go_sem, Act.eval]
     simp only [Act.put, zzA, zzB, zzC]; refine hTk (i := 4) (v := .slice qx l2 qc) (some 18) (fun o ho W hSw => ?y4) (by assumption) ?_
     case y4 =>
      cases ho
      subst hSw
      simp [execOp, go_sem, Act.eval, h2]
     simp only [Act.put, zzA, zzB, zzC]; refine hTk (i := 5) (v := .string sx) (some 19) (fun o ho W hSw => ?y5) (by assumption) ?_
     case y5 =>
      cases ho
      subst hSw
      simp [execOp, go_sem, Act.eval, cvx]
     simp only [Act.put, zzA, zzB, zzC]; refine hTk (i := 6) (v := .slice q l cq) (some 20) (fun o ho W hSw => ?y6) (by assumption) ?_
     case y6 => cases ho; simp [execOp, go_sem, Act.eval]
     simp only [Act.put, zzA, zzB, zzC]; refine hTk (i := 7) (v := .string sn) (some 21) (fun o ho W hSw => ?y7) (by assumption) ?_
     case y7 =>
      cases ho
      subst hSw
      simp [execOp, go_sem, Act.eval, cvn]
     simp only [Act.put, zzA, zzB, zzC]; refine hTk (i := 8) (v := .bool false) (some 22) (fun o ho W hSw => ?y8) (by assumption) ?_
     case y8 => cases ho; simp [execOp, go_sem, Act.eval, hs]
     simp only [Act.put, zzA, zzB, zzC]; refine hTk (i := 9) (v := .bool false) (some 23) (fun o ho W hSw => ?y9) (by assumption) ?_
     case y9 => cases ho; simp [execOp, go_sem, Act.eval]
     simp only [Act.put, zzA, zzB, zzC]; refine hSk (i := 10) (some 24) (by assumption) ?_; refine hSk (i := 11) (some 25) (by assumption) ?_; refine hSk (i := 12) (some 26) (by assumption) ?_; refine hSk (i := 13) (some 27) (by assumption) ?_; simp only [Act.put, zzA, zzB, zzC]; refine hSk (i := 14) (some 28) (by assumption) ?_; refine hSk (i := 15) (some 29) (by assumption) ?_; refine hSk (i := 16) (some 30) (by assumption) ?_; refine hSk (i := 17) (some 31) (by assumption) ?_; simp only [Act.put, zzA, zzB, zzC]; refine hTk (i := 18) (v := .bool false) (some 32) (fun o ho W hSw => ?y18) (by assumption) ?_
     case y18 => cases ho; simp [execOp, go_sem, Act.eval]
     simp only [Act.put, zzA, zzB, zzC]; refine wpAnyH_done (by kernel_rfl) ?_ _; go_wp2_with fail; go_roundw
     case rel => exact ⟨k + 1, m + 1, by omega, by go_num, by rw [HW.out]; rfl, HR⟩
     case measure => simp [intOf]; omega
  ·obtain rfl : k = cs.length := by omega
   have HR : Hid (fIdx sn.toList pf 0 cs = -1) := by have := HQ.out; rw [List.drop_length] at this; exact this
   clear HIN; go_wp2_with fail; go_ret; exact ⟨HF.out _ HR.out.symm, m, HW.out⟩
end
end Go.Proofs.YtfgmenkoeflhaaaGreatDoor
