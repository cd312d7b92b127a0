/- Texts of WiL, WtM, WiM, FoI. Own work of the verifier. -/
import Derived.Test.YtjhbplgppakhoaaGreatDoorUqas
import Derived.Test.YtjhbplgppakhoaaGreatDoorUqar
import Derived.Test.YtjhbplgppakhoaaGreatDoorUqal
namespace Go.Proofs.YtjhbplgppakhoaaGreatDoor
open Go Go.RowKit
set_option linter.unusedVariables false
def closeB (y : Int) : Prop := y = 41 ∨ y = 93 ∨ y = 44 ∨ y = 124 ∨ y = 125 ∨ y = 32
theorem gR_close {y : Int} (h : closeB y) (k : Nat) (z : Int) : gR k z y = false := by
  have h8 : isOfB y 8 = false := by rcases h with rfl | rfl | rfl | rfl | rfl | rfl <;> rfl
  have h4 : isOfB y 4 = false := by rcases h with rfl | rfl | rfl | rfl | rfl | rfl <;> rfl
  have h0 : (y == 40) = false := by rcases h with rfl | rfl | rfl | rfl | rfl | rfl <;> rfl
  have g1 : gap1 z y = false := by unfold gap1; rw [h8]; simp
  have g2 : gap2 z y = false := by unfold gap2; rw [h0, g1]; rfl
  match k with
  | 0 => rfl
  | 1 => exact g1
  | 2 => exact g2
  | m + 3 => show gap3 z y = false; unfold gap3; rw [h4, g2]; rfl
theorem putR_cons (R : List Int) (k : Nat) (x : Int) (r : List Int) : putR R k (x :: r) = if gR k (endI R) x = true then R ++ 32 :: x :: r else R ++ x :: r := by
  unfold putR; rw [if_neg (by simp)]; rfl
theorem putR_zero (R X : List Int) : putR R 0 X = R ++ X := by
  cases X with
  | nil => simp [putR]
  | cons x r => rw [putR_cons]; rfl
def TxtOut (W0 : Bas) (w : World) (wb : Nat) (K : WK) (R : List Int) (k : Nat) (X : List Int) (e : Ending) (w' : World) : Prop :=
  e = .returned (.tuple #[]) ∧ (∃ k', (X = [] → k' = k) ∧ ∃ p n c, WS W0 w' wb K p n c (putR R k X) k') ∧ Kept w w' wb
theorem PutOut.txt {W0 : Bas} {w : World} {wb : Nat} {K : WK} {R X : List Int} {k : Nat} {e : Ending} {w' : World} (h : PutOut W0 w wb K (putR R k X) (putG k X) e w') : TxtOut W0 w wb K R k X e w' :=
  ⟨h.1, ⟨putG k X, fun hX => by unfold putG; rw [if_pos hX], h.2.1⟩, h.2.2⟩
theorem putR_ge (R X : List Int) (k : Nat) : R.length + X.length ≤ (putR R k X).length := by
  unfold putR
  split
  · rename_i h; rw [h]; simp
  · split <;> simp <;> omega
def startB (R : List Int) (k : Nat) : Prop := k = 0 → isOfB (endI R) 8 = false
theorem endI_append {R X : List Int} (h : X ≠ []) : endI (R ++ X) = lastI X := by
  unfold endI lastI
  have hl : 0 < X.length := by cases X with | nil => exact absurd rfl h | cons _ _ => simp
  rw [if_neg (by simp [h])]
  rw [List.length_append, List.getD, List.getD, List.getElem?_append_right (by omega)]
  congr 1
  congr 1
  omega
theorem start_behind {R : List Int} {y : Int} (hy : isOfB y 8 = false) (k : Nat) : startB (R ++ [y]) k := fun _ => by
  rw [endI_append (by simp)]
  exact hy
def TermAt (W0 : Bas) (wb : Nat) (K : WK) (v : Value) (p : Int) (X : List Int) : Prop :=
  ∀ (w : World) (R : List Int) (k : Nat), Byte R → (putR R k X).length ≤ 10000000000 → startB R k → Tab w → TabP w → (∃ p n c, WS W0 w wb K p n c R k) → Calls Tryz.prog 40 #[.pointer (some ⟨wb, 0, none⟩), v, .int .i64 p] w (TxtOut W0 w wb K R k X)
structure TabsK (W0 : Bas) (wb : Nat) : Prop where
  tab : ∀ W, W0.grownBy W (some wb) → Tab W
  pow : ∀ W, W0.grownBy W (some wb) → TabP W
end Go.Proofs.YtjhbplgppakhoaaGreatDoor

namespace Go.Proofs.YtjhbplgppakhoaaGreatDoor
open Go Go.RowKit
set_option linter.unusedVariables false
def OpsG (T : List Cel) : Prop := ∀ j, j < T.length → Byte (T.getD j Cel.none).2.2 ∧ (T.getD j Cel.none).2.2.length ≤ 100
def NmG (N : List (List Int)) : Prop := ∀ i, i < N.length → Byte (N.getD i []) ∧ (N.getD i []).length ≤ 1048576
def GoodR (rec : Tr → Int → List Int) : Prop := ∀ (t : Tr) (p : Int), t.fo.ok → (itC t).length ≤ 2000 → Byte (rec t p) ∧ (rec t p).length ≤ 1100000 * (itC t).length
theorem par_good {s : List Int} (h : Byte s) : Byte (parW s) ∧ (parW s).length = s.length + 2 := ⟨byte_cons ⟨by decide, by decide⟩ (byte_app h (byte_one (by decide) (by decide))), by simp [parW]⟩
theorem operand_good {rec : Tr → Int → List Int} (hg : GoodR rec) (T : List Cel) (t : Tr) (p : Int) (left : Bool) (op : Cel) (ht : t.fo.ok) (hl : (itC t).length ≤ 2000) : Byte (operandW rec T t p left op) ∧ (operandW rec T t p left op).length ≤ 1100000 * (itC t).length + 2 := by
  obtain ⟨h1, h2⟩ := hg t p ht hl
  have h3 := par_good h1
  unfold operandW
  split
  · exact ⟨h3.1, by omega⟩
  · split
    · exact ⟨h3.1, by omega⟩
    · exact ⟨h1, by omega⟩
theorem gap_good (a b : List Int) : Byte (gapW a b) ∧ (gapW a b).length ≤ 1 := by
  unfold gapW
  split
  · exact ⟨byte_nil, by simp⟩
  · split
    · exact ⟨byte_one (by decide) (by decide), by simp⟩
    · exact ⟨byte_nil, by simp⟩
theorem mid_good (op : Cel) (a b : List Int) : Byte (midGap op a b) ∧ (midGap op a b).length ≤ 1 := by
  unfold midGap
  split
  · exact ⟨byte_one (by decide) (by decide), by simp⟩
  · exact gap_good a b
theorem pre_good (q : Bool) (op : Cel) (a : List Int) : Byte (preGap q op a) ∧ (preGap q op a).length ≤ 1 := by
  unfold preGap
  split
  · exact ⟨byte_one (by decide) (by decide), by simp⟩
  · split
    · exact ⟨byte_one (by decide) (by decide), by simp⟩
    · exact gap_good _ _
theorem name_good (q : Bool) {op : Cel} (h : Byte op.2.2 ∧ op.2.2.length ≤ 100) : Byte (nameW q op) ∧ (nameW q op).length ≤ 601 := by
  unfold nameW
  split
  · exact ⟨byte_one (by decide) (by decide), by simp⟩
  · exact ⟨atomW_byte q h.1, atomW_len q h.2⟩
theorem head_good (q : Bool) {xs : List Int} (h : Byte xs) (hl : xs.length ≤ 100) : Byte (headW q xs) ∧ (headW q xs).length ≤ 603 := by
  have h1 := atomW_byte q h
  have h2 := atomW_len q hl
  unfold headW
  split
  · exact ⟨byte_cons ⟨by decide, by decide⟩ (byte_app h1 (byte_one (by decide) (by decide))), by simp; omega⟩
  · exact ⟨h1, by omega⟩
theorem kid_at {t : Tr} {i : Nat} (h : i < t.2.count) : kidW t i ∈ trs t.2 := by
  unfold kidW
  rw [← trs_len] at h
  simp [List.getD, h]
theorem trs_okW : ∀ {F : Fo}, F.ok → ∀ t ∈ trs F, t.fo.ok
  | .nil, _, t, ht => by cases ht
  | .node c k r, h, t, ht => by
    rcases List.mem_cons.1 ht with rfl | ht
    · exact ⟨h.1, h.2.1, h.2.2.1, h.2.2.2.1, h.2.2.2.2.1, trivial⟩
    · exact trs_okW h.2.2.2.2.2 t ht
theorem trs_le : ∀ (F : Fo) (t : Tr), t ∈ trs F → (itC t).length ≤ F.cells.length
  | .nil, t, h => by cases h
  | .node c k r, t, h => by
    rcases List.mem_cons.1 h with rfl | h
    · simp [itC, Fo.cells]
    · have := trs_le r t h; simp only [Fo.cells, List.length_cons, List.length_append]; omega
theorem two_kids {t : Tr} (h : t.2.count = 2) : (itC (kidW t 0)).length + (itC (kidW t 1)).length = t.2.cells.length := by
  obtain ⟨c1, k1, c2, k2, e⟩ := two_of h
  have := trs_sum t.2
  rw [e] at this ⊢
  simp only [trs, List.map_cons, List.map_nil, List.sum_cons, List.sum_nil] at this
  simp only [kidW, e, trs, List.getD_cons_zero, List.getD_cons_succ]
  omega
theorem text_byte {c : Cel} {k : Fo} (h : (Fo.node c k .nil).ok) : Byte c.2.2 ∧ c.2.2.length ≤ 100 := ⟨h.2.1, by have := h.1; simp only [cellB, decide_eq_true_eq] at this; omega⟩
theorem split_in : ∀ (N : Nat) (c : Cel) (k : Fo), k.cells.length ≤ N → (Fo.node c k .nil).ok → (∀ x ∈ (splitF c k).1, (Tr.fo x).ok) ∧ (Tr.fo (splitF c k).2).ok
  | N, c, k, hN, hok => by
    by_cases hd : c = dot
    · have h3 : c.1 = 3 := by rw [hd]; rfl
      have hc : k.count = 2 := by have := hok.2.2.1 h3; rw [hd] at this; have e : (dot.2.1 : Int) = 2 := rfl; omega
      obtain ⟨c1, k1, c2, k2, rfl⟩ := two_of hc
      subst hd
      rw [splitF_dot]
      have hk := hok.2.2.2.2.1
      have h1 : (Fo.node c1 k1 .nil).ok := ⟨hk.1, hk.2.1, hk.2.2.1, hk.2.2.2.1, hk.2.2.2.2.1, trivial⟩
      have h2 : (Fo.node c2 k2 .nil).ok := hk.2.2.2.2.2
      cases N with
      | zero => simp [Fo.cells] at hN
      | succ N =>
        have ih := split_in N c2 k2 (by simp [Fo.cells] at hN; omega) h2
        refine ⟨fun x hx => ?_, ih.2⟩
        rcases List.mem_cons.1 hx with rfl | hx
        · exact h1
        · exact ih.1 x hx
    · rw [splitF_other _ _ hd]
      exact ⟨(fun x hx => by cases hx), hok⟩
theorem split_sizeW : ∀ (N : Nat) (c : Cel) (k : Fo), k.cells.length ≤ N → (Fo.node c k .nil).ok → (((splitF c k).1.map fun x => (itC x).length)).sum + (itC (splitF c k).2).length + (splitF c k).1.length ≤ k.cells.length + 1 ∧ (c = dot → 1 ≤ (splitF c k).1.length)
  | N, c, k, hN, hok => by
    by_cases hd : c = dot
    · have h3 : c.1 = 3 := by rw [hd]; rfl
      have hc : k.count = 2 := by have := hok.2.2.1 h3; rw [hd] at this; have e : (dot.2.1 : Int) = 2 := rfl; omega
      obtain ⟨c1, k1, c2, k2, rfl⟩ := two_of hc
      subst hd
      rw [splitF_dot]
      have h2 : (Fo.node c2 k2 .nil).ok := hok.2.2.2.2.1.2.2.2.2.2
      cases N with
      | zero => simp [Fo.cells] at hN
      | succ N =>
        have ih := split_sizeW N c2 k2 (by simp [Fo.cells] at hN; omega) h2
        refine ⟨?_, fun _ => by simp⟩
        have ih1 := ih.1
        simp only [List.map_cons, List.sum_cons, List.length_cons, Fo.cells, List.length_append, List.append_nil, itC] at ih1 ⊢
        omega
    · rw [splitF_other _ _ hd]
      exact ⟨by simp [itC], fun h => absurd h hd⟩
theorem mem_sum : ∀ (L : List Nat) (x : Nat), x ∈ L → x ≤ L.sum
  | [], x, h => by cases h
  | a :: r, x, h => by
    rcases List.mem_cons.1 h with rfl | h
    · simp
    · have := mem_sum r x h; simp only [List.sum_cons]; omega
set_option maxHeartbeats 800000 in
theorem text_good {T : List Cel} {N : List (List Int)} (q : Bool) (hT : OpsG T) (hN : NmG N) : ∀ f, GoodR (textF T N q f)
  | 0 => fun t p _ _ => ⟨byte_nil, by simp [textF]⟩
  | f + 1 => fun t p ht hl => by
    have ih := text_good q hT hN f
    have hpos : 1 ≤ (itC t).length := by simp [itC]
    have hsz : (itC t).length = t.2.cells.length + 1 := by simp [itC]
    obtain ⟨hb, hbl⟩ := text_byte ht
    unfold textF
    split
    · unfold varW
      split
      · rename_i h
        have := hN t.1.2.1.toNat (by
          rcases Int.lt_or_le t.1.2.1 0 with h0 | h0
          · have e : t.1.2.1.toNat = 0 := by omega
            rw [e]
            rcases Nat.eq_zero_or_pos N.length with h9 | h9
            · have h8 := h.2
              have : N = [] := List.eq_nil_of_length_eq_zero h9
              rw [this] at h8
              simp at h8
            · exact h9
          · have := h.1; omega)
        exact ⟨this.1, by omega⟩
      · have := dec_len 20 t.1.2.1
        exact ⟨byte_cons ⟨by decide, by decide⟩ (dec_byte _ _), by simp only [List.length_cons, decW]; omega⟩
    · split
      · have := dec_len 20 t.1.2.1
        exact ⟨dec_byte _ _, by simp only [decW]; omega⟩
      · split
        · exact ⟨atomW_byte q hb, by have := atomW_len q hbl; omega⟩
        · split
          · rename_i hdot
            have hs := split_sizeW (t.2.cells.length) t.1 t.2 (Nat.le_refl _) ht
            have hone := hs.2 hdot
            obtain ⟨o1, o2⟩ := split_in (t.2.cells.length) t.1 t.2 (Nat.le_refl _) ht
            have hsum : (((splitF t.1 t.2).1.map fun x => (itC x).length)).sum + (itC (splitF t.1 t.2).2).length + (splitF t.1 t.2).1.length ≤ t.2.cells.length + 1 := hs.1
            have hle : ∀ x ∈ (splitF t.1 t.2).1, (itC x).length ≤ 2000 := fun x hx => by
              have h9 : (itC x).length ≤ (((splitF t.1 t.2).1.map fun x => (itC x).length)).sum := by
                have : (itC x).length ∈ (splitF t.1 t.2).1.map fun x => (itC x).length := List.mem_map.2 ⟨x, hx, rfl⟩
                exact mem_sum _ _ this
              omega
            have g1 : ∀ x ∈ (splitF t.1 t.2).1, Byte (textF T N q f x 999) ∧ (textF T N q f x 999).length ≤ 1100000 * (itC x).length := fun x hx => ih x 999 (o1 x hx) (hle x hx)
            have g2 := ih (splitF t.1 t.2).2 999 o2 (by omega)
            have j1 := join_len ((splitF t.1 t.2).1.map (textF T N q f · 999))
            have j2 := sum_good (textF T N q f · 999) (splitF t.1 t.2).1 (fun x hx => (g1 x hx).2)
            have j3 := len_sum (splitF t.1 t.2).1
            have j4 : Byte (joinW ((splitF t.1 t.2).1.map (textF T N q f · 999))) := join_byte _ (fun a ha => by
              obtain ⟨x, hx, rfl⟩ := List.mem_map.1 ha
              exact (g1 x hx).1)
            simp only [List.length_map] at j1
            unfold listW
            split
            · exact ⟨byte_cons ⟨by decide, by decide⟩ (byte_app j4 (byte_app byte_nil (byte_one (by decide) (by decide)))), by simp only [List.length_cons, List.length_append, List.length_nil]; omega⟩
            · exact ⟨byte_cons ⟨by decide, by decide⟩ (byte_app j4 (byte_app (byte_cons ⟨by decide, by decide⟩ g2.1) (byte_one (by decide) (by decide)))), by simp only [List.length_cons, List.length_append, List.length_nil]; omega⟩
          · rename_i hk0 hk1 hk2 hnd
            have h3 : t.1.1 = 3 := by have := ht.1; simp only [cellB, decide_eq_true_eq] at this; omega
            have hcnt := ht.2.2.1 h3
            split
            · rename_i hcu
              have h1 : t.2.count = 1 := by rw [hcu] at hcnt; have e : (curly.2.1 : Int) = 1 := rfl; omega
              have hk := kid_at (t := t) (i := 0) (by omega)
              have g := ih (kidW t 0) 1200 (trs_okW ht.2.2.2.2.1 _ hk) (by have := trs_le _ _ hk; omega)
              have := trs_le _ _ hk
              exact ⟨byte_cons ⟨by decide, by decide⟩ (byte_app g.1 (byte_one (by decide) (by decide))), by simp only [List.length_cons, List.length_append, List.length_nil]; omega⟩
            · have hg1 : Byte (plainW (textF T N q f) q t) ∧ (plainW (textF T N q f) q t).length ≤ 1100000 * t.2.cells.length + 3000 := by
                have g1 : ∀ x ∈ trs t.2, Byte (textF T N q f x 999) ∧ (textF T N q f x 999).length ≤ 1100000 * (itC x).length := fun x hx => ih x 999 (trs_okW ht.2.2.2.2.1 _ hx) (by have := trs_le _ _ hx; omega)
                have j1 := join_len ((trs t.2).map (textF T N q f · 999))
                have j2 := sum_good (textF T N q f · 999) (trs t.2) (fun x hx => (g1 x hx).2)
                have j3 := len_sum (trs t.2)
                have j4 : Byte (joinW ((trs t.2).map (textF T N q f · 999))) := join_byte _ (fun a ha => by
                  obtain ⟨x, hx, rfl⟩ := List.mem_map.1 ha
                  exact (g1 x hx).1)
                have j5 := trs_sum t.2
                have hh := head_good q hb hbl
                simp only [List.length_map] at j1
                unfold plainW
                exact ⟨byte_app (byte_app (byte_app hh.1 (byte_one (by decide) (by decide))) j4) (byte_one (by decide) (by decide)), by simp only [List.length_cons, List.length_append, List.length_nil]; omega⟩
              unfold compW
              split
              · exact ⟨hg1.1, by omega⟩
              · rename_i htop
                obtain ⟨_, _, _, j, hj, hje, hkind⟩ := top_facts (T := T) (c := t.1) (by omega)
                rw [hje]
                have hop : Byte (opW T (j : Int)).2.2 ∧ (opW T (j : Int)).2.2.length ≤ 100 := by
                  have e : opW T (j : Int) = T.getD j Cel.none := by simp [opW]
                  rw [e]; exact hT j hj
                obtain ⟨op, eop⟩ : ∃ op, op = opW T (j : Int) := ⟨_, rfl⟩
                rw [← eop] at hop hkind ⊢
                have hnm := name_good q hop
                have hoper : Byte (operW (textF T N q f) T q t op) ∧ (operW (textF T N q f) T q t op).length ≤ 1100000 * t.2.cells.length + 1300 := by
                  have kid : ∀ i, i < t.2.count → ∀ p l, Byte (operandW (textF T N q f) T (kidW t i) p l op) ∧ (operandW (textF T N q f) T (kidW t i) p l op).length ≤ 1100000 * (itC (kidW t i)).length + 2 := fun i hi p l => operand_good ih T _ p l op (trs_okW ht.2.2.2.2.1 _ (kid_at hi)) (by have := trs_le _ _ (kid_at hi); omega)
                  have hc1 : 1 ≤ t.2.count := by
                    have := ht.1; rw [h3] at this
                    have := cellB_comp this
                    omega
                  unfold operW
                  split
                  · have g := kid 0 (by omega) (rightP op) false
                    have pg := pre_good q op (operandW (textF T N q f) T (kidW t 0) (rightP op) false op)
                    have := trs_le _ _ (kid_at (t := t) (i := 0) (by omega))
                    exact ⟨byte_app (byte_app hnm.1 pg.1) g.1, by simp only [List.length_append]; omega⟩
                  · rename_i hpre
                    have g := kid 0 (by omega) (leftP op) true
                    have mg := mid_good op (operandW (textF T N q f) T (kidW t 0) (leftP op) true op) (nameW q op)
                    split
                    · rename_i hinf
                      have h2 : t.2.count = 2 := by
                        rcases hkind with ⟨hk, _, _⟩ | ⟨_, _, hk | ⟨_, hk⟩⟩
                        · omega
                        · exact absurd hk hpre
                        · rw [hinf] at hk; cases hk
                      have g' := kid 1 (by omega) (rightP op) false
                      have mg' := mid_good op (nameW q op) (operandW (textF T N q f) T (kidW t 1) (rightP op) false op)
                      have := two_kids h2
                      exact ⟨byte_app (byte_app (byte_app g.1 mg.1) hnm.1) (byte_app mg'.1 g'.1), by simp only [List.length_append]; omega⟩
                    · have := trs_le _ _ (kid_at (t := t) (i := 0) (by omega))
                      exact ⟨byte_app (byte_app g.1 mg.1) hnm.1, by simp only [List.length_append]; omega⟩
                have hp := par_good hoper.1
                split
                · exact ⟨hp.1, by omega⟩
                · exact ⟨hoper.1, by omega⟩
end Go.Proofs.YtjhbplgppakhoaaGreatDoor

namespace Go.Proofs.YtjhbplgppakhoaaGreatDoor
open Go Go.RowKit
set_option linter.unusedVariables false
theorem wiT_var_var (w : World) (x : Value) : (Instr.typeAssert (.iface 125 x) 85 125 true).run Tryz.prog w = .ok (.tuple #[x, .bool true]) w := by kernel_rfl
theorem wiT_num_var (w : World) (x : Value) : (Instr.typeAssert (.iface 128 x) 85 125 true).run Tryz.prog w = .ok (.tuple #[.int .i64 0, .bool false]) w := by kernel_rfl
theorem wiT_num_num (w : World) (x : Value) : (Instr.typeAssert (.iface 128 x) 85 128 true).run Tryz.prog w = .ok (.tuple #[x, .bool true]) w := by kernel_rfl
theorem wiT_atom_var (w : World) (x : Value) : (Instr.typeAssert (.iface 129 x) 85 125 true).run Tryz.prog w = .ok (.tuple #[.int .i64 0, .bool false]) w := by kernel_rfl
theorem wiT_atom_num (w : World) (x : Value) : (Instr.typeAssert (.iface 129 x) 85 128 true).run Tryz.prog w = .ok (.tuple #[.int .i64 0, .bool false]) w := by kernel_rfl
theorem wiT_atom_atom (w : World) (x : Value) : (Instr.typeAssert (.iface 129 x) 85 129 true).run Tryz.prog w = .ok (.tuple #[x, .bool true]) w := by kernel_rfl
def NamesK (W0 : Bas) (wb : Nat) (K : WK) (N : List (List Int)) : Prop := (∀ W, W0.grownBy W (some wb) → NIn W K.2.1 N) ∧ K.2.2.1 = N.length ∧ N.length ≤ 1048576 ∧ NmG N
theorem decW_byte (n : Int) : Byte (decW n) := dec_byte 20 n
theorem decW_lenW (n : Int) : (decW n).length ≤ 2000000 := by have h := dec_len 20 n; unfold decW; omega
theorem nmG_len {N : List (List Int)} (h : NmG N) (i : Nat) (hi : i < N.length) : (N.getD i []).length ≤ 1000000000 := by have := (h i hi).2; omega
theorem varW_byte {N : List (List Int)} (h : NmG N) (n : Int) : Byte (varW N n) := by
  unfold varW
  split
  · by_cases hi : n.toNat < N.length
    · exact (h _ hi).1
    · rw [List.getD, List.getElem?_eq_none (by omega)]; exact byte_nil
  · exact byte_cons ⟨by decide, by decide⟩ (decW_byte n)
theorem varW_len {N : List (List Int)} (h : NmG N) (n : Int) : (varW N n).length ≤ 2000000 := by
  unfold varW
  split
  · by_cases hi : n.toNat < N.length
    · have := (h _ hi).2; omega
    · rw [List.getD, List.getElem?_eq_none (by omega)]; simp
  · have h := dec_len 20 n; simp only [decW, List.length_cons]; omega
set_option maxRecDepth 100000 in
set_option maxHeartbeats 1000000 in
theorem term_var {W0 : Bas} {wb : Nat} {K : WK} {N : List (List Int)} (hN : NamesK W0 wb K N) (hK : TabsK W0 wb) (n : Int) (hn0 : 0 ≤ n) (hn1 : n ≤ 1000000) (pr : Int) : TermAt W0 wb K (.iface 125 (.int .i64 n)) pr (varW N n) := by
  intro w R k hR hl hst hT hP hs
  have n_var := wiT_var_var
  obtain ⟨p0, n0, c0, h⟩ := hs
  have h1 := h.drewN 1
  have hgr : W0.grownBy (w.drewN 1) (some wb) := h1.gr
  have HC : Hid _ := varText_any h1 N (hN.1 _ hgr) hN.2.1 (by have := hN.2.2.1; omega) (fun i hi => by have := hN.2.2.2; exact nmG_len this i hi) n hn0 hn1 (hK.pow _ hgr)
  have HXB : Hid (Byte (varW N n) ∧ (varW N n).length ≤ 2000000) := ⟨varW_byte hN.2.2.2 n, varW_len hN.2.2.2 n⟩
  have HP : Hid (∀ W, Below w.heap.size w W → Calls Tryz.prog 69 #[.pointer (some ⟨wb, 0, none⟩), .string (strOfNums (varW N n))] W (PutOut W0 W wb K (putR R k (varW N n)) (putG k (varW N n)))) := fun W hW => put_any W0 W wb K R (varW N n) k (hT.below hW) hR HXB.out.1 (by have := putR_ge R (varW N n) k; omega) ⟨p0, n0, c0, h.below hW⟩
  obtain ⟨sx, esx⟩ : ∃ sx, sx = strOfNums (varW N n) := ⟨_, rfl⟩
  rw [← esx] at HC HP
  obtain ⟨XX, eXX⟩ : ∃ XX, XX = (varW N n) := ⟨_, rfl⟩
  rw [← eXX] at HP HXB ⊢
  clear h h1 hgr hT hP hR hl hst esx eXX hN hK
  go_enter Tryz.func40, Tryz.ntmps40
  go_wp2_with fail
  refine wp_region_held_drew (S := fun _ => True) (by kernel_rfl) trivial (fun hHeld => ?_)
  have hS0 : True := trivial
  refine hTake (i := 0) (v := .pointer (some ⟨wb, 0, none⟩)) (some 14) (by kernel_rfl) (by kernel_rfl) (by kernel_rfl) (by kernel_rfl) (by kernel_rfl) (fun _ _ _ h => h) (fun o ho W hSw => ?y0) (by assumption) ?_
  case y0 =>
    cases ho
    simp [execOp, go_sem, Act.eval]
  simp only [Act.put, zzA, zzB, zzC]
  refine hTake (i := 1) (v := .pointer (some ⟨wb, 0, none⟩)) (some 15) (by kernel_rfl) (by kernel_rfl) (by kernel_rfl) (by kernel_rfl) (by kernel_rfl) (fun _ _ _ h => h) (fun o ho W hSw => ?y1) (by assumption) ?_
  case y1 =>
    cases ho
    simp [execOp, go_sem, Act.eval]
  simp only [Act.put, zzA, zzB, zzC]
  refine hTake (i := 2) (v := .pointer (some ⟨wb, 0, none⟩)) (some 16) (by kernel_rfl) (by kernel_rfl) (by kernel_rfl) (by kernel_rfl) (by kernel_rfl) (fun _ _ _ h => h) (fun o ho W hSw => ?y2) (by assumption) ?_
  case y2 =>
    cases ho
    simp [execOp, go_sem, Act.eval]
  simp only [Act.put, zzA, zzB, zzC]
  refine hTake (i := 3) (v := .pointer (some ⟨wb, 0, none⟩)) (some 17) (by kernel_rfl) (by kernel_rfl) (by kernel_rfl) (by kernel_rfl) (by kernel_rfl) (fun _ _ _ h => h) (fun o ho W hSw => ?y3) (by assumption) ?_
  case y3 =>
    cases ho
    simp [execOp, go_sem, Act.eval]
  simp only [Act.put, zzA, zzB, zzC]
  refine hTake (i := 4) (v := .int .i64 n) (some 18) (by kernel_rfl) (by kernel_rfl) (by kernel_rfl) (by kernel_rfl) (by kernel_rfl) (fun _ _ _ h => h) (fun o ho W hSw => ?y4) (by assumption) ?_
  case y4 =>
    cases ho
    simp [execOp, go_sem, Act.eval]
  simp only [Act.put, zzA, zzB, zzC]
  refine hCallE (i := 5) (some 19) (by kernel_rfl) (by kernel_rfl) (by kernel_rfl) (fun o ho => ?y5) (HC.out) ?_ (fun ch w' h => by obtain ⟨h, _⟩ := h; simp at h) (fun w' h => by obtain ⟨h, _⟩ := h; simp at h)
  case y5 =>
    cases ho
    simp [execOp, go_sem, Act.eval]
  rintro u w1 ⟨hu, hb1⟩
  cases hu
  refine ⟨trivial, ?_⟩
  have HB1 : Hid (Below w.heap.size w w1) := (Below.refl _ _).drew.trans hb1
  clear hb1
  simp only [Act.put, zzA, zzB, zzC]
  refine hCallE (i := 6) (some 20) (by kernel_rfl) (by kernel_rfl) (by kernel_rfl) (fun o ho => ?y6) (HP.out w1 HB1.out) ?_ (fun ch w' h => by obtain ⟨h, _⟩ := h; simp at h) (fun w' h => by obtain ⟨h, _⟩ := h; simp at h)
  case y6 =>
    cases ho
    simp [execOp, go_sem, Act.eval]
  rintro u w2 hout
  have HO : Hid (TxtOut W0 w wb K R k XX (.returned (.tuple #[])) w2) := by
    obtain ⟨h1, h2, h3⟩ := hout
    exact PutOut.txt ⟨rfl, h2, (Kept.below HB1.out).trans h3⟩
  obtain ⟨hu, _, _⟩ := hout
  cases hu
  refine ⟨trivial, ?_⟩
  simp only [Act.put, zzA, zzB, zzC]
  refine wpAnyH_done (by kernel_rfl) ?_ _
  exact bodyPost_end (v := .tuple #[]) (by simp [results, Tryz.results40, go_sem]) rfl HO.out
set_option maxRecDepth 100000 in
set_option maxHeartbeats 1000000 in
theorem term_num {W0 : Bas} {wb : Nat} {K : WK} {N : List (List Int)} (hN : NamesK W0 wb K N) (hK : TabsK W0 wb) (n : Int) (hn0 : -1000000000000000 ≤ n) (hn1 : n ≤ 1000000000000000) (pr : Int) : TermAt W0 wb K (.iface 128 (.int .i64 n)) pr (decW n) := by
  intro w R k hR hl hst hT hP hs
  have n_var := wiT_num_var
  have n_num := wiT_num_num
  obtain ⟨p0, n0, c0, h⟩ := hs
  have h1 := h.drewN 1
  have hgr : W0.grownBy (w.drewN 1) (some wb) := h1.gr
  have HC : Hid _ := itoaW_any n hn0 hn1 (w.drewN 1) (hK.pow _ hgr)
  have HXB : Hid (Byte (decW n) ∧ (decW n).length ≤ 2000000) := ⟨decW_byte n, decW_lenW n⟩
  have HP : Hid (∀ W, Below w.heap.size w W → Calls Tryz.prog 69 #[.pointer (some ⟨wb, 0, none⟩), .string (strOfNums (decW n))] W (PutOut W0 W wb K (putR R k (decW n)) (putG k (decW n)))) := fun W hW => put_any W0 W wb K R (decW n) k (hT.below hW) hR HXB.out.1 (by have := putR_ge R (decW n) k; omega) ⟨p0, n0, c0, h.below hW⟩
  obtain ⟨sx, esx⟩ : ∃ sx, sx = strOfNums (decW n) := ⟨_, rfl⟩
  rw [← esx] at HC HP
  obtain ⟨XX, eXX⟩ : ∃ XX, XX = (decW n) := ⟨_, rfl⟩
  rw [← eXX] at HP HXB ⊢
  clear h h1 hgr hT hP hR hl hst esx eXX hN hK
  go_enter Tryz.func40, Tryz.ntmps40
  go_wp2_with fail
  refine wp_region_held_drew (S := fun _ => True) (by kernel_rfl) trivial (fun hHeld => ?_)
  have hS0 : True := trivial
  refine hTake (i := 0) (v := .pointer (some ⟨wb, 0, none⟩)) (some 24) (by kernel_rfl) (by kernel_rfl) (by kernel_rfl) (by kernel_rfl) (by kernel_rfl) (fun _ _ _ h => h) (fun o ho W hSw => ?y0) (by assumption) ?_
  case y0 =>
    cases ho
    simp [execOp, go_sem, Act.eval]
  simp only [Act.put, zzA, zzB, zzC]
  refine hTake (i := 1) (v := .pointer (some ⟨wb, 0, none⟩)) (some 25) (by kernel_rfl) (by kernel_rfl) (by kernel_rfl) (by kernel_rfl) (by kernel_rfl) (fun _ _ _ h => h) (fun o ho W hSw => ?y1) (by assumption) ?_
  case y1 =>
    cases ho
    simp [execOp, go_sem, Act.eval]
  simp only [Act.put, zzA, zzB, zzC]
  refine hTake (i := 2) (v := .pointer (some ⟨wb, 0, none⟩)) (some 26) (by kernel_rfl) (by kernel_rfl) (by kernel_rfl) (by kernel_rfl) (by kernel_rfl) (fun _ _ _ h => h) (fun o ho W hSw => ?y2) (by assumption) ?_
  case y2 =>
    cases ho
    simp [execOp, go_sem, Act.eval]
  simp only [Act.put, zzA, zzB, zzC]
  refine hTake (i := 3) (v := .int .i64 n) (some 27) (by kernel_rfl) (by kernel_rfl) (by kernel_rfl) (by kernel_rfl) (by kernel_rfl) (fun _ _ _ h => h) (fun o ho W hSw => ?y3) (by assumption) ?_
  case y3 =>
    cases ho
    simp [execOp, go_sem, Act.eval]
  simp only [Act.put, zzA, zzB, zzC]
  refine hCallE (i := 4) (some 28) (by kernel_rfl) (by kernel_rfl) (by kernel_rfl) (fun o ho => ?y4) (HC.out) ?_ (fun ch w' h => by obtain ⟨h, _⟩ := h; simp at h) (fun w' h => by obtain ⟨h, _⟩ := h; simp at h)
  case y4 =>
    cases ho
    simp [execOp, go_sem, Act.eval]
  rintro u w1 ⟨hu, hb1⟩
  cases hu
  refine ⟨trivial, ?_⟩
  have HB1 : Hid (Below w.heap.size w w1) := (Below.refl _ _).drew.trans hb1
  clear hb1
  simp only [Act.put, zzA, zzB, zzC]
  refine hCallE (i := 5) (some 29) (by kernel_rfl) (by kernel_rfl) (by kernel_rfl) (fun o ho => ?y5) (HP.out w1 HB1.out) ?_ (fun ch w' h => by obtain ⟨h, _⟩ := h; simp at h) (fun w' h => by obtain ⟨h, _⟩ := h; simp at h)
  case y5 =>
    cases ho
    simp [execOp, go_sem, Act.eval]
  rintro u w2 hout
  have HO : Hid (TxtOut W0 w wb K R k XX (.returned (.tuple #[])) w2) := by
    obtain ⟨h1, h2, h3⟩ := hout
    exact PutOut.txt ⟨rfl, h2, (Kept.below HB1.out).trans h3⟩
  obtain ⟨hu, _, _⟩ := hout
  cases hu
  refine ⟨trivial, ?_⟩
  simp only [Act.put, zzA, zzB, zzC]
  refine wpAnyH_done (by kernel_rfl) ?_ _
  exact bodyPost_end (v := .tuple #[]) (by simp [results, Tryz.results40, go_sem]) rfl HO.out
set_option maxRecDepth 100000 in
set_option maxHeartbeats 1000000 in
theorem term_atom {W0 : Bas} {wb : Nat} {K : WK} {N : List (List Int)} (hN : NamesK W0 wb K N) (hK : TabsK W0 wb) (xs : List Int) (hx : Byte xs) (hxl : xs.length ≤ 100) (pr : Int) : TermAt W0 wb K (.iface 129 (.string (strOfNums xs))) pr (atomW K.2.2.2.2 xs) := by
  intro w R k hR hl hst hT hP hs
  have n_var := wiT_atom_var
  have n_num := wiT_atom_num
  have n_atom := wiT_atom_atom
  obtain ⟨p0, n0, c0, h⟩ := hs
  have h1 := h.drewN 1
  have hgr : W0.grownBy (w.drewN 1) (some wb) := h1.gr
  have HC : Hid _ := atomText_any h1 xs hx hxl (hK.tab _ hgr)
  have HXB : Hid (Byte (atomW K.2.2.2.2 xs) ∧ (atomW K.2.2.2.2 xs).length ≤ 2000000) := ⟨atomW_byte K.2.2.2.2 hx, (Nat.le_trans (atomW_len K.2.2.2.2 hxl) (by decide))⟩
  have HP : Hid (∀ W, Below w.heap.size w W → Calls Tryz.prog 69 #[.pointer (some ⟨wb, 0, none⟩), .string (strOfNums (atomW K.2.2.2.2 xs))] W (PutOut W0 W wb K (putR R k (atomW K.2.2.2.2 xs)) (putG k (atomW K.2.2.2.2 xs)))) := fun W hW => put_any W0 W wb K R (atomW K.2.2.2.2 xs) k (hT.below hW) hR HXB.out.1 (by have := putR_ge R (atomW K.2.2.2.2 xs) k; omega) ⟨p0, n0, c0, h.below hW⟩
  obtain ⟨sx, esx⟩ : ∃ sx, sx = strOfNums (atomW K.2.2.2.2 xs) := ⟨_, rfl⟩
  rw [← esx] at HC HP
  obtain ⟨XX, eXX⟩ : ∃ XX, XX = (atomW K.2.2.2.2 xs) := ⟨_, rfl⟩
  rw [← eXX] at HP HXB ⊢
  obtain ⟨sa, esa⟩ : ∃ sa, sa = strOfNums xs := ⟨_, rfl⟩
  rw [← esa] at HC ⊢
  clear esa
  clear h h1 hgr hT hP hR hl hst esx eXX hN hK
  go_enter Tryz.func40, Tryz.ntmps40
  go_wp2_with fail
  refine wp_region_held_drew (S := fun _ => True) (by kernel_rfl) trivial (fun hHeld => ?_)
  have hS0 : True := trivial
  refine hTake (i := 0) (v := .pointer (some ⟨wb, 0, none⟩)) (some 33) (by kernel_rfl) (by kernel_rfl) (by kernel_rfl) (by kernel_rfl) (by kernel_rfl) (fun _ _ _ h => h) (fun o ho W hSw => ?y0) (by assumption) ?_
  case y0 =>
    cases ho
    simp [execOp, go_sem, Act.eval]
  simp only [Act.put, zzA, zzB, zzC]
  refine hTake (i := 1) (v := .pointer (some ⟨wb, 0, none⟩)) (some 34) (by kernel_rfl) (by kernel_rfl) (by kernel_rfl) (by kernel_rfl) (by kernel_rfl) (fun _ _ _ h => h) (fun o ho W hSw => ?y1) (by assumption) ?_
  case y1 =>
    cases ho
    simp [execOp, go_sem, Act.eval]
  simp only [Act.put, zzA, zzB, zzC]
  refine hTake (i := 2) (v := .pointer (some ⟨wb, 0, none⟩)) (some 35) (by kernel_rfl) (by kernel_rfl) (by kernel_rfl) (by kernel_rfl) (by kernel_rfl) (fun _ _ _ h => h) (fun o ho W hSw => ?y2) (by assumption) ?_
  case y2 =>
    cases ho
    simp [execOp, go_sem, Act.eval]
  simp only [Act.put, zzA, zzB, zzC]
  refine hTake (i := 3) (v := .pointer (some ⟨wb, 0, none⟩)) (some 36) (by kernel_rfl) (by kernel_rfl) (by kernel_rfl) (by kernel_rfl) (by kernel_rfl) (fun _ _ _ h => h) (fun o ho W hSw => ?y3) (by assumption) ?_
  case y3 =>
    cases ho
    simp [execOp, go_sem, Act.eval]
  simp only [Act.put, zzA, zzB, zzC]
  refine hTake (i := 4) (v := .string sa) (some 37) (by kernel_rfl) (by kernel_rfl) (by kernel_rfl) (by kernel_rfl) (by kernel_rfl) (fun _ _ _ h => h) (fun o ho W hSw => ?y4) (by assumption) ?_
  case y4 =>
    cases ho
    simp [execOp, go_sem, Act.eval]
  simp only [Act.put, zzA, zzB, zzC]
  refine hCallE (i := 5) (some 38) (by kernel_rfl) (by kernel_rfl) (by kernel_rfl) (fun o ho => ?y5) (HC.out) ?_ (fun ch w' h => by obtain ⟨h, _⟩ := h; simp at h) (fun w' h => by obtain ⟨h, _⟩ := h; simp at h)
  case y5 =>
    cases ho
    simp [execOp, go_sem, Act.eval]
  rintro u w1 ⟨hu, hb1⟩
  cases hu
  refine ⟨trivial, ?_⟩
  have HB1 : Hid (Below w.heap.size w w1) := (Below.refl _ _).drew.trans hb1
  clear hb1
  simp only [Act.put, zzA, zzB, zzC]
  refine hCallE (i := 6) (some 39) (by kernel_rfl) (by kernel_rfl) (by kernel_rfl) (fun o ho => ?y6) (HP.out w1 HB1.out) ?_ (fun ch w' h => by obtain ⟨h, _⟩ := h; simp at h) (fun w' h => by obtain ⟨h, _⟩ := h; simp at h)
  case y6 =>
    cases ho
    simp [execOp, go_sem, Act.eval]
  rintro u w2 hout
  have HO : Hid (TxtOut W0 w wb K R k XX (.returned (.tuple #[])) w2) := by
    obtain ⟨h1, h2, h3⟩ := hout
    exact PutOut.txt ⟨rfl, h2, (Kept.below HB1.out).trans h3⟩
  obtain ⟨hu, _, _⟩ := hout
  cases hu
  refine ⟨trivial, ?_⟩
  simp only [Act.put, zzA, zzB, zzC]
  refine wpAnyH_done (by kernel_rfl) ?_ _
  exact bodyPost_end (v := .tuple #[]) (by simp [results, Tryz.results40, go_sem]) rfl HO.out
end Go.Proofs.YtjhbplgppakhoaaGreatDoor

namespace Go.Proofs.YtjhbplgppakhoaaGreatDoor
open Go Go.RowKit
set_option linter.unusedVariables false
end Go.Proofs.YtjhbplgppakhoaaGreatDoor

