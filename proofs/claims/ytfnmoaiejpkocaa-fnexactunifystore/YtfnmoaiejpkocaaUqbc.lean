/- Texts of UfM. Own work of the verifier. -/
import Derived.Test.YtfnmoaiejpkocaaUqaz
import Derived.Test.YtfnmoaiejpkocaaUqba
import Derived.Test.YtfnmoaiejpkocaaUqbb
import Derived.Test.YtfnmoaiejpkocaaUqao
namespace Go.Proofs.Ytfnmoaiejpkocaa
open Go Go.RowKit Go.Maps
set_option linter.unusedVariables false

/-- What l10unify answers, and what it leaves. -/
def UniOut (V w : World) (h : Nat) (R : USt × Int × Nat) (e : Ending) (w' : World) : Prop := e = .returned (.int .i64 R.2.1) ∧ SHp V w' h R.1.1 R.1.2 (20000 - (R.2.2 : Int)) ∧ FrM h w w'
/-- The contract of l10unify, with n pairs left. -/
def UniOk (V : World) (h n : Nat) : Prop := ∀ (a b : Cel) (pa pb : Option Addr) (ca cb : Nat) (st : USt) (w : World), n ≤ 20000 → Fit st → WOk st.1 a → WOk st.1 b → BIn V pa a.2.2 → BIn V pb b.2.2 → SHp V w h st.1 st.2 (20000 - (n : Int)) →
  Calls Try.prog 66 #[.pointer (some ⟨h, 0, none⟩), .agg #[.int .i64 a.1, .int .i64 a.2.1, .slice pa a.2.2.length ca], .agg #[.int .i64 b.1, .int .i64 b.2.1, .slice pb b.2.2.length cb]] w (UniOut V w h (uRun n [(a, b)] st))
theorem uRun_leaf (n : Nat) (p : Cel × Cel) (st : USt) (U : USt × Int) (h : uStep st (drf st.1 p.1) (drf st.1 p.2) = (U, [])) : uRun (n + 1) [p] st = (U.1, U.2, n) := by
  by_cases hc : U.2 = 0
  · rw [uRun_ok _ _ _ _ (by rw [h]; exact hc), h]
    show uRun n ([] ++ []) U.1 = _
    rw [List.nil_append, uRun_nil, hc]
  · rw [uRun_bad _ _ _ _ (by rw [h]; exact hc), h]
theorem uRun_open (n : Nat) (p : Cel × Cel) (st : USt) (ps : List (Cel × Cel)) (h : uStep st (drf st.1 p.1) (drf st.1 p.2) = ((st, 0), ps)) : uRun (n + 1) [p] st = uRun n ps st := by
  rw [uRun_ok _ _ _ _ (by rw [h]), h]
  show uRun n (ps ++ []) st = _
  rw [List.append_nil]
/-- The number of pairs set anew. -/
theorem SHp.pairs {V w : World} {h : Nat} {xs : List Cel} {tr : List Int} {k : Int} (H : SHp V w h xs tr k) (k' : Int) : SHp V (w.setCell ⟨h, 2, none⟩ (.int .i64 k')) h xs tr k' ∧ FrM h w (w.setCell ⟨h, 2, none⟩ (.int .i64 k')) := by
  obtain ⟨pc, cc, pt, ct, h0, ⟨hn, rs, hl, hr, hf⟩, h2, h3, h4⟩ := H
  have hne1 := row_ne2 hr h0 (by decide)
  have hne2 := row_ne2 h2.2 h0 (by decide)
  refine ⟨⟨pc, cc, pt, ct, ?_, ⟨hn, rs, hl, ownsRow_setCell_other hr hne1 _, hf⟩, ⟨h2.1, ownsRow_setCell_other h2.2 hne2 _⟩, h3, h4.setCell (p := ⟨h, 2, none⟩) h3 _⟩, World.cell?_setCell_other _ _ _ _ (by simp), by simp, fun k cs hk _ => ?_⟩
  · rw [heap_setCell_same _ _ _ _ _ _ h0]; rfl
  · refine heap_setCell_other _ _ _ _ (fun e => ?_)
    simp only at e
    rw [e, h0] at hk
    simp only [Option.some.injEq, Obj.cells.injEq] at hk
    exact absurd hk.2.1 (by decide)
theorem below_setComm {w W : World} {h o : Nat} {v : Value} {cs : Array Value} {t : TypeId} (hb : Below w.heap.size w W) (hh : w.heap[h]? = some (.cells cs t)) : Below w.heap.size (w.setCell ⟨h, o, none⟩ v) (W.setCell ⟨h, o, none⟩ v) := by
  have hl : h < w.heap.size := (Array.getElem?_eq_some_iff.1 hh).1
  have hW := (hb.block h hl).trans hh
  have a := (Below.refl h w).setCell (p := ⟨h, o, none⟩) (Nat.le_refl _) v
  have b := (Below.refl h W).setCell (p := ⟨h, o, none⟩) (Nat.le_refl _) v
  refine ⟨b.os.trans (hb.os.trans a.os.symm), b.tape.trans (hb.tape.trans a.tape.symm), b.output.trans (hb.output.trans a.output.symm), by simpa using hb.size, fun i hi => ?_⟩
  by_cases e : i = h
  · rw [e, heap_setCell_same _ _ _ _ _ _ hW, heap_setCell_same _ _ _ _ _ _ hh]
  · rw [heap_setCell_other _ _ _ _ e, heap_setCell_other _ _ _ _ e]
    exact hb.block i (by simpa using hi)

theorem str_injL {xs ys : List Int} (hx : Byte xs) (hy : Byte ys) : ((strOfNums xs).toList == (strOfNums ys).toList) = decide (xs = ys) := by
  rw [Bool.eq_iff_iff]
  simp only [beq_iff_eq, decide_eq_true_eq]
  rw [str_eq hx, ← (str_eq hy (strOfNums ys).toList).1 rfl]
/-- The arguments of a structure, when pairs were made of them and later. -/
theorem arg_later {st R : USt} (hf : Fit st) (hR : Fit R) (hx : Ext st.1 R.1) {s nn k : Nat} (hs : s < st.1.length) (h3 : kndA st.1 s = 3) (hn : numA st.1 s = nn) (hk : k < nn) :
    s + (k + 1) < R.1.length ∧ kndA R.1 (s + (k + 1)) ≠ 3 ∧ drf R.1 (st.1.getD (s + (k + 1)) Cel.none) = drf R.1 (R.1.getD (s + (k + 1)) Cel.none) := by
  have hsame : R.1.getD s Cel.none = st.1.getD s Cel.none := by
    rcases hx.2 s hs with e | e
    · exact e
    · exfalso
      have : kndA st.1 s = 0 := by unfold kndA; rw [e]
      omega
  have hs' : s < R.1.length := by rw [hx.1]; exact hs
  have h3' : kndA R.1 s = 3 := by unfold kndA; rw [hsame]; exact h3
  have hn' : numA R.1 s = nn := by unfold numA; rw [hsame]; exact hn
  obtain ⟨_, _, f3⟩ := hR.1.shp.funs s hs' h3'
  obtain ⟨f4, f5⟩ := f3 (k + 1) (by omega) (by omega)
  exact ⟨f4, f5, drf_later hx hR.1 hR.2.1 (by rw [← hx.1]; exact f4) f5⟩
theorem pairsL_succ (xs : List Cel) (s t k : Nat) : pairsL xs s t (k + 1) = pairsL xs s t k ++ [(xs.getD (s + (k + 1)) Cel.none, xs.getD (t + (k + 1)) Cel.none)] := by
  simp [pairsL, List.range_succ]
theorem pairsL_split (xs : List Cel) (s t : Nat) {k n : Nat} (h : k ≤ n) : ∃ r, pairsL xs s t n = pairsL xs s t k ++ r := by
  induction n with
  | zero => exact ⟨[], by rw [show k = 0 by omega]; simp⟩
  | succ n ih =>
    by_cases e : k = n + 1
    · exact ⟨[], by rw [e]; simp⟩
    · obtain ⟨r, hr⟩ := ih (by omega)
      exact ⟨r ++ [(xs.getD (s + (n + 1)) Cel.none, xs.getD (t + (n + 1)) Cel.none)], by rw [pairsL_succ, hr, List.append_assoc]⟩
/-- The block b is a box of a cell. -/
def CB (w : World) (b : Nat) : Prop := ∃ cs, w.heap[b]? = some (.cells cs 31)
theorem CB.on {w w' : World} {b : Nat} (h : CB w b) (hb : Below w.heap.size w w') : CB w' b := by
  obtain ⟨cs, e⟩ := h
  exact ⟨cs, (hb.block b (Array.getElem?_eq_some_iff.1 e).1).trans e⟩
theorem CB.set {w : World} {b : Nat} (h : CB w b) (c o : Nat) (v : Value) : CB (w.setCell ⟨c, o, none⟩ v) b := by
  obtain ⟨cs, e⟩ := h
  by_cases hc : b = c
  · subst hc; rw [CB, heap_setCell_same _ _ _ _ _ _ e]; exact ⟨_, rfl⟩
  · exact ⟨cs, (heap_setCell_other _ _ _ _ hc).trans e⟩
theorem CB.fr {h : Nat} {w w' : World} {b : Nat} (hc : CB w b) (hf : FrM h w w') (hg : ∀ gg n c, w.cell? ⟨h, 0, none⟩ = some (.slice (some ⟨gg, 0, none⟩) n c) → b ≠ gg) : w'.heap[b]? = w.heap[b]? := by
  obtain ⟨cs, e⟩ := hc
  exact hf.2.2 b cs e hg
set_option maxHeartbeats 4000000 in
set_option maxRecDepth 100000 in
theorem l10unify_any (V : World) (h : Nat) : ∀ n, UniOk V h n := by
  intro n
  induction n using Nat.strongRecOn with
  | _ n ih =>
    intro a b pa pb ca cb st w hn hf ha hb hpa hpb H
    obtain ⟨pc, cc, pt, ct, hh, _⟩ := id H
    have hlh := H.lt
    obtain ⟨W1, eW1⟩ : ∃ W, W = (w.alloc (.cells #[.int .i64 a.1, .int .i64 a.2.1, .slice pa a.2.2.length ca] 31)).alloc (.cells #[.int .i64 b.1, .int .i64 b.2.1, .slice pb b.2.2.length cb] 31) := ⟨_, rfl⟩
    have hb1 : Below w.heap.size w W1 := by rw [eW1]; exact ((Below.refl _ _).alloc (Nat.le_refl _) _).alloc (by simp) _
    have hh1 := (hb1.block h hlh).trans hh
    have p1 : W1.cell? ⟨h, 2, none⟩ = some (.int .i64 (20000 - (n : Int))) := by simp [World.cell?, hh1]
    have f1 : W1.frozen? ⟨h, 2, none⟩ = false := frozen_of_row _ _ _ _ _ hh1
    have HE1 : Hid _ := eW1
    cases n with
    | zero =>
      have HZ : Hid (UniOut V w h (uRun 0 [(a, b)] st) (.returned (.int .i64 3)) W1) := ⟨rfl, H.below hb1, FrM.of_below hb1⟩
      rw [eW1] at p1 f1
      clear H hf ha hb hpa hpb hh hh1 hb1 eW1 ih
      go_enter Try.func66, Try.ntmps66
      go_wp2_with fail
      rw [← HE1.out]
      go_ret
      exact HZ.out
    | succ n =>
      obtain ⟨kk, ekk⟩ : ∃ kk : Int, kk = 20000 - ((n + 1 : Nat) : Int) := ⟨_, rfl⟩
      have hk0 : 0 ≤ kk ∧ kk < 20000 := by omega
      have hk1 : kk + 1 = 20000 - (n : Int) := by omega
      rw [← ekk] at p1
      -- the world with one pair more, and what lies behind it
      obtain ⟨wk, ewk⟩ : ∃ W, W = w.setCell ⟨h, 2, none⟩ (.int .i64 (kk + 1)) := ⟨_, rfl⟩
      obtain ⟨W2, eW2⟩ : ∃ W, W = (wk.alloc (.cells #[.int .i64 a.1, .int .i64 a.2.1, .slice pa a.2.2.length ca] 31)).alloc (.cells #[.int .i64 b.1, .int .i64 b.2.1, .slice pb b.2.2.length cb] 31) := ⟨_, rfl⟩
      have hbk : Below wk.heap.size wk W2 := by rw [eW2]; exact ((Below.refl _ _).alloc (Nat.le_refl _) _).alloc (by simp) _
      have hsk := H.pairs (kk + 1)
      rw [← ewk] at hsk
      have hzk : wk.heap.size = w.heap.size := by rw [ewk]; simp
      have hba : Box3 W2 w.heap.size (.int .i64 a.1) (.int .i64 a.2.1) (.slice pa a.2.2.length ca) := by
        rw [eW2, ← hzk]
        exact (Box3.of_block (t := 31) (heap_alloc_new wk _)).on (alloc_on _ _)
      have hbb : Box3 W2 (w.heap.size + 1) (.int .i64 b.1) (.int .i64 b.2.1) (.slice pb b.2.2.length cb) := by
        rw [eW2, ← hzk]
        have := Box3.of_block (t := 31) (heap_alloc_new (wk.alloc (.cells #[.int .i64 a.1, .int .i64 a.2.1, .slice pa a.2.2.length ca] 31)) (.cells #[.int .i64 b.1, .int .i64 b.2.1, .slice pb b.2.2.length cb] 31))
        simpa using this
      have hca : CB W2 w.heap.size := by
        rw [eW2, ← hzk]
        exact CB.on ⟨_, heap_alloc_new wk _⟩ (alloc_on _ _)
      have hcb : CB W2 (w.heap.size + 1) := by
        rw [eW2, ← hzk]
        have := heap_alloc_new (wk.alloc (.cells #[.int .i64 a.1, .int .i64 a.2.1, .slice pa a.2.2.length ca] 31)) (.cells #[.int .i64 b.1, .int .i64 b.2.1, .slice pb b.2.2.length cb] 31)
        exact ⟨_, by simpa using this⟩
      have hS2 := hsk.1.below hbk
      have hDA := l10deref_any V h pa ca a st.1 st.2 (kk + 1) W2 hf.1 ha.1 hpa hS2
      obtain ⟨hx, hox⟩ := wok_drf hf.1 hf.2.1 ha
      obtain ⟨hy, hoy⟩ := wok_drf hf.1 hf.2.1 hb
      have HDB : Hid (∀ W, Below wk.heap.size wk W → Calls Try.prog 39 #[.pointer (some ⟨h, 0, none⟩), .agg #[.int .i64 b.1, .int .i64 b.2.1, .slice pb b.2.2.length cb]] W fun e w' => ∃ p' cp', e = .returned (.agg #[.int .i64 (drf st.1 b).1, .int .i64 (drf st.1 b).2.1, .slice p' (drf st.1 b).2.2.length cp']) ∧ BIn V p' (drf st.1 b).2.2 ∧ Below W.heap.size W w') := fun W hW => l10deref_any V h pb cb b st.1 st.2 (kk + 1) W hf.1 hb.1 hpb (hsk.1.below hW)
      -- what each kind of pair comes to
      obtain ⟨X, eX⟩ : ∃ X, X = drf st.1 a := ⟨_, rfl⟩
      obtain ⟨Y, eY⟩ : ∃ Y, Y = drf st.1 b := ⟨_, rfl⟩
      rw [← eX] at hDA hx hox
      rw [← eY] at HDB hy hoy
      have HLF : Hid (∀ U, uStep st X Y = (U, []) → uRun (n + 1) [(a, b)] st = (U.1, U.2, n)) := fun U hU => uRun_leaf n (a, b) st U (by rw [← eX, ← eY]; exact hU)
      have HOPN : Hid (∀ ps, uStep st X Y = ((st, 0), ps) → uRun (n + 1) [(a, b)] st = uRun n ps st) := fun ps hU => uRun_open n (a, b) st ps (by rw [← eX, ← eY]; exact hU)
      have HSH : Hid (SHp V wk h st.1 st.2 (kk + 1) ∧ FrM h w wk) := hsk
      have HFIT : Hid (Fit st) := hf
      have HXO : Hid (WOk st.1 X ∧ onB st.1 X = false) := ⟨hx, hox⟩
      have HYO : Hid (WOk st.1 Y ∧ onB st.1 Y = false) := ⟨hy, hoy⟩
      have HGG : Hid (∀ gg m c, w.cell? ⟨h, 0, none⟩ = some (.slice (some ⟨gg, 0, none⟩) m c) → gg < w.heap.size) := fun gg m c hc => by
        obtain ⟨pc', cc', pt', ct', h0', ⟨_, rs, _, hr, _⟩, _⟩ := H
        have e : w.cell? ⟨h, 0, none⟩ = some (.slice pc' st.1.length cc') := by simp [World.cell?, h0']
        rw [e] at hc
        simp only [Option.some.injEq, Value.slice.injEq] at hc
        exact (hr.lt gg (by rw [hc.1]; rfl)).2
      have HIH : Hid (∀ m, m ≤ n → UniOk V h m) := fun m hm => ih m (by omega)
      have hlk : h < wk.heap.size := by omega
      -- leaving: a code, with the store as it is
      have HLV : Hid (∀ code W, uStep st X Y = ((st, code), []) → Below wk.heap.size wk W → UniOut V w h (uRun (n + 1) [(a, b)] st) (.returned (.int .i64 code)) W) := fun code W hU hW => by
        rw [HLF.out _ hU]
        exact ⟨rfl, by show SHp V W h st.1 st.2 (20000 - (n : Int)); rw [← hk1]; exact HSH.out.1.below hW, HSH.out.2.trans (FrM.of_below hW)⟩
      have HPUT : Hid (∀ w3 (p2 : Option Addr) (cp2 : Nat), Below W2.heap.size W2 w3 → ∃ W4, W4 = ((w3.setCell ⟨w.heap.size, 0, none⟩ (.int .i64 X.1)).setCell ⟨w.heap.size, 1, none⟩ (.int .i64 X.2.1)).setCell ⟨w.heap.size, 2, none⟩ (.slice p2 X.2.2.length cp2) ∧ Box3 W4 w.heap.size (.int .i64 X.1) (.int .i64 X.2.1) (.slice p2 X.2.2.length cp2) ∧ Box3 W4 (w.heap.size + 1) (.int .i64 b.1) (.int .i64 b.2.1) (.slice pb b.2.2.length cb) ∧ Below wk.heap.size wk W4 ∧ CB W4 w.heap.size ∧ CB W4 (w.heap.size + 1)) := fun w3 p2 cp2 hw3 =>
        ⟨_, rfl, (hba.on hw3).put _ _ _, (((hbb.on hw3).setCell (a := ⟨_, _, none⟩) (by simp) _).setCell (a := ⟨_, _, none⟩) (by simp) _).setCell (a := ⟨_, _, none⟩) (by simp) _, below_put3 (Below.on hbk hw3) (by omega) _ _ _, (((hca.on hw3).set _ _ _).set _ _ _).set _ _ _, (((hcb.on hw3).set _ _ _).set _ _ _).set _ _ _⟩
      have HPUT2 : Hid (∀ W4 w5 (p2 p3 : Option Addr) (cp2 cp3 : Nat), Below wk.heap.size wk W4 → Box3 W4 w.heap.size (.int .i64 X.1) (.int .i64 X.2.1) (.slice p2 X.2.2.length cp2) → Box3 W4 (w.heap.size + 1) (.int .i64 b.1) (.int .i64 b.2.1) (.slice pb b.2.2.length cb) → Below W4.heap.size W4 w5 → CB W4 w.heap.size → CB W4 (w.heap.size + 1) → ∃ W6, W6 = ((w5.setCell ⟨w.heap.size + 1, 0, none⟩ (.int .i64 Y.1)).setCell ⟨w.heap.size + 1, 1, none⟩ (.int .i64 Y.2.1)).setCell ⟨w.heap.size + 1, 2, none⟩ (.slice p3 Y.2.2.length cp3) ∧ Box3 W6 w.heap.size (.int .i64 X.1) (.int .i64 X.2.1) (.slice p2 X.2.2.length cp2) ∧ Box3 W6 (w.heap.size + 1) (.int .i64 Y.1) (.int .i64 Y.2.1) (.slice p3 Y.2.2.length cp3) ∧ Below wk.heap.size wk W6 ∧ CB W6 w.heap.size ∧ CB W6 (w.heap.size + 1)) := fun W4 w5 p2 p3 cp2 cp3 hW4 bx bb hw5 c1 c2 =>
        ⟨_, rfl, (((bx.on hw5).setCell (a := ⟨_, _, none⟩) (by simp) _).setCell (a := ⟨_, _, none⟩) (by simp) _).setCell (a := ⟨_, _, none⟩) (by simp) _, (bb.on hw5).put _ _ _, below_put3 (Below.on hW4 hw5) (by omega) _ _ _, (((c1.on hw5).set _ _ _).set _ _ _).set _ _ _, (((c2.on hw5).set _ _ _).set _ _ _).set _ _ _⟩
      have HBAW : Hid (Box3 W2 w.heap.size (.int .i64 a.1) (.int .i64 a.2.1) (.slice pa a.2.2.length ca)) := hba
      obtain ⟨y0, y1, y2, y3⟩ := hba
      have HE2 : Hid _ := eW2
      have hn19 : n < 20000 := by omega
      have hkk1 := hk0.1
      have hkk2 := hk0.2
      have HEK : Hid _ := ewk
      have HK1 : Hid _ := hk1
      rw [eW2, ewk] at y0 y1 y2 y3
      rw [eW1] at p1 f1
      clear hk1 H hf ha hb hpa hpb hh hh1 hb1 ih hx hox hy hoy hsk hbb hbk hS2 hca hcb eX eY eW2 eW1 ewk ekk hk0 hn
      obtain ⟨X0, X1, XT⟩ := X
      obtain ⟨Y0, Y1, YT⟩ := Y
      simp only at hDA HDB HPUT HPUT2
      obtain ⟨X2, eX2⟩ : ∃ m, m = XT.length := ⟨_, rfl⟩
      obtain ⟨Y2, eY2⟩ : ∃ m, m = YT.length := ⟨_, rfl⟩
      rw [← eX2] at hDA HPUT HPUT2
      rw [← eY2] at HDB HPUT2
      have HL2 : Hid (X2 = XT.length ∧ Y2 = YT.length) := ⟨eX2, eY2⟩
      clear eX2 eY2
      go_enter Try.func66, Try.ntmps66
      go_wp2_with fail
      rw [← HEK.out, ← HE2.out]
      refine hDA.mono ?_
      rintro e w3 ⟨p2, cp2, rfl, hp2, hb3⟩
      obtain ⟨W4, eW4, hxa, hxb, hwk4, hca4, hcb4⟩ := HPUT.out w3 p2 cp2 hb3
      have HCB4 : Hid (CB W4 w.heap.size ∧ CB W4 (w.heap.size + 1)) := ⟨hca4, hcb4⟩
      clear hca4 hcb4
      have HE4 : Hid _ := eW4
      obtain ⟨z0, z1, z2, z3⟩ := HBAW.out.on hb3
      have HPX : Hid (BIn V p2 XT) := hp2
      clear hb3 hp2 eW4 hDA HPUT y0 y1 y2 y3 p1 f1
      go_upto_region 5 with fail
      rw [← HE4.out]
      clear HE4 z0 z1 z2 z3 HBAW
      have HXA : Hid (Box3 W4 w.heap.size (.int .i64 X0) (.int .i64 X1) (.slice p2 X2 cp2)) := hxa
      have HXB : Hid (Box3 W4 (w.heap.size + 1) (.int .i64 b.1) (.int .i64 b.2.1) (.slice pb b.2.2.length cb)) := hxb
      have HW4 : Hid (Below wk.heap.size wk W4) := hwk4
      have hcall := HDB.out W4 hwk4
      obtain ⟨z0, z1, z2, z3⟩ := hxb
      clear hxa hwk4 HDB
      go_wp2_with fail
      refine hcall.mono ?_
      rintro e w5 ⟨p3, cp3, rfl, hp3, hb5⟩
      obtain ⟨W6, eW6, hxa, hyb, hwk6, hca6, hcb6⟩ := HPUT2.out W4 w5 p2 p3 cp2 cp3 HW4.out HXA.out HXB.out hb5 HCB4.out.1 HCB4.out.2
      have HCB6 : Hid (CB W6 w.heap.size ∧ CB W6 (w.heap.size + 1)) := ⟨hca6, hcb6⟩
      clear hca6 hcb6 HCB4
      have HE6 : Hid _ := eW6
      clear z0 z1 z2 z3
      obtain ⟨z0, z1, z2, z3⟩ := HXB.out.on hb5
      have HPY : Hid (BIn V p3 YT) := hp3
      clear hb5 hp3 eW6 hcall HPUT2
      go_upto_region 6 with fail
      rw [← HE6.out]
      clear HE6 z0 z1 z2 z3 HXB HXA HW4
      have HX6 : Hid (Box3 W6 w.heap.size (.int .i64 X0) (.int .i64 X1) (.slice p2 X2 cp2)) := hxa
      have HY6 : Hid (Box3 W6 (w.heap.size + 1) (.int .i64 Y0) (.int .i64 Y1) (.slice p3 Y2 cp3)) := hyb
      have HW6 : Hid (Below wk.heap.size wk W6) := hwk6
      obtain ⟨x0, x1, x2, x3⟩ := hxa
      obtain ⟨y0, y1, y2, y3⟩ := hyb
      clear hwk6
      -- binding: either way round
      have HBND : Hid (∀ (aN : Nat) (Z : Cel) (pz : Option Addr) (cz : Nat), varB st.1 aN = true → WOk st.1 Z → BIn V pz Z.2.2 → uStep st (X0, X1, XT) (Y0, Y1, YT) = (bndU st aN Z, []) → Calls Try.prog 63 #[.pointer (some ⟨h, 0, none⟩), .int .i64 (aN : Int), .agg #[.int .i64 Z.1, .int .i64 Z.2.1, .slice pz Z.2.2.length cz]] W6 fun e w' => ∃ code, e = .returned (.int .i64 code) ∧ UniOut V w h (uRun (n + 1) [(a, b)] st) (.returned (.int .i64 code)) w') := fun aN Z pz cz hv hz hpz hU => by
        refine (l10bindF_any V h aN pz cz Z st.1 st.2 (kk + 1) W6 HFIT.out.1 hv hz.1 HFIT.out.2.2 hpz (HSH.out.1.below HW6.out)).mono fun e w' ⟨he, hs', hfr⟩ => ⟨_, he, ?_⟩
        rw [HLF.out _ hU]
        refine ⟨rfl, ?_, (HSH.out.2.trans (FrM.of_below HW6.out)).trans hfr⟩
        show SHp V w' h _ _ (20000 - (n : Int))
        rw [← HK1.out]
        exact hs'
      by_cases q0 : X0 = 0
      · have e0 : (X0 == 0) = true := by simp [q0]
        have hvx := follow_ref (x := (X0, X1, XT)) q0 HXO.out.2
        obtain ⟨v1, v2, _, _⟩ := varB_at hvx
        simp only at hvx v1 v2
        by_cases qs : Y0 = 0 ∧ Y1 = X1
        · have HR : Hid (UniOut V w h (uRun (n + 1) [(a, b)] st) (.returned (.int .i64 0)) W6) := HLV.out 0 W6 (us_same q0 qs) HW6.out
          have e1 : (Y0 == 0) = true := by simp [qs.1]
          have e2 : (Y1 == X1) = true := by simp [qs.2]
          clear q0 qs HBND HLV HLF HOPN HIH hvx v1 v2
          go_wp2
          go_ret
          exact HR.out
        · obtain ⟨aN, rfl⟩ : ∃ k : Nat, X1 = k := ⟨X1.toNat, by omega⟩
          have hcall := HBND.out aN (Y0, Y1, YT) p3 cp3 hvx HYO.out.1 HPY.out (by have := us_bx (st := st) (x := (X0, (aN : Int), XT)) (y := (Y0, Y1, YT)) q0 qs; simpa using this)
          simp only at hcall
          rw [← HL2.out.2] at hcall
          have f01 : (Y0 == 0) = false ∨ ((Y0 == 0) = true ∧ (Y1 == (aN : Int)) = false) := by
            by_cases e : Y0 = 0
            · exact .inr ⟨by simp [e], by simp; exact fun e2 => qs ⟨e, e2⟩⟩
            · exact .inl (by simp [e])
          clear q0 qs HBND HLV HLF HOPN HIH hvx v1 v2
          rcases f01 with e1 | ⟨e1, e2⟩
          all_goals
            go_wp2_with fail
            refine hcall.mono ?_
            rintro e w7 ⟨code, rfl, hout⟩
            have HR : Hid (UniOut V w h (uRun (n + 1) [(a, b)] st) (.returned (.int .i64 code)) w7) := hout
            clear hout hcall
            go_wp2
            go_ret
            exact HR.out
      · have e0 : (X0 == 0) = false := by simp [q0]
        by_cases qy : Y0 = 0
        · have e1 : (Y0 == 0) = true := by simp [qy]
          have hvy := follow_ref (x := (Y0, Y1, YT)) qy HYO.out.2
          obtain ⟨v1, v2, _, _⟩ := varB_at hvy
          simp only at hvy v1 v2
          obtain ⟨bN, rfl⟩ : ∃ k : Nat, Y1 = k := ⟨Y1.toNat, by omega⟩
          have hcall := HBND.out bN (X0, X1, XT) p2 cp2 hvy HXO.out.1 HPX.out (by have := us_by (st := st) (x := (X0, X1, XT)) (y := (Y0, (bN : Int), YT)) q0 qy; simpa using this)
          simp only at hcall
          rw [← HL2.out.1] at hcall
          clear q0 qy HBND HLV HLF HOPN HIH hvy v1 v2
          go_wp2_with fail
          refine hcall.mono ?_
          rintro e w7 ⟨code, rfl, hout⟩
          have HR : Hid (UniOut V w h (uRun (n + 1) [(a, b)] st) (.returned (.int .i64 code)) w7) := hout
          clear hout hcall
          go_wp2
          go_ret
          exact HR.out
        · have e1 : (Y0 == 0) = false := by simp [qy]
          clear HBND
          by_cases qk : X0 = Y0
          · have ek : (X0 != Y0) = false := by simp [qk]
            by_cases q4 : X0 = 4
            · subst qk
              subst q4
              obtain ⟨s0, s1, s2⟩ := HXO.out.1.1.2.2 rfl
              obtain ⟨t0, t1, t2⟩ := HYO.out.1.1.2.2 rfl
              simp only at s0 s1 s2 t0 t1 t2
              obtain ⟨s, rfl⟩ : ∃ k : Nat, X1 = k := ⟨X1.toNat, by omega⟩
              obtain ⟨t, rfl⟩ : ∃ k : Nat, Y1 = k := ⟨Y1.toNat, by omega⟩
              simp only [Int.toNat_natCast] at s2 t2
              have hs : s < st.1.length := by omega
              have ht : t < st.1.length := by omega
              have hxl := HFIT.out.1.shp.len
              obtain ⟨fs1, fs2, fs3⟩ := HFIT.out.1.shp.funs s hs s2
              obtain ⟨ft1, ft2, ft3⟩ := HFIT.out.1.shp.funs t ht t2
              obtain ⟨nn, enn⟩ : ∃ m : Nat, numA st.1 s = m := ⟨(numA st.1 s).toNat, by omega⟩
              obtain ⟨mm, emm⟩ : ∃ m : Nat, numA st.1 t = m := ⟨(numA st.1 t).toNat, by omega⟩
              have hnn : nn ≤ 20 := by omega
              have hmm : mm ≤ 20 := by omega
              obtain ⟨ST, eST⟩ : ∃ q, q = (st.1.getD s Cel.none).2.2 := ⟨_, rfl⟩
              obtain ⟨TT, eTT⟩ : ∃ q, q = (st.1.getD t Cel.none).2.2 := ⟨_, rfl⟩
              obtain ⟨S2, eS2⟩ : ∃ q, q = ST.length := ⟨_, rfl⟩
              obtain ⟨T2, eT2⟩ : ∃ q, q = TT.length := ⟨_, rfl⟩
              have HSB : Hid (Byte ST ∧ Byte TT) := ⟨by rw [eST]; exact (HFIT.out.2.1 s hs).2, by rw [eTT]; exact (HFIT.out.2.1 t ht).2⟩
              have HST : Hid (kndA st.1 s = 3 ∧ kndA st.1 t = 3) := ⟨s2, t2⟩
              -- the cells of a functor, in every later world
              obtain ⟨pc6, cc6, pt6, ct6, hh6, hrow6, _, _, _⟩ := HSH.out.1
              obtain ⟨gg, qs, cs, rfl, hg1, hg2, d0, d1, d2, hqs⟩ := hrow6.at s hs
              obtain ⟨gg', qt, cu, egg, _, _, u0, u1, u2, hqt⟩ := hrow6.at t ht
              simp only [Option.some.injEq, Addr.mk.injEq, and_true] at egg
              subst egg
              rw [show (st.1.getD s Cel.none).1 = 3 from s2] at d0
              rw [show (st.1.getD s Cel.none).2.1 = (nn : Int) from enn] at d1
              rw [show (st.1.getD t Cel.none).1 = 3 from t2] at u0
              rw [show (st.1.getD t Cel.none).2.1 = (mm : Int) from emm] at u1
              rw [← eST, ← eS2] at d2
              rw [← eTT, ← eT2] at u2
              rw [← eST] at hqs
              rw [← eTT] at hqt
              have HCL : Hid (∀ W, Below wk.heap.size wk W → (W.cell? ⟨h, 0, none⟩ = some (.slice (some ⟨gg, 0, none⟩) st.1.length cc6) ∧ W.cell? ⟨gg, s * 3, none⟩ = some (.int .i64 3) ∧ W.cell? ⟨gg, s * 3 + 1, none⟩ = some (.int .i64 nn) ∧ W.cell? ⟨gg, s * 3 + 2, none⟩ = some (.slice qs S2 cs)) ∧ (W.cell? ⟨gg, t * 3, none⟩ = some (.int .i64 3) ∧ W.cell? ⟨gg, t * 3 + 1, none⟩ = some (.int .i64 mm) ∧ W.cell? ⟨gg, t * 3 + 2, none⟩ = some (.slice qt T2 cu))) := fun W hW => by
                have hh' := (hW.block h hlk).trans hh6
                exact ⟨⟨by simp [World.cell?, hh'], (hW.cell (p := ⟨gg, s * 3, none⟩) hg2).trans d0, (hW.cell (p := ⟨gg, s * 3 + 1, none⟩) hg2).trans d1, (hW.cell (p := ⟨gg, s * 3 + 2, none⟩) hg2).trans d2⟩, (hW.cell (p := ⟨gg, t * 3, none⟩) hg2).trans u0, (hW.cell (p := ⟨gg, t * 3 + 1, none⟩) hg2).trans u1, (hW.cell (p := ⟨gg, t * 3 + 2, none⟩) hg2).trans u2⟩
              have HQ : Hid (BIn V qs ST ∧ BIn V qt TT ∧ S2 = ST.length ∧ T2 = TT.length) := ⟨hqs, hqt, eS2, eT2⟩
              have HSF : Hid (sameF st.1 s t ↔ (nn = mm ∧ ST = TT)) := by show _ ↔ _; unfold sameF; rw [enn, emm, ← eST, ← eTT]; exact ⟨fun hh => ⟨by have := hh.1; omega, hh.2⟩, fun hh => ⟨by rw [hh.1], hh.2⟩⟩
              have HNN : Hid (numA st.1 s = nn) := enn
              have e4 : ((4 : Int) != 4) = false := by decide
              clear s0 s1 s2 t0 t1 t2 d0 d1 d2 u0 u1 u2 hh6 hrow6 hqs hqt hg1 hg2 eST eTT eS2 eT2 fs1 fs2 ft1 ft2 enn emm
              obtain ⟨⟨h0, d0, d1, d2⟩, u0, u1, u2⟩ := HCL.out W6 HW6.out
              have hz6 : w.heap.size + 1 < W6.heap.size := World.block_lt_of_cell? _ _ y0
              go_wp2
              go_region_held3 (fun W => W.cell? ⟨h, 0, none⟩ = some (.slice (some ⟨gg, 0, none⟩) st.1.length cc6) ∧ W.cell? ⟨w.heap.size, 1, none⟩ = some (.int .i64 s) ∧ W.cell? ⟨gg, s * 3, none⟩ = some (.int .i64 3) ∧ W.cell? ⟨gg, s * 3 + 1, none⟩ = some (.int .i64 nn) ∧ W.cell? ⟨gg, s * 3 + 2, none⟩ = some (.slice qs S2 cs)) (go_keep) (fail)
              rename_i hheld
              clear hheld h0 d0 d1 d2 u0 u1 u2
              obtain ⟨W7, eW7⟩ : ∃ W, W = (W6.alloc (.cells #[.int .i64 3, .int .i64 nn, .slice qs S2 cs] 31)).drew := ⟨_, rfl⟩
              have hb67 : Below W6.heap.size W6 W7 := by rw [eW7]; exact (alloc_on _ _).drew
              have HF7 : Hid (Box3 W7 W6.heap.size (.int .i64 3) (.int .i64 nn) (.slice qs S2 cs) ∧ CB W7 W6.heap.size) := ⟨by rw [eW7]; exact Box3.of_block (t := 31) (heap_alloc_new W6 _), by rw [eW7]; exact ⟨_, heap_alloc_new W6 _⟩⟩
              have HW7 : Hid (Below wk.heap.size wk W7) := Below.on HW6.out hb67
              have HX7 : Hid (Box3 W7 w.heap.size (.int .i64 4) (.int .i64 s) (.slice p2 X2 cp2) ∧ Box3 W7 (w.heap.size + 1) (.int .i64 4) (.int .i64 t) (.slice p3 Y2 cp3)) := ⟨HX6.out.on hb67, HY6.out.on hb67⟩
              have HCB7 : Hid (CB W7 w.heap.size ∧ CB W7 (w.heap.size + 1)) := ⟨HCB6.out.1.on hb67, HCB6.out.2.on hb67⟩
              rw [← eW7]
              clear eW7 hb67 x0 x1 x2 x3 y0 y1 y2 y3 HX6 HY6 HCB6 HW6
              generalize W6.heap.size = bf at HF7 hz6 ⊢
              obtain ⟨⟨h0, d0, d1, d2⟩, u0, u1, u2⟩ := HCL.out W7 HW7.out
              have y1 := HX7.out.2.2.1
              go_wp2
              go_region_held3 (fun W => W.cell? ⟨h, 0, none⟩ = some (.slice (some ⟨gg, 0, none⟩) st.1.length cc6) ∧ W.cell? ⟨w.heap.size + 1, 1, none⟩ = some (.int .i64 t) ∧ W.cell? ⟨gg, t * 3, none⟩ = some (.int .i64 3) ∧ W.cell? ⟨gg, t * 3 + 1, none⟩ = some (.int .i64 mm) ∧ W.cell? ⟨gg, t * 3 + 2, none⟩ = some (.slice qt T2 cu)) (go_keep) (fail)
              rename_i hheld
              clear hheld h0 d0 d1 d2 u0 u1 u2 y1
              obtain ⟨W8, eW8⟩ : ∃ W, W = (W7.alloc (.cells #[.int .i64 3, .int .i64 mm, .slice qt T2 cu] 31)).drew := ⟨_, rfl⟩
              have hb78 : Below W7.heap.size W7 W8 := by rw [eW8]; exact (alloc_on _ _).drew
              have HG8 : Hid (Box3 W8 W7.heap.size (.int .i64 3) (.int .i64 mm) (.slice qt T2 cu)) := by show Box3 _ _ _ _ _; rw [eW8]; exact Box3.of_block (t := 31) (heap_alloc_new W7 _)
              have HF8 : Hid (Box3 W8 bf (.int .i64 3) (.int .i64 nn) (.slice qs S2 cs) ∧ CB W8 bf) := ⟨HF7.out.1.on hb78, HF7.out.2.on hb78⟩
              have HW8 : Hid (Below wk.heap.size wk W8) := Below.on HW7.out hb78
              have HX8 : Hid (Box3 W8 w.heap.size (.int .i64 4) (.int .i64 s) (.slice p2 X2 cp2) ∧ Box3 W8 (w.heap.size + 1) (.int .i64 4) (.int .i64 t) (.slice p3 Y2 cp3)) := ⟨HX7.out.1.on hb78, HX7.out.2.on hb78⟩
              have HCB8 : Hid (CB W8 w.heap.size ∧ CB W8 (w.heap.size + 1)) := ⟨HCB7.out.1.on hb78, HCB7.out.2.on hb78⟩
              rw [← eW8]
              clear eW8 hb78 HF7 HX7 HCB7 HW7
              generalize W7.heap.size = bg at HG8 ⊢
              have hVw : Below V.heap.size V W8 := by obtain ⟨_, _, _, _, _, _, _, _, hb⟩ := HSH.out.1.below HW8.out; exact hb
              obtain ⟨sx, esx⟩ : ∃ q, q = strOfNums ST := ⟨_, rfl⟩
              obtain ⟨sy, esy⟩ : ∃ q, q = strOfNums TT := ⟨_, rfl⟩
              have cx := conv_str (HQ.out.1.below hVw) S2 cs HQ.out.2.2.1 9 Try.underlying9
              have cy := conv_str (HQ.out.2.1.below hVw) T2 cu HQ.out.2.2.2 9 Try.underlying9
              rw [← esx] at cx
              rw [← esy] at cy
              have hss : (sx.toList == sy.toList) = decide (ST = TT) := by rw [esx, esy]; exact str_injL HSB.out.1 HSB.out.2
              have HNO : Hid (¬ sameF st.1 s t → UniOut V w h (uRun (n + 1) [(a, b)] st) (.returned (.int .i64 4)) W8) := fun hne => HLV.out 4 W8 (us_nf rfl rfl (by simpa using hne)) HW8.out
              obtain ⟨f0, f1, f2, f3⟩ := HF8.out.1
              obtain ⟨g0, g1, g2, g3⟩ := HG8.out
              clear hVw esx esy HLV HLF
              by_cases q1 : nn = mm
              · have e5 : ((nn : Int) != (mm : Int)) = false := by simp [q1]
                by_cases qt' : ST = TT
                · have e6 : (sx.toList == sy.toList) = true := by rw [hss]; simp [qt']
                  have hsame : sameF st.1 s t := HSF.out.2 ⟨q1, qt'⟩
                  have HOP : Hid (uRun (n + 1) [(a, b)] st = uRun n (pairsL st.1 s t nn) st) := HOPN.out _ (by have := us_op (st := st) (x := (4, (s : Int), XT)) (y := (4, (t : Int), YT)) rfl rfl (by simpa using hsame); simp only [Int.toNat_natCast, HNN.out] at this; exact this)
                  have HAT : Hid (∀ k, k < nn → s + (k + 1) < st.1.length ∧ t + (k + 1) < st.1.length) := fun k hk => ⟨(fs3 (k + 1) (by omega) (by have := HNN.out; omega)).1, (ft3 (k + 1) (by omega) (by have := HNN.out; have h2 := hsame.1; omega)).1⟩
                  have HPOK : Hid (∀ k, k ≤ nn → ∀ p ∈ pairsL st.1 s t k, WOk st.1 p.1 ∧ WOk st.1 p.2) := fun k hk p hp => by
                    simp only [pairsL, List.mem_map, List.mem_range] at hp
                    obtain ⟨i, hi, rfl⟩ := hp
                    obtain ⟨a1, a2⟩ := fs3 (i + 1) (by omega) (by have := HNN.out; omega)
                    obtain ⟨b1, b2⟩ := ft3 (i + 1) (by omega) (by have := HNN.out; have h2 := hsame.1; omega)
                    exact ⟨wok_at HFIT.out.1 HFIT.out.2.1 a1 a2, wok_at HFIT.out.1 HFIT.out.2.1 b1 b2⟩
                  have HTN : Hid (numA st.1 t = nn) := by have := HNN.out; have h2 := hsame.1; show _ = _; omega
                  clear hss q1 qt' HNO HSF HOPN hsame fs3 ft3
                  go_wp2
                  clear f0 f1 f2 f3 g0 g1 g2 g3 cx cy
                  go_loopw [9] (fun i wr => ∃ (k m : Nat) (R : USt), k ≤ nn ∧ m ≤ n ∧ i = .int .i64 ((k : Int) + 1) ∧ Hid (uRun n (pairsL st.1 s t k) st = (R, 0, m)) ∧ Hid (SHp V wr h R.1 R.2 (20000 - (m : Int)) ∧ FrM h w wr) ∧ Hid (wr.cell? ⟨w.heap.size, 1, none⟩ = some (.int .i64 s) ∧ wr.cell? ⟨w.heap.size + 1, 1, none⟩ = some (.int .i64 t) ∧ wr.cell? ⟨bf, 1, none⟩ = some (.int .i64 nn)) ∧ Hid (CB wr w.heap.size ∧ CB wr (w.heap.size + 1) ∧ CB wr bf)) (fun i _ => nn + 1 - (intOf i).toNat)
                  case atStart =>
                    refine ⟨0, n, st, Nat.zero_le _, Nat.le_refl _, rfl, ?_, ⟨?_, HSH.out.2.trans (FrM.of_below HW8.out)⟩, ⟨HX8.out.1.2.1, HX8.out.2.2.1, HF8.out.1.2.1⟩, ⟨HCB8.out.1, HCB8.out.2, HF8.out.2⟩⟩
                    · show uRun n (pairsL st.1 s t 0) st = _
                      simp [pairsL, uRun_nil]
                    · rw [← HK1.out]; exact HSH.out.1.below HW8.out
                  case round =>
                    obtain ⟨k, m, R, hk, hm, rfl, HU, HS, HC, HB⟩ := hrel
                    obtain ⟨c1, c2, c3⟩ := HC.out
                    have hkb : k ≤ 20 := by omega
                    by_cases hlt : k < nn
                    · have hle : (k : Int) + 1 ≤ (nn : Int) := by omega
                      obtain ⟨hFR, hER, _⟩ := uRun_fit n (pairsL st.1 s t k) st HFIT.out (HPOK.out k hk)
                      rw [HU.out] at hFR hER
                      simp only at hFR hER
                      obtain ⟨a1, a2, a3⟩ := arg_later HFIT.out hFR hER hs HST.out.1 HNN.out hlt
                      obtain ⟨b1, b2, b3⟩ := arg_later HFIT.out hFR hER ht HST.out.2 HTN.out hlt
                      obtain ⟨pc9, cc9, pt9, ct9, hh9, hrow9, _, _, _⟩ := id HS.out.1
                      obtain ⟨g9, q1, k1', rfl, _, hg9, d0, d1, d2, hq1⟩ := hrow9.at _ a1
                      obtain ⟨g9', q2, k2', eg9, _, _, u0, u1, u2, hq2⟩ := hrow9.at _ b1
                      simp only [Option.some.injEq, Addr.mk.injEq, and_true] at eg9
                      subst eg9
                      have h0 : wr.cell? ⟨h, 0, none⟩ = some (.slice (some ⟨g9, 0, none⟩) R.1.length cc9) := by simp [World.cell?, hh9]
                      have hbd : Below wr.heap.size wr (wr.drewN 1) := below_drewN (Below.refl _ _) 1
                      have hcall := HIH.out m hm _ _ q1 q2 k1' k2' R (wr.drewN 1) (by omega) hFR (wok_at hFR.1 hFR.2.1 a1 a2) (wok_at hFR.1 hFR.2.1 b1 b2) hq1 hq2 (HS.out.1.below hbd)
                      have hsame := uRun_same m (R.1.getD (s + (k + 1)) Cel.none, R.1.getD (t + (k + 1)) Cel.none) (st.1.getD (s + (k + 1)) Cel.none, st.1.getD (t + (k + 1)) Cel.none) [] R a3.symm b3.symm
                      have hstep : uRun n (pairsL st.1 s t (k + 1)) st = uRun m [(R.1.getD (s + (k + 1)) Cel.none, R.1.getD (t + (k + 1)) Cel.none)] R := by
                        rw [pairsL_succ, uRun_app, HU.out]
                        simp only [if_true]
                        exact hsame.symm
                      have hleft := uRun_left m [(R.1.getD (s + (k + 1)) Cel.none, R.1.getD (t + (k + 1)) Cel.none)] R
                      generalize uRun m [(R.1.getD (s + (k + 1)) Cel.none, R.1.getD (t + (k + 1)) Cel.none)] R = R9 at hcall hstep hleft
                      have HST9 : Hid (uRun n (pairsL st.1 s t (k + 1)) st = R9 ∧ R9.2.2 ≤ m) := ⟨hstep, hleft⟩
                      have HBAD : Hid (R9.2.1 ≠ 0 → uRun (n + 1) [(a, b)] st = R9) := fun hc => by
                        obtain ⟨r, hr⟩ := pairsL_split st.1 s t (k := k + 1) (n := nn) (by omega)
                        rw [HOP.out, hr, uRun_app, hstep, if_neg hc]
                      generalize hzc : R.1.getD (s + (k + 1)) Cel.none = zc at hcall d0 d1 d2
                      generalize hzd : R.1.getD (t + (k + 1)) Cel.none = zd at hcall u0 u1 u2
                      obtain ⟨lc, elc⟩ : ∃ l, l = zc.2.2.length := ⟨_, rfl⟩
                      obtain ⟨ld, eld⟩ : ∃ l, l = zd.2.2.length := ⟨_, rfl⟩
                      rw [← elc] at hcall d2
                      rw [← eld] at hcall u2
                      obtain ⟨tc, etc⟩ : ∃ x : Nat, x = s + (k + 1) := ⟨_, rfl⟩
                      obtain ⟨td, etd⟩ : ∃ x : Nat, x = t + (k + 1) := ⟨_, rfl⟩
                      rw [← etc] at d0 d1 d2 a1
                      rw [← etd] at u0 u1 u2 b1
                      have hRl : R.1.length ≤ 20000 := hFR.1.shp.len
                      have hw1 : IntKind.i64.wrap ((s : Int) + ((k : Int) + 1)) = (tc : Int) := by rw [show (s : Int) + ((k : Int) + 1) = tc by omega, IntKind.wrap_i64]; omega
                      have hw2 : IntKind.i64.wrap ((t : Int) + ((k : Int) + 1)) = (td : Int) := by rw [show (t : Int) + ((k : Int) + 1) = td by omega, IntKind.wrap_i64]; omega
                      -- behind the call
                      have HAFT : Hid (∀ w9, FrM h (wr.drewN 1) w9 → FrM h w w9 ∧ (w9.cell? ⟨w.heap.size, 1, none⟩ = some (.int .i64 s) ∧ w9.cell? ⟨w.heap.size + 1, 1, none⟩ = some (.int .i64 t) ∧ w9.cell? ⟨bf, 1, none⟩ = some (.int .i64 nn)) ∧ CB w9 w.heap.size ∧ CB w9 (w.heap.size + 1) ∧ CB w9 bf) := fun w9 hf9 => by
                        have hfr := (FrM.of_below hbd (h := h) (by have := HS.out.2.2.1; omega)).trans hf9
                        have hgg : ∀ b', w.heap.size ≤ b' → ∀ gg n c, wr.cell? ⟨h, 0, none⟩ = some (.slice (some ⟨gg, 0, none⟩) n c) → b' ≠ gg := fun b' hb' gg n c hc e => by
                          have := HGG.out gg n c (HS.out.2.1 ▸ hc)
                          omega
                        have hb1 := HB.out.1.fr hfr (hgg _ (Nat.le_refl _))
                        have hb2 := HB.out.2.1.fr hfr (hgg _ (Nat.le_succ _))
                        have hb3 := HB.out.2.2.fr hfr (hgg _ (by omega))
                        obtain ⟨i1, j1⟩ := HB.out.1
                        obtain ⟨i2, j2⟩ := HB.out.2.1
                        obtain ⟨i3, j3⟩ := HB.out.2.2
                        exact ⟨HS.out.2.trans hfr, ⟨(World.cell?_of_block (a := ⟨w.heap.size, 1, none⟩) hb1).trans c1, (World.cell?_of_block (a := ⟨w.heap.size + 1, 1, none⟩) hb2).trans c2, (World.cell?_of_block (a := ⟨bf, 1, none⟩) hb3).trans c3⟩, ⟨i1, hb1.trans j1⟩, ⟨i2, hb2.trans j2⟩, ⟨i3, hb3.trans j3⟩⟩
                      have HCALL : Hid _ := hcall
                      clear hcall hstep hsame hleft HS HU HB HC hFR hER a2 a3 b2 b3 hh9 hrow9 hq1 hq2 hbd hzc hzd elc eld etc etd hg9 HIH HGG HPOK HAT
                      go_wp2
                      refine wp_region_any (by kernel_rfl) ?_
                      refine wpAny_tail (p := 21) (S := fun W => W.cell? ⟨h, 0, none⟩ = some (.slice (some ⟨g9, 0, none⟩) R.1.length cc9) ∧ W.cell? ⟨w.heap.size, 1, none⟩ = some (.int .i64 s) ∧ W.cell? ⟨w.heap.size + 1, 1, none⟩ = some (.int .i64 t) ∧ (W.cell? ⟨g9, tc * 3, none⟩ = some (.int .i64 zc.1) ∧ W.cell? ⟨g9, tc * 3 + 1, none⟩ = some (.int .i64 zc.2.1) ∧ W.cell? ⟨g9, tc * 3 + 2, none⟩ = some (.slice q1 lc k1')) ∧ W.cell? ⟨g9, td * 3, none⟩ = some (.int .i64 zd.1) ∧ W.cell? ⟨g9, td * 3 + 1, none⟩ = some (.int .i64 zd.2.1) ∧ W.cell? ⟨g9, td * 3 + 2, none⟩ = some (.slice q2 ld k2')) (by kernel_rfl) 21 _ _ _ rfl (clo_start _ _ _) (by kernel_rfl) (by kernel_rfl) ?_
                      change wpAnyH _ _ _ _ _ _ _ _ wr.drew
                      have hS0 : wr.drew.cell? ⟨h, 0, none⟩ = some (.slice (some ⟨g9, 0, none⟩) R.1.length cc9) ∧ wr.drew.cell? ⟨w.heap.size, 1, none⟩ = some (.int .i64 s) ∧ wr.drew.cell? ⟨w.heap.size + 1, 1, none⟩ = some (.int .i64 t) ∧ (wr.drew.cell? ⟨g9, tc * 3, none⟩ = some (.int .i64 zc.1) ∧ wr.drew.cell? ⟨g9, tc * 3 + 1, none⟩ = some (.int .i64 zc.2.1) ∧ wr.drew.cell? ⟨g9, tc * 3 + 2, none⟩ = some (.slice q1 lc k1')) ∧ wr.drew.cell? ⟨g9, td * 3, none⟩ = some (.int .i64 zd.1) ∧ wr.drew.cell? ⟨g9, td * 3 + 1, none⟩ = some (.int .i64 zd.2.1) ∧ wr.drew.cell? ⟨g9, td * 3 + 2, none⟩ = some (.slice q2 ld k2') := ⟨h0, c1, c2, ⟨d0, d1, d2⟩, u0, u1, u2⟩
                      refine hTake (i := 0) (v := .pointer (some ⟨h, 0, none⟩)) (some 113) (by kernel_rfl) (by kernel_rfl) (by kernel_rfl) (by kernel_rfl) (by kernel_rfl) (fun _ _ _ h => h) (fun o ho W hSw => ?y0) hS0 ?_
                      case y0 =>
                        cases ho
                        obtain ⟨t0, t1, t2, ⟨t3, t4, t5⟩, t6, t7, t8⟩ := hSw
                        simp [execOp, go_sem, Act.eval]
                      simp only [Act.put, List.setIfInBounds_toArray, List.set_cons_zero, List.set_cons_succ]
                      refine hTake (i := 1) (v := .pointer (some ⟨h, 0, none⟩)) (some 114) (by kernel_rfl) (by kernel_rfl) (by kernel_rfl) (by kernel_rfl) (by kernel_rfl) (fun _ _ _ h => h) (fun o ho W hSw => ?y1) hS0 ?_
                      case y1 =>
                        cases ho
                        obtain ⟨t0, t1, t2, ⟨t3, t4, t5⟩, t6, t7, t8⟩ := hSw
                        simp [execOp, go_sem, Act.eval]
                      simp only [Act.put, List.setIfInBounds_toArray, List.set_cons_zero, List.set_cons_succ]
                      refine hTake (i := 2) (v := .pointer (some ⟨h, 0, none⟩)) (some 115) (by kernel_rfl) (by kernel_rfl) (by kernel_rfl) (by kernel_rfl) (by kernel_rfl) (fun _ _ _ h => h) (fun o ho W hSw => ?y2) hS0 ?_
                      case y2 =>
                        cases ho
                        obtain ⟨t0, t1, t2, ⟨t3, t4, t5⟩, t6, t7, t8⟩ := hSw
                        simp [execOp, go_sem, Act.eval]
                      simp only [Act.put, List.setIfInBounds_toArray, List.set_cons_zero, List.set_cons_succ]
                      refine hTake (i := 3) (v := .pointer (some ⟨h, 0, none⟩)) (some 116) (by kernel_rfl) (by kernel_rfl) (by kernel_rfl) (by kernel_rfl) (by kernel_rfl) (fun _ _ _ h => h) (fun o ho W hSw => ?y3) hS0 ?_
                      case y3 =>
                        cases ho
                        obtain ⟨t0, t1, t2, ⟨t3, t4, t5⟩, t6, t7, t8⟩ := hSw
                        simp [execOp, go_sem, Act.eval]
                      simp only [Act.put, List.setIfInBounds_toArray, List.set_cons_zero, List.set_cons_succ]
                      refine hTake (i := 4) (v := .slice (some ⟨g9, 0, none⟩) R.1.length cc9) (some 117) (by kernel_rfl) (by kernel_rfl) (by kernel_rfl) (by kernel_rfl) (by kernel_rfl) (fun _ _ _ h => h) (fun o ho W hSw => ?y4) hS0 ?_
                      case y4 =>
                        cases ho
                        obtain ⟨t0, t1, t2, ⟨t3, t4, t5⟩, t6, t7, t8⟩ := hSw
                        simp [execOp, go_sem, Act.eval, t0]
                      simp only [Act.put, List.setIfInBounds_toArray, List.set_cons_zero, List.set_cons_succ]
                      refine hTake (i := 5) (v := .pointer (some ⟨w.heap.size, 1, none⟩)) (some 118) (by kernel_rfl) (by kernel_rfl) (by kernel_rfl) (by kernel_rfl) (by kernel_rfl) (fun _ _ _ h => h) (fun o ho W hSw => ?y5) hS0 ?_
                      case y5 =>
                        cases ho
                        obtain ⟨t0, t1, t2, ⟨t3, t4, t5⟩, t6, t7, t8⟩ := hSw
                        simp [execOp, go_sem, Act.eval]
                      simp only [Act.put, List.setIfInBounds_toArray, List.set_cons_zero, List.set_cons_succ]
                      refine hTake (i := 6) (v := .int .i64 s) (some 119) (by kernel_rfl) (by kernel_rfl) (by kernel_rfl) (by kernel_rfl) (by kernel_rfl) (fun _ _ _ h => h) (fun o ho W hSw => ?y6) hS0 ?_
                      case y6 =>
                        cases ho
                        obtain ⟨t0, t1, t2, ⟨t3, t4, t5⟩, t6, t7, t8⟩ := hSw
                        simp [execOp, go_sem, Act.eval, t1]
                      simp only [Act.put, List.setIfInBounds_toArray, List.set_cons_zero, List.set_cons_succ]
                      refine hTake (i := 7) (v := .int .i64 ((k : Int) + 1)) (some 120) (by kernel_rfl) (by kernel_rfl) (by kernel_rfl) (by kernel_rfl) (by kernel_rfl) (fun _ _ _ h => h) (fun o ho W hSw => ?y7) hS0 ?_
                      case y7 =>
                        cases ho
                        obtain ⟨t0, t1, t2, ⟨t3, t4, t5⟩, t6, t7, t8⟩ := hSw
                        simp [execOp, go_sem, Act.eval]
                      simp only [Act.put, List.setIfInBounds_toArray, List.set_cons_zero, List.set_cons_succ]
                      refine hTake (i := 8) (v := .int .i64 tc) (some 121) (by kernel_rfl) (by kernel_rfl) (by kernel_rfl) (by kernel_rfl) (by kernel_rfl) (fun _ _ _ h => h) (fun o ho W hSw => ?y8) hS0 ?_
                      case y8 =>
                        cases ho
                        obtain ⟨t0, t1, t2, ⟨t3, t4, t5⟩, t6, t7, t8⟩ := hSw
                        simp [execOp, go_sem, Act.eval, hw1]
                      simp only [Act.put, List.setIfInBounds_toArray, List.set_cons_zero, List.set_cons_succ]
                      refine hTake (i := 9) (v := .pointer (some ⟨g9, tc * 3, none⟩)) (some 122) (by kernel_rfl) (by kernel_rfl) (by kernel_rfl) (by kernel_rfl) (by kernel_rfl) (fun _ _ _ h => h) (fun o ho W hSw => ?y9) hS0 ?_
                      case y9 =>
                        cases ho
                        obtain ⟨t0, t1, t2, ⟨t3, t4, t5⟩, t6, t7, t8⟩ := hSw
                        simp [execOp, go_sem, Act.eval, a1]
                      simp only [Act.put, List.setIfInBounds_toArray, List.set_cons_zero, List.set_cons_succ]
                      refine hTake (i := 10) (v := .agg #[.int .i64 zc.1, .int .i64 zc.2.1, .slice q1 lc k1']) (some 123) (by kernel_rfl) (by kernel_rfl) (by kernel_rfl) (by kernel_rfl) (by kernel_rfl) (fun _ _ _ h => h) (fun o ho W hSw => ?y10) hS0 ?_
                      case y10 =>
                        cases ho
                        obtain ⟨t0, t1, t2, ⟨t3, t4, t5⟩, t6, t7, t8⟩ := hSw
                        simp [execOp, go_sem, Act.eval, t3, t4, t5]
                      simp only [Act.put, List.setIfInBounds_toArray, List.set_cons_zero, List.set_cons_succ]
                      refine hTake (i := 11) (v := .pointer (some ⟨h, 0, none⟩)) (some 124) (by kernel_rfl) (by kernel_rfl) (by kernel_rfl) (by kernel_rfl) (by kernel_rfl) (fun _ _ _ h => h) (fun o ho W hSw => ?y11) hS0 ?_
                      case y11 =>
                        cases ho
                        obtain ⟨t0, t1, t2, ⟨t3, t4, t5⟩, t6, t7, t8⟩ := hSw
                        simp [execOp, go_sem, Act.eval]
                      simp only [Act.put, List.setIfInBounds_toArray, List.set_cons_zero, List.set_cons_succ]
                      refine hTake (i := 12) (v := .pointer (some ⟨h, 0, none⟩)) (some 125) (by kernel_rfl) (by kernel_rfl) (by kernel_rfl) (by kernel_rfl) (by kernel_rfl) (fun _ _ _ h => h) (fun o ho W hSw => ?y12) hS0 ?_
                      case y12 =>
                        cases ho
                        obtain ⟨t0, t1, t2, ⟨t3, t4, t5⟩, t6, t7, t8⟩ := hSw
                        simp [execOp, go_sem, Act.eval]
                      simp only [Act.put, List.setIfInBounds_toArray, List.set_cons_zero, List.set_cons_succ]
                      refine hTake (i := 13) (v := .pointer (some ⟨h, 0, none⟩)) (some 126) (by kernel_rfl) (by kernel_rfl) (by kernel_rfl) (by kernel_rfl) (by kernel_rfl) (fun _ _ _ h => h) (fun o ho W hSw => ?y13) hS0 ?_
                      case y13 =>
                        cases ho
                        obtain ⟨t0, t1, t2, ⟨t3, t4, t5⟩, t6, t7, t8⟩ := hSw
                        simp [execOp, go_sem, Act.eval]
                      simp only [Act.put, List.setIfInBounds_toArray, List.set_cons_zero, List.set_cons_succ]
                      refine hTake (i := 14) (v := .slice (some ⟨g9, 0, none⟩) R.1.length cc9) (some 127) (by kernel_rfl) (by kernel_rfl) (by kernel_rfl) (by kernel_rfl) (by kernel_rfl) (fun _ _ _ h => h) (fun o ho W hSw => ?y14) hS0 ?_
                      case y14 =>
                        cases ho
                        obtain ⟨t0, t1, t2, ⟨t3, t4, t5⟩, t6, t7, t8⟩ := hSw
                        simp [execOp, go_sem, Act.eval, t0]
                      simp only [Act.put, List.setIfInBounds_toArray, List.set_cons_zero, List.set_cons_succ]
                      refine hTake (i := 15) (v := .pointer (some ⟨w.heap.size + 1, 1, none⟩)) (some 128) (by kernel_rfl) (by kernel_rfl) (by kernel_rfl) (by kernel_rfl) (by kernel_rfl) (fun _ _ _ h => h) (fun o ho W hSw => ?y15) hS0 ?_
                      case y15 =>
                        cases ho
                        obtain ⟨t0, t1, t2, ⟨t3, t4, t5⟩, t6, t7, t8⟩ := hSw
                        simp [execOp, go_sem, Act.eval]
                      simp only [Act.put, List.setIfInBounds_toArray, List.set_cons_zero, List.set_cons_succ]
                      refine hTake (i := 16) (v := .int .i64 t) (some 129) (by kernel_rfl) (by kernel_rfl) (by kernel_rfl) (by kernel_rfl) (by kernel_rfl) (fun _ _ _ h => h) (fun o ho W hSw => ?y16) hS0 ?_
                      case y16 =>
                        cases ho
                        obtain ⟨t0, t1, t2, ⟨t3, t4, t5⟩, t6, t7, t8⟩ := hSw
                        simp [execOp, go_sem, Act.eval, t2]
                      simp only [Act.put, List.setIfInBounds_toArray, List.set_cons_zero, List.set_cons_succ]
                      refine hTake (i := 17) (v := .int .i64 ((k : Int) + 1)) (some 130) (by kernel_rfl) (by kernel_rfl) (by kernel_rfl) (by kernel_rfl) (by kernel_rfl) (fun _ _ _ h => h) (fun o ho W hSw => ?y17) hS0 ?_
                      case y17 =>
                        cases ho
                        obtain ⟨t0, t1, t2, ⟨t3, t4, t5⟩, t6, t7, t8⟩ := hSw
                        simp [execOp, go_sem, Act.eval]
                      simp only [Act.put, List.setIfInBounds_toArray, List.set_cons_zero, List.set_cons_succ]
                      refine hTake (i := 18) (v := .int .i64 td) (some 131) (by kernel_rfl) (by kernel_rfl) (by kernel_rfl) (by kernel_rfl) (by kernel_rfl) (fun _ _ _ h => h) (fun o ho W hSw => ?y18) hS0 ?_
                      case y18 =>
                        cases ho
                        obtain ⟨t0, t1, t2, ⟨t3, t4, t5⟩, t6, t7, t8⟩ := hSw
                        simp [execOp, go_sem, Act.eval, hw2]
                      simp only [Act.put, List.setIfInBounds_toArray, List.set_cons_zero, List.set_cons_succ]
                      refine hTake (i := 19) (v := .pointer (some ⟨g9, td * 3, none⟩)) (some 132) (by kernel_rfl) (by kernel_rfl) (by kernel_rfl) (by kernel_rfl) (by kernel_rfl) (fun _ _ _ h => h) (fun o ho W hSw => ?y19) hS0 ?_
                      case y19 =>
                        cases ho
                        obtain ⟨t0, t1, t2, ⟨t3, t4, t5⟩, t6, t7, t8⟩ := hSw
                        simp [execOp, go_sem, Act.eval, b1]
                      simp only [Act.put, List.setIfInBounds_toArray, List.set_cons_zero, List.set_cons_succ]
                      refine hTake (i := 20) (v := .agg #[.int .i64 zd.1, .int .i64 zd.2.1, .slice q2 ld k2']) (some 133) (by kernel_rfl) (by kernel_rfl) (by kernel_rfl) (by kernel_rfl) (by kernel_rfl) (fun _ _ _ h => h) (fun o ho W hSw => ?y20) hS0 ?_
                      case y20 =>
                        cases ho
                        obtain ⟨t0, t1, t2, ⟨t3, t4, t5⟩, t6, t7, t8⟩ := hSw
                        simp [execOp, go_sem, Act.eval, t6, t7, t8]
                      simp only [Act.put, List.setIfInBounds_toArray, List.set_cons_zero, List.set_cons_succ]
                      refine wpAnyH_done (by kernel_rfl) ?_ _
                      clear hS0 h0 d0 d1 d2 u0 u1 u2 c1 c2 c3
                      refine tail_call (by rfl) (by rfl) (f := 66) (args := #[.pointer (some ⟨h, 0, none⟩), .agg #[.int .i64 zc.1, .int .i64 zc.2.1, .slice q1 lc k1'], .agg #[.int .i64 zd.1, .int .i64 zd.2.1, .slice q2 ld k2']]) ?_ HCALL.out ?_ (fun ch w' hh => by cases hh.1) (fun w' hh => by cases hh.1)
                      · simp [execOp, go_sem, Act.eval]
                      intro u w9 hout
                      obtain ⟨hu, hs9, hf9⟩ := hout
                      injection hu with hu
                      subst hu
                      have HS9 : Hid (SHp V w9 h R9.1.1 R9.1.2 (20000 - (R9.2.2 : Int))) := hs9
                      have HF9 : Hid (FrM h w w9 ∧ (w9.cell? ⟨w.heap.size, 1, none⟩ = some (.int .i64 s) ∧ w9.cell? ⟨w.heap.size + 1, 1, none⟩ = some (.int .i64 t) ∧ w9.cell? ⟨bf, 1, none⟩ = some (.int .i64 nn)) ∧ CB w9 w.heap.size ∧ CB w9 (w.heap.size + 1) ∧ CB w9 bf) := HAFT.out w9 hf9
                      clear hs9 hf9 HCALL HAFT
                      obtain ⟨R9s, code, m9⟩ := R9
                      refine op_valT (by rfl) (by rfl) (v := .int .i64 code) (w' := w9) ?_ ?_
                      · simp [execOp, go_sem, Act.eval, Act.put]
                      simp only [Act.put, List.setIfInBounds_toArray]
                      by_cases hc : code = 0
                      · subst hc
                        go_wp2
                        go_roundw
                        case rel => exact ⟨k + 1, m9, R9s, by omega, by have hm9 : m9 ≤ m := HST9.out.2; omega, by first | rfl | (simp; done) | (push_cast; rfl), HST9.out.1, ⟨HS9.out, HF9.out.1⟩, HF9.out.2.1, HF9.out.2.2⟩
                        case measure => simp [intOf]; omega
                      · have hcn : (code != 0) = true := by simp [hc]
                        have HR : Hid (UniOut V w h (uRun (n + 1) [(a, b)] st) (.returned (.int .i64 code)) w9) := by rw [HBAD.out hc]; exact ⟨rfl, HS9.out, HF9.out.1⟩
                        clear hc HBAD HST9
                        go_wp2
                        go_ret
                        exact HR.out
                    · obtain rfl : k = nn := by omega
                      have hle : ¬ (k : Int) + 1 ≤ (k : Int) := by omega
                      have HR : Hid (UniOut V w h (uRun (n + 1) [(a, b)] st) (.returned (.int .i64 0)) wr) := by rw [HOP.out, HU.out]; exact ⟨rfl, HS.out⟩
                      clear HU HS HB hlt
                      go_wp2
                      go_ret
                      exact HR.out
                · have e6 : (sx.toList == sy.toList) = false := by rw [hss]; simp [qt']
                  have HR : Hid (UniOut V w h (uRun (n + 1) [(a, b)] st) (.returned (.int .i64 4)) W8) := HNO.out (fun he => qt' (HSF.out.1 he).2)
                  clear hss q1 qt' HNO HSF HOPN HIH
                  go_wp2
                  go_ret
                  exact HR.out
              · have e5 : ((nn : Int) != (mm : Int)) = true := by simp; exact fun he => q1 (by exact_mod_cast he)
                have HR : Hid (UniOut V w h (uRun (n + 1) [(a, b)] st) (.returned (.int .i64 4)) W8) := HNO.out (fun he => q1 (HSF.out.1 he).1)
                clear hss q1 HNO HSF HOPN HIH
                go_wp2
                go_ret
                exact HR.out
            · have e4 : (X0 != 4) = true := by simp [q4]
              obtain ⟨sx, esx⟩ : ∃ q, q = strOfNums XT := ⟨_, rfl⟩
              obtain ⟨sy, esy⟩ : ∃ q, q = strOfNums YT := ⟨_, rfl⟩
              have hVw : Below V.heap.size V W6 := by obtain ⟨_, _, _, _, _, _, _, _, hb⟩ := HSH.out.1.below HW6.out; exact hb
              have cx := conv_str (HPX.out.below hVw) X2 cp2 HL2.out.1 9 Try.underlying9
              have cy := conv_str (HPY.out.below hVw) Y2 cp3 HL2.out.2 9 Try.underlying9
              rw [← esx] at cx
              rw [← esy] at cy
              have hss : (sx.toList == sy.toList) = decide (XT = YT) := by rw [esx, esy]; exact str_injL HXO.out.1.2.2 HYO.out.1.2.2
              have HNO : Hid (¬ ((X0, X1, XT) = ((Y0, Y1, YT) : Cel)) → UniOut V w h (uRun (n + 1) [(a, b)] st) (.returned (.int .i64 4)) W6) := fun hne => HLV.out 4 W6 (us_no q0 qy (fun hh => q4 hh.1) hne) HW6.out
              have HYES : Hid (((X0, X1, XT) = ((Y0, Y1, YT) : Cel)) → UniOut V w h (uRun (n + 1) [(a, b)] st) (.returned (.int .i64 0)) W6) := fun he => HLV.out 0 W6 (us_eq q0 qy (fun hh => q4 hh.1) he) HW6.out
              clear HLV HLF HOPN HIH esx esy q0 qy q4
              by_cases q1 : X1 = Y1
              · have e5 : (X1 != Y1) = false := by simp [q1]
                by_cases qt : XT = YT
                · have e6 : (sx.toList == sy.toList) = true := by rw [hss]; simp [qt]
                  have HR : Hid (UniOut V w h (uRun (n + 1) [(a, b)] st) (.returned (.int .i64 0)) W6) := HYES.out (by rw [qk, q1, qt])
                  clear hss qk q1 qt HNO HYES
                  go_wp2
                  go_ret
                  exact HR.out
                · have e6 : (sx.toList == sy.toList) = false := by rw [hss]; simp [qt]
                  have HR : Hid (UniOut V w h (uRun (n + 1) [(a, b)] st) (.returned (.int .i64 4)) W6) := HNO.out (fun he => qt (congrArg (fun c : Cel => c.2.2) he))
                  clear hss qk q1 qt HNO HYES
                  go_wp2
                  go_ret
                  exact HR.out
              · have e5 : (X1 != Y1) = true := by simp [q1]
                have HR : Hid (UniOut V w h (uRun (n + 1) [(a, b)] st) (.returned (.int .i64 4)) W6) := HNO.out (fun he => q1 (congrArg (fun c : Cel => c.2.1) he))
                clear hss qk q1 HNO HYES
                go_wp2
                go_ret
                exact HR.out
          · have ek : (X0 != Y0) = true := by simp [qk]
            have HR : Hid (UniOut V w h (uRun (n + 1) [(a, b)] st) (.returned (.int .i64 4)) W6) := HLV.out 4 W6 (us_no q0 qy (fun hh => qk (by show X0 = Y0; have h1 := hh.1; have h2 := hh.2; simp only at h1 h2; omega)) (fun he => qk (congrArg (fun c : Cel => c.1) he))) HW6.out
            clear q0 qy qk HLV HLF HOPN HIH
            go_wp2
            go_ret
            exact HR.out

end Go.Proofs.Ytfnmoaiejpkocaa

