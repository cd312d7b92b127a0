/- Texts of PtC, BdP, BdI. Own work of the verifier. -/
import Derived.Test.YtedkkghekboahaaUqay
import Derived.Test.YtedkkghekboahaaUqaz
import Derived.Test.YtedkkghekboahaaUqag
import Derived.Test.YtedkkghekboahaaUqao
import Derived.Test.YtedkkghekboahaaUqai
import Derived.Test.YtedkkghekboahaaUqar
import Derived.Test.YtedkkghekboahaaUqam
import Derived.Test.YtedkkghekboahaaUqav
namespace Go.Proofs.Ytedkkghekboahaa
open Go Go.RowKit Go.Maps
set_option linter.unusedVariables false

/-- A variable that is an address is that of a word. -/
def canV (xs : List Cel) (v : Int) : Bool := !(decide (v < (xs.length : Int)) && !isWB xs v)
/-- The variables of a term that are addresses are those of words. -/
def canB (xs : List Cel) (cs : List Cel) : Bool := (visits [] cs).all (canV xs)
theorem all_cut {α : Type} (f : α → Bool) (l : List α) (d : α) (j : Nat) (h : j < l.length) (hf : f (l.getD j d) = false) : l.all f = false := by
  rw [List.all_eq_false]
  refine ⟨l.getD j d, ?_, by rw [hf]; decide⟩
  simp [List.getD, h]
theorem all_full {α : Type} (f : α → Bool) (l : List α) (d : α) (h : ∀ j, j < l.length → f (l.getD j d) = true) : l.all f = true := by
  rw [List.all_eq_true]
  intro x hx
  obtain ⟨j, hj, rfl⟩ := List.getElem_of_mem hx
  have := h j hj
  simpa [List.getD, hj] using this

set_option maxHeartbeats 1000000 in
set_option maxRecDepth 100000 in
theorem canHold_any (h : Nat) (xs : List Cel) (tr : List Int) (c : Cel) (k : Fo) (v : Value) (Bt : Nat) (w : World) (hl : xs.length ≤ 20000) (hk : Knds xs) (hok : (Fo.node c k .nil).ok) (hfo : FoIn w Bt (.node c k .nil) [v]) (hkl : k.cells.length ≤ 10000) (H : HeapAt w h xs tr) :
    Calls Try.prog 73 #[.pointer (some ⟨h, 0, none⟩), v] w fun e w' => e = .returned (.bool (canB xs (c :: k.cells))) ∧ Below w.heap.size w w' := by
  have HV := variablesOf_any c k v Bt w hok hfo hkl
  have hn := visits_len (c :: k.cells) []
  unfold canB
  obtain ⟨vt, vx, rfl⟩ := hfo.iface
  have hlen : (visits [] (c :: k.cells)).length ≤ 20000 := by simp at hn; omega
  have HH : Hid (∀ W, Below w.heap.size w W → HeapAt W h xs tr) := fun W hW => H.below hW
  have HHW : Hid (∀ W a, Below w.heap.size w W → Calls Try.prog 99 #[.pointer (some ⟨h, 0, none⟩), .int .i64 a] W fun e w' => e = .returned (.bool (isWB xs a)) ∧ Below W.heap.size W w') := fun W a hW => holdsWord_any h a xs tr W hl hk (H.below hW)
  generalize visits [] (c :: k.cells) = ks at HV hlen ⊢
  clear hfo hok hk H hn
  go_enter Try.func73, Try.ntmps73
  go_wp2_with fail
  refine HV.mono ?_
  rintro e w1 ⟨p, n, cp, rfl, ho, hb⟩
  have HB1 : Hid (Below w.heap.size w w1) := hb
  have HO1 : Hid (OwnI w1 w.heap.size 120 p n cp ks) := ho
  have HN : Hid (n = ks.length) := ho.1
  have hn20 : n ≤ 20000 := by rw [ho.1]; exact hlen
  clear hb ho HV hlen
  go_wp2_with fail
  go_loopw [10] (fun i wr => ∃ j : Nat, j ≤ n ∧ i = .int .i64 j ∧ Hid (∀ i, i < j → canV xs (ks.getD i 0) = true) ∧ Hid (Below w1.heap.size w1 wr)) (fun i _ => n - (intOf i).toNat)
  case atStart => exact ⟨0, Nat.zero_le _, rfl, fun i hi => absurd hi (Nat.not_lt_zero _), Below.refl _ _⟩
  case round =>
    obtain ⟨j, hj, rfl, HA, HB⟩ := hrel
    by_cases hlt : j < n
    · obtain ⟨g, o, rfl, hcs⟩ := (HO1.out.iin.below HB.out) (by have := HN.out; omega)
      have hc := hcs j (by have := HN.out; omega)
      have ho0 : o = 0 := by
        obtain ⟨g', cap, hv, _⟩ := HO1.out.2.form (by omega)
        simp only [Value.slice.injEq, Option.some.injEq, Addr.mk.injEq] at hv
        exact hv.1.2.1
      subst ho0
      rw [Nat.zero_add] at hc
      have HBW : Hid (Below w.heap.size w wr) := Below.on HB1.out HB.out
      obtain ⟨pw, cw, pt, ct, h0, _, _, _⟩ := HH.out wr HBW.out
      have HCALL : Hid _ := HHW.out wr (ks.getD j 0) HBW.out
      have HCV : Hid (canV xs (ks.getD j 0) = !(decide (ks.getD j 0 < (xs.length : Int)) && !isWB xs (ks.getD j 0))) := rfl
      have HJ : Hid (canV xs (ks.getD j 0) = false → ks.all (canV xs) = false) := fun hh => all_cut _ _ 0 j (by have := HN.out; omega) hh
      have HNX : Hid (canV xs (ks.getD j 0) = true → ∀ i, i < j + 1 → canV xs (ks.getD i 0) = true) := fun hh i hi => by
        rcases Nat.lt_succ_iff_lt_or_eq.1 hi with h1 | h1
        · exact HA.out i h1
        · rw [h1]; exact hh
      generalize ks.getD j 0 = x at hc HCALL HCV HJ HNX
      generalize isWB xs x = bw at HCALL HCV
      generalize canV xs x = cv at HCV HJ HNX
      clear hcs HA
      by_cases hx : x < (xs.length : Int)
      · have hd : decide (x < (xs.length : Int)) = true := decide_eq_true hx
        go_wp2_with fail
        refine Calls.mono HCALL.out ?_
        rintro e w3 ⟨rfl, hb3⟩
        have HB3 : Hid (Below w1.heap.size w1 w3) := Below.on HB.out hb3
        clear hb3 HCALL
        cases bw with
        | true =>
          have HR : Hid _ := HNX.out (by rw [HCV.out]; simp)
          clear HCV HJ HNX
          go_wp2_with fail
          go_roundw
          case rel => exact ⟨j + 1, by omega, by go_num, HR, HB3⟩
          case measure => simp [intOf]; omega
        | false =>
          have HR : Hid (ks.all (canV xs) = false) := HJ.out (by rw [HCV.out, hd]; rfl)
          have HF : Hid (Below w.heap.size w w3) := Below.on HB1.out HB3.out
          clear HCV HJ HNX
          go_wp2_with fail
          first | exact ⟨by rw [HR.out]; rfl, HF.out⟩ | (go_ret; exact ⟨by rw [HR.out]; rfl, HF.out⟩)
      · have hd : decide (x < (xs.length : Int)) = false := decide_eq_false hx
        have HR : Hid _ := HNX.out (by rw [HCV.out, hd]; simp)
        clear HCV HJ HNX HCALL
        go_wp2_with fail
        go_roundw
        case rel => exact ⟨j + 1, by omega, by go_num, HR, HB⟩
        case measure => simp [intOf]; omega
    · obtain rfl : j = n := by omega
      have HR : Hid (ks.all (canV xs) = true) := all_full _ _ 0 (fun i hi => HA.out i (by have := HN.out; omega))
      have HF : Hid (Below w.heap.size w wr) := Below.on HB1.out HB.out
      clear HA
      go_wp2_with fail
      first | exact ⟨by rw [HR.out]; rfl, HF.out⟩ | (go_ret; exact ⟨by rw [HR.out]; rfl, HF.out⟩)

set_option maxHeartbeats 1000000 in
set_option maxRecDepth 100000 in
theorem filler_any (h : Nat) (old : Int) (w : World) :
    Calls Try.prog 74 #[.pointer (some ⟨h, 0, none⟩), .int .i64 old] w fun e w' => ∃ mf, e = .returned (.agg #[.pointer (some ⟨h, 0, none⟩), .int .i64 old, .map (some mf)]) ∧ VMap w' mf 0 [] ∧ w.heap.size ≤ mf ∧ Below w.heap.size w w' := by
  have hmm := @run_makeMap Try.prog
  have hm := VMap.made (w.alloc (.cells #[.pointer (some ⟨h, 0, none⟩), .int .i64 old, .map (some (w.heap.size + 1))] 113))
  have hs1 : (w.alloc (.cells #[.pointer (some ⟨h, 0, none⟩), .int .i64 old, .map (some (w.heap.size + 1))] 113)).heap.size = w.heap.size + 1 := by simp
  rw [hs1] at hm
  have HM : Hid _ := hm
  have HBB : Hid (Below w.heap.size w ((w.alloc (.cells #[.pointer (some ⟨h, 0, none⟩), .int .i64 old, .map (some (w.heap.size + 1))] 113)).alloc (.map #[] 0))) := ((Below.refl _ _).alloc (Nat.le_refl _) _).alloc (by simp) _
  clear hm hs1
  go_enter Try.func74, Try.ntmps74
  go_wp2
  exact bodyPost_ret (v := .agg #[.pointer (some ⟨h, 0, none⟩), .int .i64 old, .map (some (w.heap.size + 1))]) (by simp [results, Try.results74, go_sem]) rfl ⟨_, rfl, HM.out, by omega, HBB.out⟩

end Go.Proofs.Ytedkkghekboahaa

namespace Go.Proofs.Ytedkkghekboahaa
open Go Go.RowKit
set_option linter.unusedVariables false

/-- y lies right behind the word c. -/
def Beh (xs : List Cel) (c : Cel) (y : Nat) : Prop := fW c.1 c.2.1 ≤ y ∧ (y : Int) < eW xs c.1 c.2.1
/-- The address a lies on a way from the word c. -/
inductive Rch (xs : List Cel) (a : Nat) : Cel → Prop
  | here {c : Cel} (h : Beh xs c a) : Rch xs a c
  | on {c : Cel} {y : Nat} (h : Beh xs c y) (h2 : Rch xs a (xs.getD y Cel.none)) : Rch xs a c

theorem beh_ref {xs : List Cel} {c : Cel} (h0 : c.1 = 0) {y : Nat} : Beh xs c y ↔ (y : Int) = c.2.1 := by
  unfold Beh fW eW
  rw [if_pos h0, if_pos h0]
  omega
theorem beh_str {xs : List Cel} {c : Cel} (h4 : c.1 = 4) {y : Nat} : Beh xs c y ↔ (c.2.1 + 1 ≤ y ∧ (y : Int) < c.2.1 + 1 + numA xs c.2.1.toNat) := by
  unfold Beh fW eW
  have h0 : ¬ c.1 = 0 := by omega
  rw [if_neg h0, if_neg h0, if_pos h4, if_pos h4]
theorem beh_no {xs : List Cel} {c : Cel} (h0 : c.1 ≠ 0) (h4 : c.1 ≠ 4) {y : Nat} : ¬ Beh xs c y := by
  unfold Beh fW eW
  rw [if_neg h0, if_neg h0, if_neg h4, if_neg h4]
  omega
theorem beh_word {xs : List Cel} (g : Shp xs) {c : Cel} (hc : WdC xs c) {y : Nat} (h : Beh xs c y) : y < xs.length ∧ kndA xs y ≠ 3 := by
  by_cases h0 : c.1 = 0
  · obtain ⟨r0, r1, r2⟩ := hc.2.1 h0
    rw [beh_ref h0] at h
    rw [show y = c.2.1.toNat by omega]
    exact ⟨by omega, r2⟩
  · by_cases h4 : c.1 = 4
    · obtain ⟨r0, r1, r2⟩ := hc.2.2 h4
      rw [beh_str h4] at h
      obtain ⟨_, _, f3⟩ := g.funs c.2.1.toNat (by omega) r2
      have := f3 (y - c.2.1.toNat) (by omega) (by omega)
      rw [show c.2.1.toNat + (y - c.2.1.toNat) = y by omega] at this
      exact this
    · exact absurd h (beh_no h0 h4)

/-- Where all that was gone through leads to what was gone through, and never to a, a is on no way. -/
theorem rch_no {xs : List Cel} {a : Nat} {V : Nat → Prop} (hV : ∀ x, V x → ∀ y, Beh xs (xs.getD x Cel.none) y → y ≠ a ∧ (V y ∨ ∀ z, ¬ Beh xs (xs.getD y Cel.none) z)) {c : Cel}
    (hc : ∀ y, Beh xs c y → y ≠ a ∧ (V y ∨ ∀ z, ¬ Beh xs (xs.getD y Cel.none) z)) : ¬ Rch xs a c := by
  intro h
  induction h with
  | here h => exact (hc _ h).1 rfl
  | on h h2 ih =>
    rcases (hc _ h).2 with hv | hl
    · exact ih (hV _ hv)
    · cases h2 with
      | here h3 => exact hl _ h3
      | on h3 _ => exact hl _ h3

theorem rch_drf {xs : List Cel} {a : Nat} (g : Good xs) : ∀ (n : Nat) (c : Cel), rkW xs c ≤ n → WdC xs c → Rch xs a (drf xs c) → Rch xs a c := by
  intro n
  induction n with
  | zero =>
    intro c hr hc h
    have h0 : ¬ c.1 = 0 := fun h0 => by unfold rkW at hr; rw [if_pos h0] at hr; omega
    have hn : onB xs c = false := by simp [onB, h0]
    rw [drf_stop hn] at h
    exact h
  | succ n ih =>
    intro c hr hc h
    cases ho : onB xs c
    · rw [drf_stop ho] at h; exact h
    · obtain ⟨n1, n2⟩ := rk_next g hc ho
      obtain ⟨h0, hv⟩ := on_ref ho
      obtain ⟨r0, r1, r2⟩ := hc.2.1 h0
      rw [drf_step g hc ho] at h
      exact .on ((beh_ref h0).2 (by omega)) (ih _ (by omega) n2 h)
/-- A variable lies on a way from every reference that ends at it. -/
theorem rch_var {xs : List Cel} {a : Nat} (g : Good xs) {c : Cel} (hc : WdC xs c) (h0 : (drf xs c).1 = 0) (hn : (drf xs c).2.1 = a) : Rch xs a c :=
  rch_drf g _ c (Nat.le_refl _) hc (.here ((beh_ref h0).2 hn.symm))
theorem rch_arg {xs : List Cel} {a : Nat} (g : Good xs) {c : Cel} (hc : WdC xs c) (h4 : (drf xs c).1 = 4) {i : Nat} (h1 : 1 ≤ i) (h2 : (i : Int) ≤ numA xs (drf xs c).2.1.toNat) (h : Rch xs a (xs.getD ((drf xs c).2.1.toNat + i) Cel.none)) : Rch xs a c := by
  have hw := (drf_word g hc).1.2.2 h4
  exact rch_drf g _ c (Nat.le_refl _) hc (.on ((beh_str h4).2 (by omega)) h)

/-- A word with which the model's search is done. -/
def DoneW (xs : List Cel) (a : Nat) (S : Nat → Prop) (x : Cel) : Prop := ¬ ((drf xs x).1 = 0 ∧ (drf xs x).2.1 = a) ∧ ((drf xs x).1 = 4 → S (drf xs x).2.1.toNat)
theorem varB_at {xs : List Cel} {n : Int} (h : varB xs n = true) : 0 ≤ n ∧ n < xs.length ∧ kndA xs n.toNat = 0 ∧ numA xs n.toNat = n := by
  unfold varB at h
  simp only [decide_eq_true_eq] at h
  obtain ⟨h1, h2, h3⟩ := h
  exact ⟨h1, h2, h3⟩
theorem done_no {xs : List Cel} {a : Nat} (g : Good xs) (ha : varB xs a = true) {S : Nat → Prop} (hS : ∀ s, S s → ∀ i : Nat, 1 ≤ i → (i : Int) ≤ numA xs s → DoneW xs a S (xs.getD (s + i) Cel.none)) {c : Cel} (hc : WdC xs c) (hd : DoneW xs a S c) : ¬ Rch xs a c := by
  intro h
  have hva : ∀ v : Nat, varB xs v = true → drf xs (xs.getD v Cel.none) = xs.getD v Cel.none ∧ (xs.getD v Cel.none).1 = 0 ∧ (xs.getD v Cel.none).2.1 = v := fun v hv => by
    obtain ⟨v1, v2, v3, v4⟩ := varB_at hv
    simp only [Int.toNat_natCast] at v3 v4
    refine ⟨drf_stop ?_, v3, v4⟩
    have e : (xs.getD v Cel.none).2.1 = v := v4
    unfold onB
    rw [e, hv]
    simp
  have hstr : ∀ {c : Cel} {y : Nat}, WdC xs c → DoneW xs a S c → c.1 = 4 → Beh xs c y → DoneW xs a S (xs.getD y Cel.none) := fun {c y} hc hd h4 hb => by
    have hn : onB xs c = false := by simp [onB, h4]
    have e := drf_stop hn
    have := hd.2
    rw [e] at this
    obtain ⟨r0, r1, r2⟩ := hc.2.2 h4
    rw [beh_str h4] at hb
    have := hS _ (this h4) (y - c.2.1.toNat) (by omega) (by omega)
    rw [show c.2.1.toNat + (y - c.2.1.toNat) = y by omega] at this
    exact this
  induction h with
  | @here c h =>
    by_cases h0 : c.1 = 0
    · have hn := (beh_ref h0).1 h
      have ho : onB xs c = false := by simp [onB, ← hn, ha]
      have := hd.1
      rw [drf_stop ho] at this
      exact this ⟨h0, hn.symm⟩
    · by_cases h4 : c.1 = 4
      · have hd2 := (hstr hc hd h4 h).1
        obtain ⟨e1, e2, e3⟩ := hva a ha
        rw [e1] at hd2
        exact hd2 ⟨e2, e3⟩
      · exact beh_no h0 h4 h
  | @on c y h h2 ih =>
    obtain ⟨hy1, hy2⟩ := beh_word g.shp hc h
    refine ih (g.at hy1 hy2) ?_
    by_cases h0 : c.1 = 0
    · have hn := (beh_ref h0).1 h
      cases ho : onB xs c
      · have hv : varB xs y = true := by
          simp [onB, h0, ← hn] at ho; exact ho
        obtain ⟨e1, e2, e3⟩ := hva y hv
        unfold DoneW at hd ⊢
        rw [drf_stop ho] at hd
        rw [e1]
        refine ⟨fun hh => hd.1 ⟨h0, by omega⟩, fun hh => by omega⟩
      · unfold DoneW at hd ⊢
        rw [drf_step g hc ho, ← hn] at hd
        simpa using hd
    · by_cases h4 : c.1 = 4
      · exact hstr hc hd h4 h
      · exact absurd h (beh_no h0 h4)

open Classical in
/-- What binding the variable a to the word c, which was followed, gives. -/
noncomputable def bndT (xs : List Cel) (tr : List Int) (a : Nat) (c : Cel) : (List Cel × List Int) × Int :=
  if c.1 = 4 ∧ Rch xs a c then (([], []), 5)
  else if 20000 ≤ tr.length then (([], []), 10)
  else if c.1 = 0 ∧ (a : Int) < c.2.1 then ((xs.set c.2.1.toNat (0, a, []), tr ++ [c.2.1]), 0)
  else ((xs.set a c, tr ++ [(a : Int)]), 0)
/-- What BindCell answers. -/
noncomputable def bndA (xs : List Cel) (tr : List Int) (a : Int) (c : Cel) : (List Cel × List Int) × Int :=
  if (vsB xs tr c.1 c.2.1 c.2.2.length && varB xs a) = true then
    (if (drf xs c).1 = 0 ∧ (drf xs c).2.1 = a then (([], []), 1) else bndT xs tr a.toNat (drf xs c))
  else (([], []), 1)

end Go.Proofs.Ytedkkghekboahaa

namespace Go.Proofs.Ytedkkghekboahaa
open Go Go.RowKit Go.Maps
set_option linter.unusedVariables false

theorem zeroIn (w : World) : (zeroValue 3).run Try.prog w = .ok (.int .i64 0) w := by kernel_rfl
theorem SMap.lookI {w : World} {b N : Nat} {m : Nat → Nat} (h : SMap w b N m) (x : Nat) (h1 : x ≤ 1000000) :
    (Instr.lookup 91 (.map (some b)) (.int .i64 x) false).run Try.prog w = .ok (.int .i64 (m x)) w := by
  obtain ⟨D, hown, hat⟩ := h
  obtain ⟨v, ps, hrun, hv⟩ := hown.lookup lawIntK Try.underlying91 (zeroIn w) (zd := .held (.int .i64 0)) (zp := []) rfl (keyI x h1)
  rw [hrun]
  rw [hat] at hv
  simp only [anyP, Option.some.injEq, Prod.mk.injEq] at hv
  have hv := hv.1
  cases hv; rfl
theorem SMap.putI {w : World} {b N : Nat} {m : Nat → Nat} (h : SMap w b N m) (hN : N ≤ 1000000000000) (x : Nat) (h1 : x ≤ 1000000) (v : Nat) :
    ∃ w', (Instr.mapUpdate 91 (.map (some b)) (.int .i64 x) (.int .i64 v)).run Try.prog w = .ok () w' ∧ SMap w' b (N + 1) (setM m x v) ∧ w.grownBy w' (some b) := by
  obtain ⟨D, hown, hat⟩ := h
  obtain ⟨w', hrun, hown', hg⟩ := hown.update lawIntK Try.underlying91 (by unfold maxLen; omega) (keyI x h1) (show anyP (.int .i64 v) = some (.held (.int .i64 v), []) from rfl)
  have hm := hown.isMap
  have hkl : WideAt.IsKeyLit (.int .i64 x) := trivial
  refine ⟨w', hrun, ⟨_, hown', fun y => ?_⟩, hg⟩
  by_cases e : y = x
  · subst e
    rw [atKey_put_same hm hkl]; simp [setM]
  · rw [atKey_put_other (by simp; omega), hat]; simp [setM, e]
theorem row_keep {B B' U' : Nat} {t : TypeId} {size n : Nat} {v : Value} {w w' : World} {xs : List Value} (h : w.ownsRow B t size v n xs) (hk : Keep B' U' w w') (hu : U' ≤ B) : w'.ownsRow B t size v n xs := by
  refine ⟨h.1, ?_⟩
  rcases h.2 with h' | ⟨g, cap, cur, hv, hB, hg, r⟩
  · exact .inl h'
  · exact .inr ⟨g, cap, cur, hv, hB, (hk.block g (Array.getElem?_eq_some_iff.1 hg).1 (.inr (by omega))).trans hg, r⟩
theorem HeapO.keep {w w' : World} {h : Nat} {xs : List Cel} {tr : List Int} {m : Nat} {lk : Int} (H : HeapO w h xs tr m lk) (hk : Keep m (m + 1) w w') : HeapO w' h xs tr m lk := by
  have hl := H.lt
  obtain ⟨pw, cw, pt, ct, h0, h1, h2, h3⟩ := H
  exact ⟨pw, cw, pt, ct, (hk.block h hl (.inr (by omega))).trans h0, row_keep h1 hk (by omega), ⟨h2.1, row_keep h2.2 hk (by omega)⟩, h3⟩
theorem below_toKeep {w w' : World} (h : Below w.heap.size w w') (B U : Nat) : Keep B U w w' := ⟨h.os, h.tape, h.output, h.size, fun k hk _ => h.block k hk⟩

/-- What enters answers. -/
def EntOut (xs : List Cel) (a m lk N : Nat) (mk : Nat → Nat) (w : World) (e : Ending) (w' : World) : Prop :=
  ∃ (r : Bool) (N' : Nat) (mk' : Nat → Nat), e = .returned (.bool r) ∧ Keep m (m + 1) w w' ∧ SMap w' m N' mk' ∧
    ((r = true ∧ (kndA xs a = 0 ∨ kndA xs a = 4) ∧ mk a ≠ lk ∧ N' = N + 1 ∧ mk' = setM mk a lk) ∨ (r = false ∧ N' = N ∧ mk' = mk ∧ ((kndA xs a ≠ 0 ∧ kndA xs a ≠ 4) ∨ mk a = lk)))

set_option maxHeartbeats 1000000 in
set_option maxRecDepth 100000 in
theorem enters_any (h a m lk N : Nat) (xs : List Cel) (tr : List Int) (mk : Nat → Nat) (w : World) (hs : Shp xs) (ha : a < xs.length) (hN : N ≤ 1000000000000) (H : HeapO w h xs tr m lk) (hm : SMap w m N mk) :
    Calls Try.prog 115 #[.pointer (some ⟨h, 0, none⟩), .int .i64 a] w (EntOut xs a m lk N mk w) := by
  have hl := hs.len
  have HX : Hid _ := first_of hs ha
  obtain ⟨pw, cw, pt, ct, hblk, h1, _, hmh⟩ := id H
  have hHt := H.lt
  obtain ⟨g, cap, hv0, _, _⟩ := h1.form (by omega)
  simp only [Value.slice.injEq, true_and] at hv0
  obtain ⟨rfl, rfl⟩ := hv0
  have c0 : w.cell? ⟨h, 0, none⟩ = some (.slice (some ⟨g, 0, none⟩) xs.length cw) := by simp [World.cell?, hblk]
  have hv : w.cell? ⟨g, a, none⟩ = some (wv (xs.getD a Cel.none)) := by rw [h1.cellAt a (by omega)]; simp [List.getD, ha]
  have HBE := behind_any h (xs.getD a Cel.none) xs tr w hs (hs.knds a ha) (fun k => ⟨(hs.refs a ha k).1, (hs.refs a ha k).2.1⟩) (fun k => by have := hs.stru a ha k; simp only [funB, decide_eq_true_eq]; exact this) H.at
  rw [show fW (xs.getD a Cel.none).1 (xs.getD a Cel.none).2.1 = (firstK xs a : Nat) from HX.out.1, show eW xs (xs.getD a Cel.none).1 (xs.getD a Cel.none).2.1 = (endK xs a : Nat) from HX.out.2.1] at HBE
  generalize wv (xs.getD a Cel.none) = v at hv HBE
  obtain ⟨_, _, hx3, hx4, hx5⟩ := HX.out
  have HFE : Hid (firstK xs a = endK xs a ↔ (kndA xs a ≠ 0 ∧ kndA xs a ≠ 4)) := hx5
  generalize firstK xs a = f at HBE hx3 HFE
  generalize endK xs a = z at HBE hx3 hx4 HFE
  have HB : Hid (∀ W, Below w.heap.size w W → W.cell? ⟨h, 2, none⟩ = some (.map (some m)) ∧ W.cell? ⟨h, 3, none⟩ = some (.int .i64 lk) ∧ SMap W m N mk) := fun W hW => by
    have := (hW.block h hHt).trans hblk
    exact ⟨by simp [World.cell?, this], by simp [World.cell?, this], hm.below hW⟩
  clear hx5 HX hblk h1 H hm hHt
  by_cases hfz : f = z
  · subst hfz
    go_enter Try.func115, Try.ntmps115
    go_wp2_with fail
    refine HBE.mono ?_
    rintro e w1 ⟨rfl, hb⟩
    have HB1 : Hid (Below w.heap.size w w1) := hb
    clear hb HBE c0 hv
    have HK : Hid (∀ W, Below w1.heap.size w1 W → W.cell? ⟨h, 2, none⟩ = some (.map (some m)) ∧ W.cell? ⟨h, 3, none⟩ = some (.int .i64 lk) ∧ (Instr.lookup 91 (.map (some m)) (.int .i64 a) false).run Try.prog W = .ok (.int .i64 (mk a)) W) := fun W hW => by
      obtain ⟨e2, e3, hmW⟩ := HB.out W (Below.on HB1.out hW)
      exact ⟨e2, e3, hmW.lookI a (by omega)⟩
    go_wp2_with fail
    refine wp_region_held_drew (S := fun W => W.cell? ⟨h, 2, none⟩ = some (.map (some m)) ∧ W.cell? ⟨h, 3, none⟩ = some (.int .i64 lk) ∧ (Instr.lookup 91 (.map (some m)) (.int .i64 a) false).run Try.prog W = .ok (.int .i64 (mk a)) W) (by kernel_rfl) (HK.out _ (Below.refl _ _).drew) (fun hHeld => ?_)
    have hSS := HK.out _ (Below.refl _ _).drew
    refine hTake (i := 0) (v := .int .i64 f) (some 19) (by kernel_rfl) (by kernel_rfl) (by kernel_rfl) (by kernel_rfl) (by kernel_rfl) (fun _ _ _ h => h) (fun o ho W hSw => ?y0) (by assumption) ?_
    case y0 =>
      cases ho
      simp [execOp, go_sem, Act.eval]
    simp only [Act.put, List.setIfInBounds_toArray, List.set_cons_zero, List.set_cons_succ]
    refine hTake (i := 1) (v := .int .i64 f) (some 20) (by kernel_rfl) (by kernel_rfl) (by kernel_rfl) (by kernel_rfl) (by kernel_rfl) (fun _ _ _ h => h) (fun o ho W hSw => ?y1) (by assumption) ?_
    case y1 =>
      cases ho
      simp [execOp, go_sem, Act.eval]
    simp only [Act.put, List.setIfInBounds_toArray, List.set_cons_zero, List.set_cons_succ]
    refine hTake (i := 2) (v := .bool true) (some 21) (by kernel_rfl) (by kernel_rfl) (by kernel_rfl) (by kernel_rfl) (by kernel_rfl) (fun _ _ _ h => h) (fun o ho W hSw => ?y2) (by assumption) ?_
    case y2 =>
      cases ho
      simp [execOp, go_sem, Act.eval]
    simp only [Act.put, List.setIfInBounds_toArray, List.set_cons_zero, List.set_cons_succ]
    refine hTake (i := 3) (v := .bool true) (some 22) (by kernel_rfl) (by kernel_rfl) (by kernel_rfl) (by kernel_rfl) (by kernel_rfl) (fun _ _ _ h => h) (fun o ho W hSw => ?y3) (by assumption) ?_
    case y3 =>
      cases ho
      simp [execOp, go_sem, Act.eval]
    simp only [Act.put, List.setIfInBounds_toArray, List.set_cons_zero, List.set_cons_succ]
    refine hSkip (i := 4) (some 23) (by kernel_rfl) (by kernel_rfl) (by kernel_rfl) (by kernel_rfl) (by kernel_rfl) (fun _ _ _ h => h) (by assumption) ?_
    simp only [Act.put, List.setIfInBounds_toArray, List.set_cons_zero, List.set_cons_succ]
    refine hSkip (i := 5) (some 24) (by kernel_rfl) (by kernel_rfl) (by kernel_rfl) (by kernel_rfl) (by kernel_rfl) (fun _ _ _ h => h) (by assumption) ?_
    simp only [Act.put, List.setIfInBounds_toArray, List.set_cons_zero, List.set_cons_succ]
    refine hSkip (i := 6) (some 25) (by kernel_rfl) (by kernel_rfl) (by kernel_rfl) (by kernel_rfl) (by kernel_rfl) (fun _ _ _ h => h) (by assumption) ?_
    simp only [Act.put, List.setIfInBounds_toArray, List.set_cons_zero, List.set_cons_succ]
    refine hSkip (i := 7) (some 26) (by kernel_rfl) (by kernel_rfl) (by kernel_rfl) (by kernel_rfl) (by kernel_rfl) (fun _ _ _ h => h) (by assumption) ?_
    simp only [Act.put, List.setIfInBounds_toArray, List.set_cons_zero, List.set_cons_succ]
    refine hSkip (i := 8) (some 27) (by kernel_rfl) (by kernel_rfl) (by kernel_rfl) (by kernel_rfl) (by kernel_rfl) (fun _ _ _ h => h) (by assumption) ?_
    simp only [Act.put, List.setIfInBounds_toArray, List.set_cons_zero, List.set_cons_succ]
    refine hSkip (i := 9) (some 28) (by kernel_rfl) (by kernel_rfl) (by kernel_rfl) (by kernel_rfl) (by kernel_rfl) (fun _ _ _ h => h) (by assumption) ?_
    simp only [Act.put, List.setIfInBounds_toArray, List.set_cons_zero, List.set_cons_succ]
    refine hSkip (i := 10) (some 29) (by kernel_rfl) (by kernel_rfl) (by kernel_rfl) (by kernel_rfl) (by kernel_rfl) (fun _ _ _ h => h) (by assumption) ?_
    simp only [Act.put, List.setIfInBounds_toArray, List.set_cons_zero, List.set_cons_succ]
    refine hSkip (i := 11) (some 30) (by kernel_rfl) (by kernel_rfl) (by kernel_rfl) (by kernel_rfl) (by kernel_rfl) (fun _ _ _ h => h) (by assumption) ?_
    simp only [Act.put, List.setIfInBounds_toArray, List.set_cons_zero, List.set_cons_succ]
    refine hSkip (i := 12) (some 31) (by kernel_rfl) (by kernel_rfl) (by kernel_rfl) (by kernel_rfl) (by kernel_rfl) (fun _ _ _ h => h) (by assumption) ?_
    simp only [Act.put, List.setIfInBounds_toArray, List.set_cons_zero, List.set_cons_succ]
    refine hSkip (i := 13) (some 32) (by kernel_rfl) (by kernel_rfl) (by kernel_rfl) (by kernel_rfl) (by kernel_rfl) (fun _ _ _ h => h) (by assumption) ?_
    simp only [Act.put, List.setIfInBounds_toArray, List.set_cons_zero, List.set_cons_succ]
    refine hSkip (i := 14) (some 33) (by kernel_rfl) (by kernel_rfl) (by kernel_rfl) (by kernel_rfl) (by kernel_rfl) (fun _ _ _ h => h) (by assumption) ?_
    simp only [Act.put, List.setIfInBounds_toArray, List.set_cons_zero, List.set_cons_succ]
    refine hTake (i := 15) (v := .bool true) (some 34) (by kernel_rfl) (by kernel_rfl) (by kernel_rfl) (by kernel_rfl) (by kernel_rfl) (fun _ _ _ h => h) (fun o ho W hSw => ?y15) (by assumption) ?_
    case y15 =>
      cases ho
      simp [execOp, go_sem, Act.eval]
    simp only [Act.put, List.setIfInBounds_toArray, List.set_cons_zero, List.set_cons_succ]
    refine wpAnyH_done (by kernel_rfl) ?_ _
    clear hHeld hSS
    change Exit.then _ _ _ _ _
    go_wp2_with fail
    go_ret
    exact ⟨false, N, mk, rfl, below_toKeep (Below.on HB1.out (Below.refl _ _).drew) _ _, (HB.out _ (Below.on HB1.out (Below.refl _ _).drew)).2.2, .inr ⟨rfl, rfl, rfl, .inl (HFE.out.1 (by trivial))⟩⟩
  · have hfz' : ((f : Int) == (z : Int)) = false := by simp; omega
    have HNL : Hid (kndA xs a = 0 ∨ kndA xs a = 4) := by
      by_cases k0 : kndA xs a = 0
      · exact .inl k0
      · by_cases k4 : kndA xs a = 4
        · exact .inr k4
        · exact absurd (HFE.out.2 ⟨k0, k4⟩) hfz
    clear hfz HFE
    by_cases hml : mk a = lk
    · have hme : ((mk a : Int) == (lk : Int)) = true := by simp; omega
      have HML : Hid (mk a = lk) := hml
      clear hml
      go_enter Try.func115, Try.ntmps115
      go_wp2_with fail
      refine HBE.mono ?_
      rintro e w1 ⟨rfl, hb⟩
      have HB1 : Hid (Below w.heap.size w w1) := hb
      clear hb HBE c0 hv
      have HK : Hid (∀ W, Below w1.heap.size w1 W → W.cell? ⟨h, 2, none⟩ = some (.map (some m)) ∧ W.cell? ⟨h, 3, none⟩ = some (.int .i64 lk) ∧ (Instr.lookup 91 (.map (some m)) (.int .i64 a) false).run Try.prog W = .ok (.int .i64 (mk a)) W) := fun W hW => by
        obtain ⟨e2, e3, hmW⟩ := HB.out W (Below.on HB1.out hW)
        exact ⟨e2, e3, hmW.lookI a (by omega)⟩
      go_wp2_with fail
      refine wp_region_held_drew (S := fun W => W.cell? ⟨h, 2, none⟩ = some (.map (some m)) ∧ W.cell? ⟨h, 3, none⟩ = some (.int .i64 lk) ∧ (Instr.lookup 91 (.map (some m)) (.int .i64 a) false).run Try.prog W = .ok (.int .i64 (mk a)) W) (by kernel_rfl) (HK.out _ (Below.refl _ _).drew) (fun hHeld => ?_)
      have hSS := HK.out _ (Below.refl _ _).drew
      refine hTake (i := 0) (v := .int .i64 f) (some 19) (by kernel_rfl) (by kernel_rfl) (by kernel_rfl) (by kernel_rfl) (by kernel_rfl) (fun _ _ _ h => h) (fun o ho W hSw => ?y0) (by assumption) ?_
      case y0 =>
        cases ho
        simp [execOp, go_sem, Act.eval]
      simp only [Act.put, List.setIfInBounds_toArray, List.set_cons_zero, List.set_cons_succ]
      refine hTake (i := 1) (v := .int .i64 z) (some 20) (by kernel_rfl) (by kernel_rfl) (by kernel_rfl) (by kernel_rfl) (by kernel_rfl) (fun _ _ _ h => h) (fun o ho W hSw => ?y1) (by assumption) ?_
      case y1 =>
        cases ho
        simp [execOp, go_sem, Act.eval]
      simp only [Act.put, List.setIfInBounds_toArray, List.set_cons_zero, List.set_cons_succ]
      refine hTake (i := 2) (v := .bool false) (some 21) (by kernel_rfl) (by kernel_rfl) (by kernel_rfl) (by kernel_rfl) (by kernel_rfl) (fun _ _ _ h => h) (fun o ho W hSw => ?y2) (by assumption) ?_
      case y2 =>
        cases ho
        simp [execOp, go_sem, Act.eval, hfz']
      simp only [Act.put, List.setIfInBounds_toArray, List.set_cons_zero, List.set_cons_succ]
      refine hTake (i := 3) (v := .bool false) (some 22) (by kernel_rfl) (by kernel_rfl) (by kernel_rfl) (by kernel_rfl) (by kernel_rfl) (fun _ _ _ h => h) (fun o ho W hSw => ?y3) (by assumption) ?_
      case y3 =>
        cases ho
        simp [execOp, go_sem, Act.eval]
      simp only [Act.put, List.setIfInBounds_toArray, List.set_cons_zero, List.set_cons_succ]
      refine hTake (i := 4) (v := .pointer (some ⟨h, 0, none⟩)) (some 23) (by kernel_rfl) (by kernel_rfl) (by kernel_rfl) (by kernel_rfl) (by kernel_rfl) (fun _ _ _ h => h) (fun o ho W hSw => ?y4) (by assumption) ?_
      case y4 =>
        cases ho
        simp [execOp, go_sem, Act.eval]
      simp only [Act.put, List.setIfInBounds_toArray, List.set_cons_zero, List.set_cons_succ]
      refine hTake (i := 5) (v := .pointer (some ⟨h, 0, none⟩)) (some 24) (by kernel_rfl) (by kernel_rfl) (by kernel_rfl) (by kernel_rfl) (by kernel_rfl) (fun _ _ _ h => h) (fun o ho W hSw => ?y5) (by assumption) ?_
      case y5 =>
        cases ho
        simp [execOp, go_sem, Act.eval]
      simp only [Act.put, List.setIfInBounds_toArray, List.set_cons_zero, List.set_cons_succ]
      refine hTake (i := 6) (v := .pointer (some ⟨h, 2, none⟩)) (some 25) (by kernel_rfl) (by kernel_rfl) (by kernel_rfl) (by kernel_rfl) (by kernel_rfl) (fun _ _ _ h => h) (fun o ho W hSw => ?y6) (by assumption) ?_
      case y6 =>
        cases ho
        simp [execOp, go_sem, Act.eval]
      simp only [Act.put, List.setIfInBounds_toArray, List.set_cons_zero, List.set_cons_succ]
      refine hTake (i := 7) (v := .map (some m)) (some 26) (by kernel_rfl) (by kernel_rfl) (by kernel_rfl) (by kernel_rfl) (by kernel_rfl) (fun _ _ _ h => h) (fun o ho W hSw => ?y7) (by assumption) ?_
      case y7 =>
        cases ho
        simp [execOp, go_sem, Act.eval, hSw]
      simp only [Act.put, List.setIfInBounds_toArray, List.set_cons_zero, List.set_cons_succ]
      refine hTake (i := 8) (v := .int .i64 a) (some 27) (by kernel_rfl) (by kernel_rfl) (by kernel_rfl) (by kernel_rfl) (by kernel_rfl) (fun _ _ _ h => h) (fun o ho W hSw => ?y8) (by assumption) ?_
      case y8 =>
        cases ho
        simp [execOp, go_sem, Act.eval]
      simp only [Act.put, List.setIfInBounds_toArray, List.set_cons_zero, List.set_cons_succ]
      refine hTake (i := 9) (v := .int .i64 (mk a)) (some 28) (by kernel_rfl) (by kernel_rfl) (by kernel_rfl) (by kernel_rfl) (by kernel_rfl) (fun _ _ _ h => h) (fun o ho W hSw => ?y9) (by assumption) ?_
      case y9 =>
        cases ho
        simp [execOp, go_sem, Act.eval, hSw]
      simp only [Act.put, List.setIfInBounds_toArray, List.set_cons_zero, List.set_cons_succ]
      refine hTake (i := 10) (v := .pointer (some ⟨h, 0, none⟩)) (some 29) (by kernel_rfl) (by kernel_rfl) (by kernel_rfl) (by kernel_rfl) (by kernel_rfl) (fun _ _ _ h => h) (fun o ho W hSw => ?y10) (by assumption) ?_
      case y10 =>
        cases ho
        simp [execOp, go_sem, Act.eval]
      simp only [Act.put, List.setIfInBounds_toArray, List.set_cons_zero, List.set_cons_succ]
      refine hTake (i := 11) (v := .pointer (some ⟨h, 0, none⟩)) (some 30) (by kernel_rfl) (by kernel_rfl) (by kernel_rfl) (by kernel_rfl) (by kernel_rfl) (fun _ _ _ h => h) (fun o ho W hSw => ?y11) (by assumption) ?_
      case y11 =>
        cases ho
        simp [execOp, go_sem, Act.eval]
      simp only [Act.put, List.setIfInBounds_toArray, List.set_cons_zero, List.set_cons_succ]
      refine hTake (i := 12) (v := .pointer (some ⟨h, 3, none⟩)) (some 31) (by kernel_rfl) (by kernel_rfl) (by kernel_rfl) (by kernel_rfl) (by kernel_rfl) (fun _ _ _ h => h) (fun o ho W hSw => ?y12) (by assumption) ?_
      case y12 =>
        cases ho
        simp [execOp, go_sem, Act.eval]
      simp only [Act.put, List.setIfInBounds_toArray, List.set_cons_zero, List.set_cons_succ]
      refine hTake (i := 13) (v := .int .i64 lk) (some 32) (by kernel_rfl) (by kernel_rfl) (by kernel_rfl) (by kernel_rfl) (by kernel_rfl) (fun _ _ _ h => h) (fun o ho W hSw => ?y13) (by assumption) ?_
      case y13 =>
        cases ho
        simp [execOp, go_sem, Act.eval, hSw]
      simp only [Act.put, List.setIfInBounds_toArray, List.set_cons_zero, List.set_cons_succ]
      refine hTake (i := 14) (v := .bool true) (some 33) (by kernel_rfl) (by kernel_rfl) (by kernel_rfl) (by kernel_rfl) (by kernel_rfl) (fun _ _ _ h => h) (fun o ho W hSw => ?y14) (by assumption) ?_
      case y14 =>
        cases ho
        simp [execOp, go_sem, Act.eval, hme]
      simp only [Act.put, List.setIfInBounds_toArray, List.set_cons_zero, List.set_cons_succ]
      refine hTake (i := 15) (v := .bool true) (some 34) (by kernel_rfl) (by kernel_rfl) (by kernel_rfl) (by kernel_rfl) (by kernel_rfl) (fun _ _ _ h => h) (fun o ho W hSw => ?y15) (by assumption) ?_
      case y15 =>
        cases ho
        simp [execOp, go_sem, Act.eval]
      simp only [Act.put, List.setIfInBounds_toArray, List.set_cons_zero, List.set_cons_succ]
      refine wpAnyH_done (by kernel_rfl) ?_ _
      clear hHeld hSS
      change Exit.then _ _ _ _ _
      go_wp2_with fail
      go_ret
      exact ⟨false, N, mk, rfl, below_toKeep (Below.on HB1.out (Below.refl _ _).drew) _ _, (HB.out _ (Below.on HB1.out (Below.refl _ _).drew)).2.2, .inr ⟨rfl, rfl, rfl, .inr HML.out⟩⟩
    · have hme : ((mk a : Int) == (lk : Int)) = false := by simp; omega
      have HML : Hid (mk a ≠ lk) := hml
      clear hml
      go_enter Try.func115, Try.ntmps115
      go_wp2_with fail
      refine HBE.mono ?_
      rintro e w1 ⟨rfl, hb⟩
      have HB1 : Hid (Below w.heap.size w w1) := hb
      clear hb HBE c0 hv
      have HK : Hid (∀ W, Below w1.heap.size w1 W → W.cell? ⟨h, 2, none⟩ = some (.map (some m)) ∧ W.cell? ⟨h, 3, none⟩ = some (.int .i64 lk) ∧ (Instr.lookup 91 (.map (some m)) (.int .i64 a) false).run Try.prog W = .ok (.int .i64 (mk a)) W) := fun W hW => by
        obtain ⟨e2, e3, hmW⟩ := HB.out W (Below.on HB1.out hW)
        exact ⟨e2, e3, hmW.lookI a (by omega)⟩
      go_wp2_with fail
      refine wp_region_held_drew (S := fun W => W.cell? ⟨h, 2, none⟩ = some (.map (some m)) ∧ W.cell? ⟨h, 3, none⟩ = some (.int .i64 lk) ∧ (Instr.lookup 91 (.map (some m)) (.int .i64 a) false).run Try.prog W = .ok (.int .i64 (mk a)) W) (by kernel_rfl) (HK.out _ (Below.refl _ _).drew) (fun hHeld => ?_)
      have hSS := HK.out _ (Below.refl _ _).drew
      refine hTake (i := 0) (v := .int .i64 f) (some 19) (by kernel_rfl) (by kernel_rfl) (by kernel_rfl) (by kernel_rfl) (by kernel_rfl) (fun _ _ _ h => h) (fun o ho W hSw => ?y0) (by assumption) ?_
      case y0 =>
        cases ho
        simp [execOp, go_sem, Act.eval]
      simp only [Act.put, List.setIfInBounds_toArray, List.set_cons_zero, List.set_cons_succ]
      refine hTake (i := 1) (v := .int .i64 z) (some 20) (by kernel_rfl) (by kernel_rfl) (by kernel_rfl) (by kernel_rfl) (by kernel_rfl) (fun _ _ _ h => h) (fun o ho W hSw => ?y1) (by assumption) ?_
      case y1 =>
        cases ho
        simp [execOp, go_sem, Act.eval]
      simp only [Act.put, List.setIfInBounds_toArray, List.set_cons_zero, List.set_cons_succ]
      refine hTake (i := 2) (v := .bool false) (some 21) (by kernel_rfl) (by kernel_rfl) (by kernel_rfl) (by kernel_rfl) (by kernel_rfl) (fun _ _ _ h => h) (fun o ho W hSw => ?y2) (by assumption) ?_
      case y2 =>
        cases ho
        simp [execOp, go_sem, Act.eval, hfz']
      simp only [Act.put, List.setIfInBounds_toArray, List.set_cons_zero, List.set_cons_succ]
      refine hTake (i := 3) (v := .bool false) (some 22) (by kernel_rfl) (by kernel_rfl) (by kernel_rfl) (by kernel_rfl) (by kernel_rfl) (fun _ _ _ h => h) (fun o ho W hSw => ?y3) (by assumption) ?_
      case y3 =>
        cases ho
        simp [execOp, go_sem, Act.eval]
      simp only [Act.put, List.setIfInBounds_toArray, List.set_cons_zero, List.set_cons_succ]
      refine hTake (i := 4) (v := .pointer (some ⟨h, 0, none⟩)) (some 23) (by kernel_rfl) (by kernel_rfl) (by kernel_rfl) (by kernel_rfl) (by kernel_rfl) (fun _ _ _ h => h) (fun o ho W hSw => ?y4) (by assumption) ?_
      case y4 =>
        cases ho
        simp [execOp, go_sem, Act.eval]
      simp only [Act.put, List.setIfInBounds_toArray, List.set_cons_zero, List.set_cons_succ]
      refine hTake (i := 5) (v := .pointer (some ⟨h, 0, none⟩)) (some 24) (by kernel_rfl) (by kernel_rfl) (by kernel_rfl) (by kernel_rfl) (by kernel_rfl) (fun _ _ _ h => h) (fun o ho W hSw => ?y5) (by assumption) ?_
      case y5 =>
        cases ho
        simp [execOp, go_sem, Act.eval]
      simp only [Act.put, List.setIfInBounds_toArray, List.set_cons_zero, List.set_cons_succ]
      refine hTake (i := 6) (v := .pointer (some ⟨h, 2, none⟩)) (some 25) (by kernel_rfl) (by kernel_rfl) (by kernel_rfl) (by kernel_rfl) (by kernel_rfl) (fun _ _ _ h => h) (fun o ho W hSw => ?y6) (by assumption) ?_
      case y6 =>
        cases ho
        simp [execOp, go_sem, Act.eval]
      simp only [Act.put, List.setIfInBounds_toArray, List.set_cons_zero, List.set_cons_succ]
      refine hTake (i := 7) (v := .map (some m)) (some 26) (by kernel_rfl) (by kernel_rfl) (by kernel_rfl) (by kernel_rfl) (by kernel_rfl) (fun _ _ _ h => h) (fun o ho W hSw => ?y7) (by assumption) ?_
      case y7 =>
        cases ho
        simp [execOp, go_sem, Act.eval, hSw]
      simp only [Act.put, List.setIfInBounds_toArray, List.set_cons_zero, List.set_cons_succ]
      refine hTake (i := 8) (v := .int .i64 a) (some 27) (by kernel_rfl) (by kernel_rfl) (by kernel_rfl) (by kernel_rfl) (by kernel_rfl) (fun _ _ _ h => h) (fun o ho W hSw => ?y8) (by assumption) ?_
      case y8 =>
        cases ho
        simp [execOp, go_sem, Act.eval]
      simp only [Act.put, List.setIfInBounds_toArray, List.set_cons_zero, List.set_cons_succ]
      refine hTake (i := 9) (v := .int .i64 (mk a)) (some 28) (by kernel_rfl) (by kernel_rfl) (by kernel_rfl) (by kernel_rfl) (by kernel_rfl) (fun _ _ _ h => h) (fun o ho W hSw => ?y9) (by assumption) ?_
      case y9 =>
        cases ho
        simp [execOp, go_sem, Act.eval, hSw]
      simp only [Act.put, List.setIfInBounds_toArray, List.set_cons_zero, List.set_cons_succ]
      refine hTake (i := 10) (v := .pointer (some ⟨h, 0, none⟩)) (some 29) (by kernel_rfl) (by kernel_rfl) (by kernel_rfl) (by kernel_rfl) (by kernel_rfl) (fun _ _ _ h => h) (fun o ho W hSw => ?y10) (by assumption) ?_
      case y10 =>
        cases ho
        simp [execOp, go_sem, Act.eval]
      simp only [Act.put, List.setIfInBounds_toArray, List.set_cons_zero, List.set_cons_succ]
      refine hTake (i := 11) (v := .pointer (some ⟨h, 0, none⟩)) (some 30) (by kernel_rfl) (by kernel_rfl) (by kernel_rfl) (by kernel_rfl) (by kernel_rfl) (fun _ _ _ h => h) (fun o ho W hSw => ?y11) (by assumption) ?_
      case y11 =>
        cases ho
        simp [execOp, go_sem, Act.eval]
      simp only [Act.put, List.setIfInBounds_toArray, List.set_cons_zero, List.set_cons_succ]
      refine hTake (i := 12) (v := .pointer (some ⟨h, 3, none⟩)) (some 31) (by kernel_rfl) (by kernel_rfl) (by kernel_rfl) (by kernel_rfl) (by kernel_rfl) (fun _ _ _ h => h) (fun o ho W hSw => ?y12) (by assumption) ?_
      case y12 =>
        cases ho
        simp [execOp, go_sem, Act.eval]
      simp only [Act.put, List.setIfInBounds_toArray, List.set_cons_zero, List.set_cons_succ]
      refine hTake (i := 13) (v := .int .i64 lk) (some 32) (by kernel_rfl) (by kernel_rfl) (by kernel_rfl) (by kernel_rfl) (by kernel_rfl) (fun _ _ _ h => h) (fun o ho W hSw => ?y13) (by assumption) ?_
      case y13 =>
        cases ho
        simp [execOp, go_sem, Act.eval, hSw]
      simp only [Act.put, List.setIfInBounds_toArray, List.set_cons_zero, List.set_cons_succ]
      refine hTake (i := 14) (v := .bool false) (some 33) (by kernel_rfl) (by kernel_rfl) (by kernel_rfl) (by kernel_rfl) (by kernel_rfl) (fun _ _ _ h => h) (fun o ho W hSw => ?y14) (by assumption) ?_
      case y14 =>
        cases ho
        simp [execOp, go_sem, Act.eval, hme]
      simp only [Act.put, List.setIfInBounds_toArray, List.set_cons_zero, List.set_cons_succ]
      refine hTake (i := 15) (v := .bool false) (some 34) (by kernel_rfl) (by kernel_rfl) (by kernel_rfl) (by kernel_rfl) (by kernel_rfl) (fun _ _ _ h => h) (fun o ho W hSw => ?y15) (by assumption) ?_
      case y15 =>
        cases ho
        simp [execOp, go_sem, Act.eval]
      simp only [Act.put, List.setIfInBounds_toArray, List.set_cons_zero, List.set_cons_succ]
      refine wpAnyH_done (by kernel_rfl) ?_ _
      clear hHeld hSS
      change Exit.then _ _ _ _ _
      have HB2 : Hid (Below w.heap.size w w1.drew) := Below.on HB1.out (Below.refl _ _).drew
      clear HK HB1
      generalize w1.drew = w2 at HB2 ⊢
      have HB3 : Hid (Below w.heap.size w w2.drew) := Below.on HB2.out (Below.refl _ _).drew
      obtain ⟨d2, d3, hmD⟩ := HB.out _ HB3.out
      have hd2 := World.block_lt_of_cell? _ _ d2
      obtain ⟨w3, hput, hm3, hg3⟩ := hmD.putI hN a (by omega) lk
      have hS3 : w3.cell? ⟨h, 2, none⟩ = some (.map (some m)) ∧ w3.cell? ⟨h, 3, none⟩ = some (.int .i64 lk) := by
        have := hg3.block h hd2 (by simp; omega)
        have e2 : ∀ i, w3.cell? ⟨h, i, none⟩ = w2.drew.cell? ⟨h, i, none⟩ := fun i => by simp only [World.cell?, this]
        exact ⟨(e2 2).trans d2, (e2 3).trans d3⟩
      have HF : Hid (SMap w3 m (N + 1) (setM mk a lk)) := hm3
      have HG : Hid (w2.drew.grownBy w3 (some m)) := hg3
      clear hm3 hg3 hmD
      go_wp2_with fail
      refine wp_region_held_drew (S := fun W => W.cell? ⟨h, 2, none⟩ = some (.map (some m)) ∧ W.cell? ⟨h, 3, none⟩ = some (.int .i64 lk)) (by kernel_rfl) ⟨d2, d3⟩ (fun hHeld => ?_)
      clear d2 d3
      refine hTake (i := 0) (v := .pointer (some ⟨h, 0, none⟩)) (some 35) (by kernel_rfl) (by kernel_rfl) (by kernel_rfl) (by kernel_rfl) (by kernel_rfl) (fun _ _ _ h => h) (fun o ho W hSw => ?y0) (by assumption) ?_
      case y0 =>
        cases ho
        simp [execOp, go_sem, Act.eval]
      simp only [Act.put, List.setIfInBounds_toArray, List.set_cons_zero, List.set_cons_succ]
      refine hTake (i := 1) (v := .pointer (some ⟨h, 0, none⟩)) (some 36) (by kernel_rfl) (by kernel_rfl) (by kernel_rfl) (by kernel_rfl) (by kernel_rfl) (fun _ _ _ h => h) (fun o ho W hSw => ?y1) (by assumption) ?_
      case y1 =>
        cases ho
        simp [execOp, go_sem, Act.eval]
      simp only [Act.put, List.setIfInBounds_toArray, List.set_cons_zero, List.set_cons_succ]
      refine hTake (i := 2) (v := .pointer (some ⟨h, 2, none⟩)) (some 37) (by kernel_rfl) (by kernel_rfl) (by kernel_rfl) (by kernel_rfl) (by kernel_rfl) (fun _ _ _ h => h) (fun o ho W hSw => ?y2) (by assumption) ?_
      case y2 =>
        cases ho
        simp [execOp, go_sem, Act.eval]
      simp only [Act.put, List.setIfInBounds_toArray, List.set_cons_zero, List.set_cons_succ]
      refine hTake (i := 3) (v := .map (some m)) (some 38) (by kernel_rfl) (by kernel_rfl) (by kernel_rfl) (by kernel_rfl) (by kernel_rfl) (fun _ _ _ h => h) (fun o ho W hSw => ?y3) (by assumption) ?_
      case y3 =>
        cases ho
        simp [execOp, go_sem, Act.eval, hSw]
      simp only [Act.put, List.setIfInBounds_toArray, List.set_cons_zero, List.set_cons_succ]
      refine hTake (i := 4) (v := .int .i64 a) (some 39) (by kernel_rfl) (by kernel_rfl) (by kernel_rfl) (by kernel_rfl) (by kernel_rfl) (fun _ _ _ h => h) (fun o ho W hSw => ?y4) (by assumption) ?_
      case y4 =>
        cases ho
        simp [execOp, go_sem, Act.eval]
      simp only [Act.put, List.setIfInBounds_toArray, List.set_cons_zero, List.set_cons_succ]
      refine hTake (i := 5) (v := .pointer (some ⟨h, 0, none⟩)) (some 40) (by kernel_rfl) (by kernel_rfl) (by kernel_rfl) (by kernel_rfl) (by kernel_rfl) (fun _ _ _ h => h) (fun o ho W hSw => ?y5) (by assumption) ?_
      case y5 =>
        cases ho
        simp [execOp, go_sem, Act.eval]
      simp only [Act.put, List.setIfInBounds_toArray, List.set_cons_zero, List.set_cons_succ]
      refine hTake (i := 6) (v := .pointer (some ⟨h, 0, none⟩)) (some 41) (by kernel_rfl) (by kernel_rfl) (by kernel_rfl) (by kernel_rfl) (by kernel_rfl) (fun _ _ _ h => h) (fun o ho W hSw => ?y6) (by assumption) ?_
      case y6 =>
        cases ho
        simp [execOp, go_sem, Act.eval]
      simp only [Act.put, List.setIfInBounds_toArray, List.set_cons_zero, List.set_cons_succ]
      refine hTake (i := 7) (v := .pointer (some ⟨h, 3, none⟩)) (some 42) (by kernel_rfl) (by kernel_rfl) (by kernel_rfl) (by kernel_rfl) (by kernel_rfl) (fun _ _ _ h => h) (fun o ho W hSw => ?y7) (by assumption) ?_
      case y7 =>
        cases ho
        simp [execOp, go_sem, Act.eval]
      simp only [Act.put, List.setIfInBounds_toArray, List.set_cons_zero, List.set_cons_succ]
      refine hTake (i := 8) (v := .int .i64 lk) (some 43) (by kernel_rfl) (by kernel_rfl) (by kernel_rfl) (by kernel_rfl) (by kernel_rfl) (fun _ _ _ h => h) (fun o ho W hSw => ?y8) (by assumption) ?_
      case y8 =>
        cases ho
        simp [execOp, go_sem, Act.eval, hSw]
      simp only [Act.put, List.setIfInBounds_toArray, List.set_cons_zero, List.set_cons_succ]
      refine hStore (i := 9) (w' := w3) (by kernel_rfl) (by kernel_rfl) (by kernel_rfl) (fun o ho => ?y9) hS3 ?_
      case y9 =>
        cases ho
        simp [execOp, go_sem, Act.eval, hput]
      refine wpAnyH_done (by kernel_rfl) ?_ _
      clear hHeld hput hS3
      change Exit.then _ _ _ _ _
      go_wp2_with fail
      go_ret
      exact ⟨true, N + 1, setM mk a lk, rfl, (below_toKeep HB3.out _ _).trans (Keep.of_grown HG.out (fun k e => by cases e; omega)), HF.out, .inl ⟨rfl, HNL.out, HML.out, rfl, rfl⟩⟩
theorem shp_at {xs : List Cel} (h : Shp xs) {a : Nat} (ha : a < xs.length) (h3 : kndA xs a ≠ 3) : WdC xs (xs.getD a Cel.none) := by
  refine ⟨?_, fun k => h.refs a ha k, fun k => h.stru a ha k⟩
  have := h.knds a ha
  unfold kndA at this h3
  omega
def mkB (mk : Nat → Nat) (lk : Nat) : Nat → Nat := fun i => if mk i = lk then 1 else 0
theorem mkB_set (mk : Nat → Nat) (a lk : Nat) : mkB (setM mk a lk) lk = setM (mkB mk lk) a 1 := by
  funext i
  unfold mkB setM
  by_cases e : i = a <;> simp [e]
/-- An address that is not a, and was gone through or leads nowhere. -/
def OkY (xs : List Cel) (goal lk : Nat) (mk : Nat → Nat) (y : Nat) : Prop := y ≠ goal ∧ (mk y = lk ∨ ∀ z, ¬ Beh xs (xs.getD y Cel.none) z)
theorem OkY.on {xs : List Cel} {goal lk y : Nat} {mk mk' : Nat → Nat} (h : OkY xs goal lk mk y) (hm : ∀ o, mk' o = mk o ∨ mk' o = lk) : OkY xs goal lk mk' y := by
  refine ⟨h.1, h.2.imp (fun e => ?_) id⟩
  rcases hm y with e' | e'
  · rw [e', e]
  · exact e'
/-- What reaches answers. -/
def RchOut (xs : List Cel) (c : Cel) (goal m lk N : Nat) (mk : Nat → Nat) (w : World) (e : Ending) (w' : World) : Prop :=
  ∃ (r : Bool) (N' : Nat) (mk' : Nat → Nat), e = .returned (.bool r) ∧ Keep m (m + 1) w w' ∧ SMap w' m N' mk' ∧ N' + unk xs.length (mkB mk' lk) ≤ N + unk xs.length (mkB mk lk) ∧ (∀ o, mk' o = mk o ∨ mk' o = lk) ∧
    (r = true → Rch xs goal c) ∧ (r = false → (∀ y, Beh xs c y → OkY xs goal lk mk' y) ∧ ∀ o, mk' o = lk → mk o ≠ lk → ∀ y, Beh xs (xs.getD o Cel.none) y → OkY xs goal lk mk' y)

set_option maxHeartbeats 1000000 in
set_option maxRecDepth 100000 in
theorem reaches_any (h m lk goal : Nat) (xs : List Cel) (tr : List Int) (hs : Shp xs) (hg : goal < xs.length) (hlk : lk ≠ 0) : ∀ (q N : Nat) (mk : Nat → Nat) (c : Cel) (w : World), WdC xs c → unk xs.length (mkB mk lk) < q → N + unk xs.length (mkB mk lk) ≤ 1000000000000 → HeapO w h xs tr m lk → SMap w m N mk →
    Calls Try.prog 104 #[.pointer (some ⟨h, 0, none⟩), wv c, .int .i64 goal] w (RchOut xs c goal m lk N mk w)
  | 0, N, mk, c, w, _, hq, _, _, _ => by omega
  | q + 1, N, mk, c, w, hc, hq, hN, H, hm => by
    have IH : Hid _ := reaches_any h m lk goal xs tr hs hg hlk q
    have HS : Hid (Shp xs) := hs
    have HO : Hid (HeapO w h xs tr m lk) := H
    have HM : Hid (SMap w m N mk) := hm
    have HC : Hid (WdC xs c) := hc
    have HQ : Hid (unk xs.length (mkB mk lk) < q + 1) := hq
    have HN : Hid (N + unk xs.length (mkB mk lk) ≤ 1000000000000) := hN
    have hl := hs.len
    have HBE := behind_any h c xs tr w hs hc.knd (fun k => ⟨(hc.2.1 k).1, (hc.2.1 k).2.1⟩) (fun k => by have := hc.2.2 k; simp only [funB, decide_eq_true_eq]; exact this) H.at
    have HFZ : Hid (∃ f z : Nat, fW c.1 c.2.1 = f ∧ eW xs c.1 c.2.1 = z ∧ z ≤ xs.length ∧ f ≤ z) := by
      show ∃ f z : Nat, _
      unfold fW eW
      by_cases k0 : c.1 = 0
      · obtain ⟨r0, r1, _⟩ := hc.2.1 k0
        rw [if_pos k0, if_pos k0]
        exact ⟨c.2.1.toNat, c.2.1.toNat + 1, by omega, by omega, by omega, by omega⟩
      · by_cases k4 : c.1 = 4
        · obtain ⟨r0, r1, r2⟩ := hc.2.2 k4
          obtain ⟨f1, f2, f3⟩ := hs.funs _ (by omega) r2
          have f4 := (f3 (numA xs c.2.1.toNat).toNat (by omega) (by omega)).1
          rw [if_neg k0, if_neg k0, if_pos k4, if_pos k4]
          exact ⟨c.2.1.toNat + 1, c.2.1.toNat + 1 + (numA xs c.2.1.toNat).toNat, by omega, by omega, by omega, by omega⟩
        · rw [if_neg k0, if_neg k0, if_neg k4, if_neg k4]
          exact ⟨0, 0, rfl, rfl, by omega, by omega⟩
    obtain ⟨f, z, ef, ez, hzl, hfz⟩ := HFZ.out
    rw [ef, ez] at HBE
    have HBH : Hid (∀ y : Nat, Beh xs c y ↔ (f ≤ y ∧ y < z)) := fun y => by unfold Beh; rw [ef, ez]; omega
    generalize wv c = v at HBE ⊢
    clear hs hc hq hN H hm HFZ ef ez
    go_enter Try.func104, Try.ntmps104
    go_wp2_with fail
    refine HBE.mono ?_
    rintro e w1 ⟨rfl, hb⟩
    have HB1 : Hid (Keep m (m + 1) w w1) := below_toKeep hb _ _
    have HM1 : Hid (SMap w1 m N mk) := HM.out.below hb
    clear hb HBE
    go_wp2_with fail
    go_loopw [9] (fun i wr => ∃ (k N' : Nat) (mk' : Nat → Nat), f ≤ k ∧ k ≤ z ∧ i = .int .i64 k ∧ Hid (Keep m (m + 1) w wr) ∧ Hid (SMap wr m N' mk') ∧ Hid (N' + unk xs.length (mkB mk' lk) ≤ N + unk xs.length (mkB mk lk)) ∧ Hid (∀ o, mk' o = mk o ∨ mk' o = lk) ∧
      Hid (∀ y, f ≤ y → y < k → OkY xs goal lk mk' y) ∧ Hid (∀ o, mk' o = lk → mk o ≠ lk → ∀ y, Beh xs (xs.getD o Cel.none) y → OkY xs goal lk mk' y)) (fun i _ => z - (intOf i).toNat)
    case atStart => exact ⟨f, N, mk, Nat.le_refl _, hfz, rfl, HB1.out, HM1.out, Nat.le_refl _, fun o => .inl rfl, fun y h1 h2 => by omega, fun o h1 h2 => absurd h1 h2⟩
    case round =>
      obtain ⟨k, N', mk', hk1, hk2, rfl, HK, HMr, HNr, HC1, HC2, HC3⟩ := hrel
      clear HB1 HM1
      by_cases hlt : k < z
      · have HBk : Hid (Beh xs c k) := (HBH.out k).2 ⟨hk1, hlt⟩
        obtain ⟨hkl, hk3⟩ := beh_word HS.out HC.out HBk.out
        have HWK : Hid (WdC xs (xs.getD k Cel.none)) := shp_at HS.out hkl hk3
        clear hk3
        by_cases hkg : k = goal
        · have HKG : Hid (Rch xs goal c) := by show Rch xs goal c; rw [← hkg]; exact .here HBk.out
          have hkg' : ((k : Int) == (goal : Int)) = true := by simp; omega
          clear hkg IH
          go_wp2_with fail
          go_ret
          exact ⟨true, N', mk', rfl, HK.out, HMr.out, HNr.out, HC1.out, fun _ => HKG.out, fun h => by cases h⟩
        · have hkg' : ((k : Int) == (goal : Int)) = false := by simp; omega
          have HNG : Hid (k ≠ goal) := hkg
          have HE := enters_any h k m lk N' xs tr mk' wr HS.out hkl (by have := HNr.out; have := HN.out; omega) (HO.out.keep HK.out) HMr.out
          clear hkg
          go_wp2_with fail
          refine HE.mono ?_
          rintro e w4 ⟨r, N2, mk2, rfl, hk4, hm4, hcase⟩
          have HK4 : Hid (Keep m (m + 1) w w4) := HK.out.trans hk4
          have HO4 : Hid (HeapO w4 h xs tr m lk) := HO.out.keep HK4.out
          have HM4 : Hid (SMap w4 m N2 mk2) := hm4
          clear HE hk4 hm4
          rcases hcase with ⟨rfl, hkn, hne, rfl, rfl⟩ | ⟨rfl, rfl, rfl, hno⟩
          · have HNE : Hid (mk' k ≠ lk) := hne
            have HU : Hid (unk xs.length (mkB (setM mk' k lk) lk) < unk xs.length (mkB mk' lk)) := by
              show _ < _
              rw [mkB_set]
              exact unk_lt hkl (by simp [mkB, hne]) (by decide)
            obtain ⟨pw, cw, pt, ct, hblk, h1, _, _⟩ := HO4.out
            obtain ⟨g, cap, hv0, _, _⟩ := h1.form (by omega)
            simp only [Value.slice.injEq, true_and] at hv0
            obtain ⟨rfl, rfl⟩ := hv0
            have c0 : w4.cell? ⟨h, 0, none⟩ = some (.slice (some ⟨g, 0, none⟩) xs.length cw) := by simp [World.cell?, hblk]
            have hv : w4.cell? ⟨g, k, none⟩ = some (wv (xs.getD k Cel.none)) := by rw [h1.cellAt k (by omega)]; simp [List.getD, hkl]
            have HLE : Hid (unk xs.length (mkB mk' lk) ≤ unk xs.length (mkB mk lk)) := unk_le (fun o ho => by
              unfold mkB at ho ⊢
              rcases HC1.out o with e | e
              · rw [e]; exact ho
              · simp [e])
            have hu1 : unk xs.length (mkB (setM mk' k lk) lk) < q := by have := HU.out; have := HLE.out; have := HQ.out; omega
            have hu2 : N' + 1 + unk xs.length (mkB (setM mk' k lk) lk) ≤ 1000000000000 := by have := HU.out; have := HNr.out; have := HN.out; omega
            have HIH := IH.out (N' + 1) (setM mk' k lk) (xs.getD k Cel.none) w4 HWK.out hu1 hu2 HO4.out HM4.out
            clear hu1 hu2
            generalize wv (xs.getD k Cel.none) = vk at hv HIH
            clear hne hkn hblk h1 IH
            go_wp2_with fail
            refine HIH.mono ?_
            rintro e w5 ⟨r, N3, mk3, rfl, hk5, hm5, hn5, ho5, hr1, hr0⟩
            have HK5 : Hid (Keep m (m + 1) w w5) := HK4.out.trans hk5
            have HM5 : Hid (SMap w5 m N3 mk3) := hm5
            have HN5 : Hid (N3 + unk xs.length (mkB mk3 lk) ≤ N + unk xs.length (mkB mk lk)) := by show _ ≤ _; have := HU.out; have := HNr.out; omega
            have HO5 : Hid (∀ o, mk3 o = setM mk' k lk o ∨ mk3 o = lk) := ho5
            have HO6 : Hid (∀ o, mk3 o = mk' o ∨ mk3 o = lk) := fun o => by
              rcases ho5 o with e | e
              · unfold setM at e
                by_cases ok : o = k
                · rw [if_pos ok] at e; exact .inr e
                · rw [if_neg ok] at e; exact .inl e
              · exact .inr e
            have HO7 : Hid (∀ o, mk3 o = mk o ∨ mk3 o = lk) := fun o => by
              rcases HO6.out o with e | e
              · rcases HC1.out o with e' | e'
                · exact .inl (e.trans e')
                · exact .inr (e.trans e')
              · exact .inr e
            clear hk5 hm5 hn5 ho5 HIH c0 hv
            cases r
            · have H0 : Hid _ := hr0 rfl
              clear hr0 hr1
              go_wp2_with fail
              go_roundw
              case rel =>
                obtain ⟨a1, a2⟩ := H0.out
                have hkm : mk3 k = lk := by
                  rcases HO5.out k with e | e
                  · rw [e]; simp [setM]
                  · exact e
                refine ⟨k + 1, N3, mk3, by omega, by omega, by go_num, HK5.out, HM5.out, HN5.out, HO7.out, fun y h1 h2 => ?_, fun o h1 h2 => ?_⟩
                · rcases Nat.lt_or_eq_of_le (Nat.lt_succ_iff.1 h2) with h2 | rfl
                  · exact (HC2.out y h1 h2).on HO6.out
                  · exact ⟨HNG.out, .inl hkm⟩
                · by_cases ok : o = k
                  · subst ok; exact a1
                  · by_cases om : mk' o = lk
                    · exact fun y hy => (HC3.out o om h2 y hy).on HO6.out
                    · exact a2 o h1 (by unfold setM; rw [if_neg ok]; exact om)
              case measure => simp [intOf]; omega
            · have H1 : Hid _ := hr1 rfl
              clear hr0 hr1
              go_wp2_with fail
              go_ret
              exact ⟨true, N3, mk3, rfl, HK5.out, HM5.out, HN5.out, HO7.out, fun _ => .on HBk.out H1.out, fun h => by cases h⟩
          · have HNO : Hid (OkY xs goal lk mk2 k) := by
              refine ⟨HNG.out, ?_⟩
              rcases hno with hn | hn
              · exact .inr fun z => beh_no hn.1 hn.2
              · exact .inl hn
            clear hno IH
            go_wp2_with fail
            go_roundw
            case rel =>
              refine ⟨k + 1, N2, mk2, by omega, by omega, by go_num, HK4.out, HM4.out, HNr.out, HC1.out, fun y h1 h2 => ?_, HC3.out⟩
              rcases Nat.lt_or_eq_of_le (Nat.lt_succ_iff.1 h2) with h2 | rfl
              · exact HC2.out y h1 h2
              · exact HNO.out
            case measure => simp [intOf]; omega
      · obtain rfl : k = z := by omega
        clear IH
        go_wp2_with fail
        go_ret
        exact ⟨false, N', mk', rfl, HK.out, HMr.out, HNr.out, HC1.out, fun h => (by cases h), fun _ => ⟨fun y hy => HC2.out y ((HBH.out y).1 hy).1 ((HBH.out y).1 hy).2, HC3.out⟩⟩

end Go.Proofs.Ytedkkghekboahaa

