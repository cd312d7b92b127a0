/- AddOp of the program. Own work of the verifier. -/
import Derived.Test.YtielpjdgpgblfaaOpsM5
namespace Go.Proofs.Ytielpjdgpgblfaa
open Go Go.RowKit Go.Maps
set_option linter.unusedVariables false

/-- Arguments that are let. -/
def argB (cs : List Cel) (k n : Int) (m : Nat) : Bool := tabB cs && (decide (1 ≤ m ∧ m ≤ 100) && (decide (0 ≤ k ∧ k ≤ 1200) && decide (0 ≤ n ∧ n ≤ 6)))
def addR (cs : List Cel) (k n : Int) (xs : List Int) : List Cel × Int :=
  if argB cs k n xs.length = false then ([], 1)
  else if ((strOfNums xs).toList == [44] || resB (strOfNums xs)) = true then ([], 4)
  else if addCode cs (k, n, xs) ≠ 0 then ([], addCode cs (k, n, xs)) else (putO cs (k, n, xs), 0)

theorem tab_chain {cs : List Cel} (h : tabB cs = true) : cs.length ≤ 200 ∧ chainO none cs = true ∧ cs.any comC = true := by
  simp only [tabB, Bool.and_eq_true, decide_eq_true_eq] at h
  exact ⟨h.1, h.2.1, h.2.2⟩
theorem chain_ok : ∀ (cs : List Cel) (a : Option Cel), chainO a cs = true → ∀ c ∈ cs, okC c = true
  | [], _, _, c, hc => by cases hc
  | x :: r, a, h, c, hc => by
    simp only [chainO, Bool.and_eq_true] at h
    rcases List.mem_cons.1 hc with rfl | hc
    · exact h.1.1
    · exact (chainO_all r x h.2 c hc).2
theorem okC_len {c : Cel} (h : okC c = true) : c.2.2.length ≤ 100 := by
  simp only [okC, okB, Bool.and_eq_true, decide_eq_true_eq] at h
  exact h.1.2
theorem asc_apart {cs : List Cel} (h : Asc cs) : Apart cs := List.Pairwise.imp (fun h => ltO_key h) h
theorem addT_mem {cs : List Cel} {o : Cel} (h : addCode cs o = 0) (hA : Asc cs) : ∀ x, x ∈ addT cs o ↔ x ∈ putO cs o := fun x => by
  rw [addT, if_neg (by rw [h]; simp), putO]
  by_cases hp : o.1 = 0
  · rw [if_pos hp, hp, show ((0 : Int) == 0) = true from rfl, putL_done]; rfl
  · have : (o.1 == 0) = false := by simpa using hp
    rw [if_neg hp, this, putL_mem]
    simp only [List.mem_append, mem_dropK, List.mem_singleton]
    constructor
    · rintro (h | h)
      · exact .inr h
      · exact .inl h
    · rintro (h | h)
      · exact .inr h
      · exact .inl h
theorem putO_asc {cs : List Cel} {o : Cel} (hA : Asc cs) : Asc (putO cs o) := by
  rw [putO]
  cases h : (o.1 == 0) with
  | true => rw [putL_done]; exact hA.filter _
  | false => exact putL_asc o cs hA
/-- A comma stays. -/
theorem addT_pos {cs : List Cel} {o : Cel} (h : cs.any comC = true) (ho : comC o = false) (hc : addCode cs o = 0) : 0 < (addT cs o).length := by
  obtain ⟨c, hc1, hc2⟩ := List.any_eq_true.1 h
  have hk : keyC c ≠ keyC o := fun e => by
    have h1 : (strOfNums c.2.2).toList = (strOfNums o.2.2).toList := (Prod.mk.inj e).1
    simp only [comC, beq_iff_eq] at hc2
    rw [comC, ← h1, hc2] at ho
    simp at ho
  have hm : c ∈ addT cs o := by
    rw [addT, if_neg (by rw [hc]; simp)]
    split
    · exact mem_dropK.2 ⟨hc1, hk⟩
    · exact List.mem_append_left _ (mem_dropK.2 ⟨hc1, hk⟩)
  exact List.length_pos_of_mem hm

def AddE (w : World) (r : List Cel × Int) (e : Ending) (w' : World) : Prop := ∃ p n c, e = .returned (.tuple #[.slice p n c, .int .i64 r.2]) ∧ OwnO w' w.heap.size p n c r.1 ∧ Below w.heap.size w w'
theorem AddE.code {w w' : World} {r : List Cel × Int} {k : Int} (h : r = ([], k)) (hb : Below w.heap.size w w') : AddE w r (.returned (.tuple #[.slice none 0 0, .int .i64 k])) w' := ⟨none, 0, 0, by rw [h], by rw [h]; exact OwnO.nil _ _, hb⟩

set_option maxRecDepth 100000 in
set_option maxHeartbeats 2000000 in
theorem implAdd_any (p : Option Addr) (c : Nat) (cs : List Cel) (k n : Int) (q : Option Addr) (cq : Nat) (xs : List Int) (w : World) (hn : cs.length + tl cs ≤ 1000000000) (hin : OIn w p cs) (hby : ∀ x ∈ cs, Byte x.2.2) (hxs : Byte xs) (hxl : xs.length ≤ 1000000000) (hx : BIn w q xs) :
    Calls Try.prog 12 #[.slice p cs.length c, .int .i64 k, .int .i64 n, .slice q xs.length cq] w (AddE w (addR cs k n xs)) := by
  have HV := implTab_any p c cs w hn hin
  have HIN : Hid (OIn w p cs) := hin
  have HX : Hid (BIn w q xs) := hx
  have HBY : Hid (∀ x ∈ cs, Byte x.2.2) := hby
  have HXS : Hid (Byte xs) := hxs
  have HNM : Hid (∀ W, Calls Try.prog 29 #[.slice q xs.length cq] W fun e w' => e = .returned (.bool (decide (1 ≤ xs.length ∧ xs.length ≤ 100))) ∧ w' = W) := fun W => isOpName_any q xs.length cq W hxl
  have HTY : Hid (∀ W, Calls Try.prog 30 #[.int .i64 n] W fun e w' => e = .returned (.bool (decide (0 ≤ n ∧ n ≤ 6))) ∧ w' = W) := fun W => isOpType_any n W
  have HCV : Hid (∀ W, Below w.heap.size w W → (convert 29 9 (.slice q xs.length cq)).run Try.prog W = .ok (.string (strOfNums xs)) W) := fun W hB => conv_str (hx.below hB) xs.length cq rfl 9 Try.underlying9
  have HRS : Hid (∀ W, Calls Try.prog 31 #[.string (strOfNums xs)] W fun e w' => e = .returned (.bool (resB (strOfNums xs))) ∧ w' = W) := fun W => isReserved_any (strOfNums xs) W
  have HB1 : Hid (argB cs k n xs.length = (tabB cs && (decide (1 ≤ xs.length ∧ xs.length ≤ 100) && (decide (0 ≤ k ∧ k ≤ 1200) && decide (0 ≤ n ∧ n ≤ 6))))) := rfl
  have BAD : Hid (∀ W, argB cs k n xs.length = false → Below w.heap.size w W → AddE w (addR cs k n xs) (.returned (.tuple #[.slice none 0 0, .int .i64 1])) W) := fun W h hb => AddE.code (by rw [addR, if_pos h]) hb
  have HTB : Hid (tabB cs = tabB cs) := rfl
  obtain ⟨l, el⟩ : ∃ l, l = xs.length := ⟨_, rfl⟩
  rw [← el] at HNM HCV HB1 BAD ⊢
  have HL : Hid (l = xs.length) := el
  clear hin hx hby hxs el
  cases g1 : tabB cs with
  | false =>
    rw [g1] at HV HB1
    clear g1
    go_enter Try.func12, Try.ntmps12
    go_wp2_with (first | (go_at_call 8; refine HV.mono ?_; rintro e w1 ⟨rfl, hb1⟩))
    go_ret2
    exact BAD.out _ (by rw [HB1.out]; rfl) hb1
  | true =>
    rw [g1] at HV HB1
    have G1 : Hid _ := g1
    clear g1
    cases g2 : decide (1 ≤ l ∧ l ≤ 100) with
    | false =>
      rw [g2] at HNM HB1
      clear g2
      go_enter Try.func12, Try.ntmps12
      go_wp2_with (first | (go_at_call 8; refine HV.mono ?_; rintro e w1 ⟨rfl, hb1⟩) | (go_at_call 29; refine (HNM.out _).mono ?_; rintro e w2 ⟨rfl, rfl⟩))
      go_ret2
      exact BAD.out _ (by rw [HB1.out]; rfl) hb1
    | true =>
      rw [g2] at HNM HB1
      have G2 : Hid (1 ≤ l ∧ l ≤ 100) := by show _ ∧ _; exact of_decide_eq_true g2
      clear g2
      by_cases g3 : k < 0
      · have g3' : decide (0 ≤ k ∧ k ≤ 1200) = false := by simp; omega
        have HBB : Hid (argB cs k n l = false) := by show _ = _; rw [HB1.out, g3']; rfl
        clear g3'
        go_enter Try.func12, Try.ntmps12
        go_wp2_with (first | (go_at_call 8; refine HV.mono ?_; rintro e w1 ⟨rfl, hb1⟩) | (go_at_call 29; refine (HNM.out _).mono ?_; rintro e w2 ⟨rfl, rfl⟩))
        go_ret2
        exact BAD.out _ HBB.out hb1
      by_cases g4 : 1200 < k
      · have g4' : decide (0 ≤ k ∧ k ≤ 1200) = false := by simp; omega
        have HBB : Hid (argB cs k n l = false) := by show _ = _; rw [HB1.out, g4']; rfl
        clear g4'
        go_enter Try.func12, Try.ntmps12
        go_wp2_with (first | (go_at_call 8; refine HV.mono ?_; rintro e w1 ⟨rfl, hb1⟩) | (go_at_call 29; refine (HNM.out _).mono ?_; rintro e w2 ⟨rfl, rfl⟩))
        go_ret2
        exact BAD.out _ HBB.out hb1
      have g4' : decide (0 ≤ k ∧ k ≤ 1200) = true := by simp; omega
      rw [g4'] at HB1
      clear g4'
      cases g5 : decide (0 ≤ n ∧ n ≤ 6) with
      | false =>
        rw [g5] at HTY HB1
        clear g5
        go_enter Try.func12, Try.ntmps12
        go_wp2_with (first | (go_at_call 8; refine HV.mono ?_; rintro e w1 ⟨rfl, hb1⟩) | (go_at_call 29; refine (HNM.out _).mono ?_; rintro e w2 ⟨rfl, rfl⟩) | (go_at_call 30; refine (HTY.out _).mono ?_; rintro e w3 ⟨rfl, rfl⟩))
        go_ret2
        exact BAD.out _ (by rw [HB1.out]; rfl) hb1
      | true =>
        rw [g5] at HTY HB1
        clear g5
        have HARG : Hid (argB cs k n xs.length = true) := by show _ = _; rw [← HL.out, HB1.out]; rfl
        obtain ⟨s, es⟩ : ∃ s, s = strOfNums xs := ⟨_, rfl⟩
        have FAIL : Hid (∀ W, (s.toList == [44] || resB s) = true → Below w.heap.size w W → AddE w (addR cs k n xs) (.returned (.tuple #[.slice none 0 0, .int .i64 4])) W) := fun W h hb => AddE.code (by rw [addR, if_neg (by rw [HARG.out]; simp), ← es, if_pos h]) hb
        rw [← es] at HCV HRS
        have HES : Hid (s = strOfNums xs) := es
        clear es BAD HB1
        cases g6 : (s.toList == [44]) with
        | true =>
          have HFB : Hid (∀ W, Below w.heap.size w W → AddE w (addR cs k n xs) (.returned (.tuple #[.slice none 0 0, .int .i64 4])) W) := fun W hb => FAIL.out W (by rw [g6]; rfl) hb
          clear FAIL
          go_enter Try.func12, Try.ntmps12
          go_wp2_with (first | (go_at_call 8; refine HV.mono ?_; rintro e w1 ⟨rfl, hb1⟩; have cv := HCV.out w1 hb1) | (go_at_call 29; refine (HNM.out _).mono ?_; rintro e w2 ⟨rfl, rfl⟩) | (go_at_call 30; refine (HTY.out _).mono ?_; rintro e w3 ⟨rfl, rfl⟩))
          go_ret2
          exact HFB.out _ hb1
        | false =>
          cases g7 : resB s with
          | true =>
            rw [g7] at HRS
            have HFB : Hid (∀ W, Below w.heap.size w W → AddE w (addR cs k n xs) (.returned (.tuple #[.slice none 0 0, .int .i64 4])) W) := fun W hb => FAIL.out W (by rw [g7]; simp) hb
            clear FAIL g7
            go_enter Try.func12, Try.ntmps12
            go_wp2_with (first | (go_at_call 8; refine HV.mono ?_; rintro e w1 ⟨rfl, hb1⟩; have cv := HCV.out w1 hb1) | (go_at_call 29; refine (HNM.out _).mono ?_; rintro e w2 ⟨rfl, rfl⟩) | (go_at_call 30; refine (HTY.out _).mono ?_; rintro e w3 ⟨rfl, rfl⟩) | (go_at_call 31; refine (HRS.out _).mono ?_; rintro e w4 ⟨rfl, rfl⟩))
            go_ret2
            exact HFB.out _ hb1
          | false =>
            rw [g7] at HRS
            obtain ⟨hlen, hch, hany⟩ := tab_chain G1.out
            have hasc := chain_asc cs none hch
            have hokT : ∀ x ∈ cs, okT x := fun x hx => ⟨HBY.out x hx, by have := okC_len (chain_ok cs none hch x hx); omega⟩
            have hoT : okT (k, n, xs) := ⟨HXS.out, by have := G2.out; have := HL.out; show xs.length ≤ _; omega⟩
            have hcom : comC (k, n, xs) = false := by show ((strOfNums xs).toList == [44]) = false; rw [← HES.out]; exact g6
            have HTO : Hid (∀ W, Below w.heap.size w W → Calls Try.prog 32 #[.slice p cs.length c] W fun e w' => e = .returned (.map (some W.heap.size)) ∧ OpMap w' W.heap.size cs.length cs ∧ Below W.heap.size W w') := fun W hB => tableOf_any p c cs W (by omega) hokT (asc_apart hasc) (HIN.out.below hB)
            have HAD : Hid (∀ (W : World) (b : Nat), OpMap W b cs.length cs → Calls Try.prog 33 #[.map (some b), .agg #[.string s, .int .i64 k, .int .i64 n]] W (AddOut W b b cs.length cs (k, n, xs))) := fun W b hm => add_any b cs.length b cs k n xs s W HES.out hm hoT (by omega) (Nat.le_refl _) (by omega)
            have HOP : Hid (∀ (W : World) (b N : Nat), addCode cs (k, n, xs) = 0 → OpMap W b N (addT cs (k, n, xs)) → Calls Try.prog 34 #[.map (some b)] W (OpsOut W (addT cs (k, n, xs)))) := fun W b N hc hm => ops_any b N _ W hm (by
              have h1 : (addT cs (k, n, xs)).length ≤ cs.length + 1 := by
                rw [addT, if_neg (by rw [hc]; simp)]
                have h2 : (dropK cs (keyC (k, n, xs))).length ≤ cs.length := List.length_filter_le _ _
                split
                · omega
                · simp; omega
              omega) (addT_pos hany hcom hc)
            have HRES : Hid (addR cs k n xs = if addCode cs (k, n, xs) ≠ 0 then ([], addCode cs (k, n, xs)) else (putO cs (k, n, xs), 0)) := by
              show _ = _
              rw [addR, if_neg (by rw [HARG.out]; simp), ← HES.out, if_neg (by rw [g6, g7]; simp)]
            have HUNI : Hid (addCode cs (k, n, xs) = 0 → ∀ ds, Asc ds → (∀ x, x ∈ ds ↔ x ∈ addT cs (k, n, xs)) → ds = putO cs (k, n, xs)) := fun hc ds h1 h2 => asc_unique _ _ h1 (putO_asc hasc) (fun x => (h2 x).trans (addT_mem hc hasc x))
            clear FAIL g7 hlen hch hany hasc hokT hoT hcom HBY HXS G2 HARG HIN HES
            go_enter Try.func12, Try.ntmps12
            go_wp2_with (first | (go_at_call 8; refine HV.mono ?_; rintro e w1 ⟨rfl, hb1⟩; have cv := HCV.out w1 hb1) | (go_at_call 29; refine (HNM.out _).mono ?_; rintro e w2 ⟨rfl, rfl⟩) | (go_at_call 30; refine (HTY.out _).mono ?_; rintro e w3 ⟨rfl, rfl⟩) | (go_at_call 31; refine (HRS.out _).mono ?_; rintro e w4 ⟨rfl, rfl⟩))
            refine (HTO.out _ hb1).mono ?_
            rintro e w5 ⟨rfl, hm5, hb5⟩
            have HB5 : Hid (Below w.heap.size w w5) := Below.on hb1 hb5
            have cv5 := HCV.out w5 HB5.out
            have HA5 := HAD.out w5 _ hm5
            have HSZ : Hid (w.heap.size ≤ _) := hb1.size
            clear hm5 hb5 hb1 cv HTO HAD
            go_wp2_with fail
            refine HA5.mono ?_
            rintro e w6 ⟨rfl, ⟨N6, _, hm6⟩, hb6⟩
            have HB6 : Hid (Below w.heap.size w w6) := HB5.out.trans (hb6.mono HSZ.out)
            clear hb6 cv5 HA5
            by_cases hc : addCode cs (k, n, xs) = 0
            · have HO6 := HOP.out w6 _ N6 hc hm6
              have HR : Hid (addR cs k n xs = (putO cs (k, n, xs), 0)) := by show _ = _; rw [HRES.out, if_neg (by rw [hc]; simp)]
              have HUN : Hid (∀ ds, Asc ds → (∀ x, x ∈ ds ↔ x ∈ addT cs (k, n, xs)) → ds = putO cs (k, n, xs)) := HUNI.out hc
              rw [hc]
              clear hm6 HOP HRES HUNI hc
              go_wp2_with fail
              refine HO6.mono ?_
              rintro e w7 ⟨p7, n7, c7, ds, rfl, hown7, hasc7, hmem7, hb7⟩
              have HF : Hid (AddE w (addR cs k n xs) (.returned (.tuple #[.slice p7 n7 c7, .int .i64 0])) w7) := ⟨p7, n7, c7, by rw [HR.out], by rw [HR.out]; rw [HUN.out ds hasc7 hmem7] at hown7; exact hown7.mono HB6.out.size, Below.on HB6.out hb7⟩
              clear hown7 hasc7 hmem7 hb7 HO6
              go_wp2_with fail
              go_ret2
              exact HF.out
            · have HF : Hid (AddE w (addR cs k n xs) (.returned (.tuple #[.slice none 0 0, .int .i64 (addCode cs (k, n, xs))])) w6) := AddE.code (by rw [HRES.out, if_pos hc]) HB6.out
              obtain ⟨ac, eac⟩ : ∃ a, a = addCode cs (k, n, xs) := ⟨_, rfl⟩
              rw [← eac] at HF hc ⊢
              have hc' : (ac != 0) = true := by simpa using hc
              clear hm6 HOP HRES HUNI eac
              go_wp2_with fail
              go_ret2
              exact HF.out

end Go.Proofs.Ytielpjdgpgblfaa
