/- AddOp of the specification. Own work of the verifier. -/
import Derived.Test.YtbfhpnacoigfkaaDoorOpsS2
import Derived.Test.YtbfhpnacoigfkaaDoorOpsCp
import Derived.Test.YtbfhpnacoigfkaaDoorOpsI
import Derived.Test.YtbfhpnacoigfkaaDoorOpsV5
namespace Go.Proofs.YtbfhpnacoigfkaaDoor
open Go Go.RowKit
set_option linter.unusedVariables false

theorem fIdx_spec (s : List UInt8) (pf : Bool) : ∀ (cs : List Cel) (k : Nat), (fIdx s pf k cs = -1 ∧ ∀ x ∈ cs, hitB s pf x = false) ∨ ∃ i, i < cs.length ∧ fIdx s pf k cs = (k : Int) + i ∧ hitB s pf (cs.getD i Cel.none) = true
  | [], k => .inl ⟨rfl, fun x h => by cases h⟩
  | x :: r, k => by
    rw [fIdx]
    cases h : hitB s pf x with
    | true => exact .inr ⟨0, by simp, by simp, by simpa using h⟩
    | false =>
      rcases fIdx_spec s pf r (k + 1) with ⟨h1, h2⟩ | ⟨i, h1, h2, h3⟩
      · left
        refine ⟨by simpa using h1, fun y hy => ?_⟩
        rcases List.mem_cons.1 hy with rfl | hy
        · exact h
        · exact h2 y hy
      · right
        refine ⟨i + 1, by simpa using h1, ?_, by simpa using h3⟩
        simp only [Bool.false_eq_true, if_false]
        rw [h2]; push_cast; omega
theorem hit_key {s : ByteArray} {x o : Cel} (hs : s = strOfNums o.2.2) (ho : preB o.2.1 = false) : hitB s.toList false x = true ↔ keyC x = keyC o := by
  rw [key_iff, hitB, Bool.and_eq_true, beq_iff_eq, beq_iff_eq, hs, ho]
theorem not_pre {t : Int} (h0 : 0 ≤ t) (h6 : t ≤ 6) (h : preB t = false) : decide (t ≤ 2) = !postB t := by
  have h3 : ¬ t = 3 := fun e => by rw [e] at h; cases h
  have h4 : ¬ t = 4 := fun e => by rw [e] at h; cases h
  rw [Bool.eq_iff_iff]
  simp [postB]
  omega
theorem pre_not_post {t : Int} (h : preB t = true) : postB t = false := by
  simp only [preB, Bool.or_eq_true, beq_iff_eq] at h
  rcases h with rfl | rfl <;> rfl
theorem okC_typ {c : Cel} (h : okC c = true) : 0 ≤ c.2.1 ∧ c.2.1 ≤ 6 := by
  simp only [okC, okB, Bool.and_eq_true, decide_eq_true_eq] at h
  exact h.2.1
theorem find_of {cs : List Cel} (hA : Asc cs) {x : Cel} (hx : x ∈ cs) {k : List UInt8 × Int} (hk : keyC x = k) : findK cs k = some x := by
  cases h : findK cs k with
  | none =>
    have := List.find?_eq_none.1 h x hx
    simp [hk] at this
  | some y =>
    obtain ⟨h1, h2⟩ := findK_some h
    rw [asc_keys hA y h1 x hx (h2.trans hk.symm)]
theorem none_of {cs : List Cel} {k : List UInt8 × Int} (h : ∀ x ∈ cs, keyC x ≠ k) : findK cs k = none := List.find?_eq_none.2 (fun x hx => by simpa using h x hx)
theorem putO_len {cs : List Cel} {o : Cel} (hA : Asc cs) (hl : cs.length ≤ 200) : 200 < (putO cs o).length ↔ (o.1 ≠ 0 ∧ findK cs (keyC o) = none ∧ cs.length = 200) := by
  rw [putO]
  by_cases h : o.1 = 0
  · rw [h, show ((0 : Int) == 0) = true from rfl, putL_done]
    have := List.length_filter_le (fun x => decide (keyC x ≠ keyC o)) cs
    constructor
    · intro h1; omega
    · rintro ⟨h1, _⟩; exact absurd rfl h1
  · have h' : (o.1 == 0) = false := by simpa using h
    rw [h', putL_len o cs hA]
    cases hf : findK cs (keyC o) with
    | none =>
      rw [findK_none hf]
      simp [h]; omega
    | some x =>
      obtain ⟨h1, h2⟩ := findK_some hf
      have : hasK cs (keyC o) = true := by rw [hasK, List.any_eq_true]; exact ⟨x, h1, by simp [h2]⟩
      rw [this]
      simp; omega
/-- What the code is where the fault of two types is not told. -/
theorem code_rest {cs : List Cel} {o : Cel} (hA : Asc cs) (hl : cs.length ≤ 200) (h : ∀ x, findK cs (keyC o) = some x → postB x.2.1 = postB o.2.1) : addCode cs o = if 200 < (putO cs o).length then 3 else 0 := by
  have hp := putO_len (o := o) hA hl
  rw [addCode]
  cases hf : findK cs (keyC o) with
  | some x =>
    have hn : ¬ 200 < (putO cs o).length := fun h1 => by have := hp.1 h1; rw [hf] at this; cases this.2.1
    rw [if_neg hn]
    simp [h x hf]
  | none =>
    by_cases h0 : o.1 = 0
    · have hn : ¬ 200 < (putO cs o).length := fun h1 => (hp.1 h1).1 h0
      rw [if_neg hn]
      simp [h0]
    · by_cases h2 : cs.length = 200
      · rw [if_pos (hp.2 ⟨h0, hf, h2⟩)]
        simp [h0, h2]
      · rw [if_neg (fun h1 => h2 (hp.1 h1).2.2)]
        simp [h0, h2]

def SpecE (w : World) (r : List Cel × Int) (e : Ending) (w' : World) : Prop := ∃ p n c, e = .returned (.tuple #[.slice p n c, .int .i64 r.2]) ∧ n = r.1.length ∧ OIn w' p r.1 ∧ Below w.heap.size w w'
theorem SpecE.code {w w' : World} {r : List Cel × Int} {k : Int} (h : r = ([], k)) (hb : Below w.heap.size w w') : SpecE w r (.returned (.tuple #[.slice none 0 0, .int .i64 k])) w' := ⟨none, 0, 0, by rw [h], by rw [h]; rfl, by rw [h]; exact fun h => absurd h (Nat.lt_irrefl 0), hb⟩

set_option maxRecDepth 100000 in
set_option maxHeartbeats 6000000 in
theorem specAdd_any (p : Option Addr) (c : Nat) (cs : List Cel) (k n : Int) (q : Option Addr) (cq : Nat) (xs : List Int) (w : World) (hn : cs.length + tl cs ≤ 10000000) (hin : OIn w p cs) (hxl : xs.length ≤ 10000000) (hx : BIn w q xs) :
    Calls Tryd.prog 11 #[.slice p cs.length c, .int .i64 k, .int .i64 n, .slice q xs.length cq] w (SpecE w (addR cs k n xs)) := by
  have HV := specTab_any p c cs w (by omega) hin
  have HIN : Hid (OIn w p cs) := hin
  have HX : Hid (BIn w q xs) := hx
  have HCV : Hid (∀ W, Below w.heap.size w W → (convert 27 9 (.slice q xs.length cq)).run Tryd.prog W = .ok (.string (strOfNums xs)) W) := fun W hB => conv_str (hx.below hB) xs.length cq rfl 9 Tryd.underlying9
  have HRS : Hid (∀ W, Below w.heap.size w W → Calls Tryd.prog 29 #[.slice q xs.length cq] W fun e w' => e = .returned (.bool (resB (strOfNums xs))) ∧ w' = W) := fun W hB => l3special_any q xs.length cq xs W rfl (hx.below hB)
  have HCP : Hid (∀ W, Below w.heap.size w W → Calls Tryd.prog 33 #[.slice p cs.length c] W fun e w' => ∃ q m c2, e = .returned (.slice q m c2) ∧ OwnO w' W.heap.size q m c2 cs ∧ Below W.heap.size W w') := fun W hB => l3copy_any p cs.length c cs W rfl hn (hin.below hB)
  have HC1 : Hid (∀ W, Below w.heap.size w W → Calls Tryd.prog 34 #[.slice q xs.length cq] W fun e w' => ∃ p' n' c', e = .returned (.slice p' n' c') ∧ OwnS w' W.heap.size p' n' c' xs ∧ Below W.heap.size W w') := fun W hB => l1copy_all q xs.length cq xs W rfl hxl (hx.below hB)
  have HB1 : Hid (argB cs k n xs.length = (tabB cs && (decide (1 ≤ xs.length ∧ xs.length ≤ 100) && (decide (0 ≤ k ∧ k ≤ 1200) && decide (0 ≤ n ∧ n ≤ 6))))) := rfl
  have BAD : Hid (∀ W, argB cs k n xs.length = false → Below w.heap.size w W → SpecE w (addR cs k n xs) (.returned (.tuple #[.slice none 0 0, .int .i64 1])) W) := fun W h hb => SpecE.code (by rw [addR, if_pos h]) hb
  obtain ⟨l, el⟩ : ∃ l, l = xs.length := ⟨_, rfl⟩
  rw [← el] at HCV HRS HC1 HB1 BAD hxl ⊢
  have HL : Hid (l = xs.length) := el
  clear hin hx el
  cases g1 : tabB cs with
  | false =>
    rw [g1] at HV HB1
    clear g1
    have HBB : Hid (argB cs k n l = false) := by show _ = _; rw [HB1.out]; rfl
    go_enter Tryd.func11, Tryd.ntmps11
    go_wp2_with (first | (go_at_call 28; refine HV.mono ?_; rintro e w1 ⟨rfl, hb1⟩))
    go_ret2
    exact BAD.out _ HBB.out hb1
  | true =>
    rw [g1] at HV HB1
    have G1 : Hid (tabB cs = true) := g1
    clear g1
    have HFD : Hid (∀ W, Below w.heap.size w W → Calls Tryd.prog 30 #[.slice p cs.length c, .slice q l cq, .bool false] W fun e w' => e = .returned (.int .i64 (fIdx (strOfNums xs).toList false 0 cs)) ∧ ∃ m, w' = W.drewN m) := fun W hB => l3find_any p c cs q l cq xs false W HL.out (by have := (tab_chain G1.out).1; omega) (HIN.out.below hB) (HX.out.below hB)
    by_cases g2 : l < 1
    · have g2' : ((l : Int) < 1) := by omega
      have h9 : decide (1 ≤ l ∧ l ≤ 100) = false := by simp; omega
      rw [h9] at HB1
      clear h9
      have HBB : Hid (argB cs k n l = false) := by show _ = _; rw [HB1.out]; rfl
      go_enter Tryd.func11, Tryd.ntmps11
      go_wp2_with (first | (go_at_call 28; refine HV.mono ?_; rintro e w1 ⟨rfl, hb1⟩))
      go_ret2
      exact BAD.out _ HBB.out hb1
    by_cases g3 : 100 < l
    · have g2' : ¬ ((l : Int) < 1) := by omega
      have g3' : (100 : Int) < (l : Int) := by omega
      have h9 : decide (1 ≤ l ∧ l ≤ 100) = false := by simp; omega
      rw [h9] at HB1
      clear h9
      have HBB : Hid (argB cs k n l = false) := by show _ = _; rw [HB1.out]; rfl
      go_enter Tryd.func11, Tryd.ntmps11
      go_wp2_with (first | (go_at_call 28; refine HV.mono ?_; rintro e w1 ⟨rfl, hb1⟩))
      go_ret2
      exact BAD.out _ HBB.out hb1
    have g2' : ¬ ((l : Int) < 1) := by omega
    have g3' : ¬ (100 : Int) < (l : Int) := by omega
    have h9 : decide (1 ≤ l ∧ l ≤ 100) = true := by simp; omega
    rw [h9] at HB1
    clear h9
    by_cases g4 : k < 0
    · have h9 : decide (0 ≤ k ∧ k ≤ 1200) = false := by simp; omega
      rw [h9] at HB1
      clear h9
      have HBB : Hid (argB cs k n l = false) := by show _ = _; rw [HB1.out]; rfl
      go_enter Tryd.func11, Tryd.ntmps11
      go_wp2_with (first | (go_at_call 28; refine HV.mono ?_; rintro e w1 ⟨rfl, hb1⟩))
      go_ret2
      exact BAD.out _ HBB.out hb1
    by_cases g5 : 1200 < k
    · have h9 : decide (0 ≤ k ∧ k ≤ 1200) = false := by simp; omega
      rw [h9] at HB1
      clear h9
      have HBB : Hid (argB cs k n l = false) := by show _ = _; rw [HB1.out]; rfl
      go_enter Tryd.func11, Tryd.ntmps11
      go_wp2_with (first | (go_at_call 28; refine HV.mono ?_; rintro e w1 ⟨rfl, hb1⟩))
      go_ret2
      exact BAD.out _ HBB.out hb1
    have h9 : decide (0 ≤ k ∧ k ≤ 1200) = true := by simp; omega
    rw [h9] at HB1
    clear h9
    by_cases g6 : n < 0
    · have h9 : decide (0 ≤ n ∧ n ≤ 6) = false := by simp; omega
      rw [h9] at HB1
      clear h9
      have HBB : Hid (argB cs k n l = false) := by show _ = _; rw [HB1.out]; rfl
      go_enter Tryd.func11, Tryd.ntmps11
      go_wp2_with (first | (go_at_call 28; refine HV.mono ?_; rintro e w1 ⟨rfl, hb1⟩))
      go_ret2
      exact BAD.out _ HBB.out hb1
    by_cases g7 : 6 < n
    · have h9 : decide (0 ≤ n ∧ n ≤ 6) = false := by simp; omega
      rw [h9] at HB1
      clear h9
      have HBB : Hid (argB cs k n l = false) := by show _ = _; rw [HB1.out]; rfl
      go_enter Tryd.func11, Tryd.ntmps11
      go_wp2_with (first | (go_at_call 28; refine HV.mono ?_; rintro e w1 ⟨rfl, hb1⟩))
      go_ret2
      exact BAD.out _ HBB.out hb1
    have h9 : decide (0 ≤ n ∧ n ≤ 6) = true := by simp; omega
    rw [h9] at HB1
    clear h9
    have HARG : Hid (argB cs k n xs.length = true) := by show _ = _; rw [← HL.out, HB1.out]; rfl
    obtain ⟨s, es⟩ : ∃ s, s = strOfNums xs := ⟨_, rfl⟩
    have FAIL : Hid (∀ W, (s.toList == [44] || resB s) = true → Below w.heap.size w W → SpecE w (addR cs k n xs) (.returned (.tuple #[.slice none 0 0, .int .i64 4])) W) := fun W h hb => SpecE.code (by rw [addR, if_neg (by rw [HARG.out]; simp), ← es, if_pos h]) hb
    rw [← es] at HCV HRS HFD
    have HES : Hid (s = strOfNums xs) := es
    clear es BAD HB1
    cases g8 : (s.toList == [44]) with
    | true =>
      have HFB : Hid (∀ W, Below w.heap.size w W → SpecE w (addR cs k n xs) (.returned (.tuple #[.slice none 0 0, .int .i64 4])) W) := fun W hb => FAIL.out W (by rw [g8]; rfl) hb
      clear FAIL
      go_enter Tryd.func11, Tryd.ntmps11
      go_wp2_with (first | (go_at_call 28; refine HV.mono ?_; rintro e w1 ⟨rfl, hb1⟩; have cv := HCV.out w1 hb1; have hrs := HRS.out w1 hb1; have hfd := HFD.out w1 hb1))
      go_ret2
      exact HFB.out _ hb1
    | false =>
      cases g9 : resB s with
      | true =>
        rw [g9] at HRS
        have HFB : Hid (∀ W, Below w.heap.size w W → SpecE w (addR cs k n xs) (.returned (.tuple #[.slice none 0 0, .int .i64 4])) W) := fun W hb => FAIL.out W (by rw [g9]; simp) hb
        clear FAIL g9
        go_enter Tryd.func11, Tryd.ntmps11
        go_wp2_with (first | (go_at_call 28; refine HV.mono ?_; rintro e w1 ⟨rfl, hb1⟩; have cv := HCV.out w1 hb1; have hrs := HRS.out w1 hb1; have hfd := HFD.out w1 hb1) | (go_at_call 29; refine hrs.mono ?_; rintro e w2 ⟨rfl, rfl⟩))
        go_ret2
        exact HFB.out _ hb1
      | false =>
        rw [g9] at HRS
        obtain ⟨hlen, hch, hany⟩ := tab_chain G1.out
        have hasc := chain_asc cs none hch
        have HOKC : Hid (∀ x ∈ cs, okC x = true) := chain_ok cs none hch
        have HASC : Hid (Asc cs) := hasc
        have HRES : Hid (addR cs k n xs = if addCode cs (k, n, xs) ≠ 0 then ([], addCode cs (k, n, xs)) else (putO cs (k, n, xs), 0)) := by show _ = _; rw [addR, if_neg (by rw [HARG.out]; simp), ← HES.out, if_neg (by rw [g8, g9]; simp)]
        have HSPEC : Hid _ := fIdx_spec s.toList false cs 0
        have REST : Hid ((∀ x, findK cs (keyC (k, n, xs)) = some x → postB x.2.1 = postB n) → (200 < (putO cs (k, n, xs)).length → addR cs k n xs = ([], 3)) ∧ (¬ 200 < (putO cs (k, n, xs)).length → addR cs k n xs = (putO cs (k, n, xs), 0))) := fun h => by have hc := code_rest (o := (k, n, xs)) HASC.out hlen h; exact ⟨fun h1 => by rw [HRES.out, hc, if_pos h1]; simp, fun h1 => by rw [HRES.out, hc, if_neg h1]; simp⟩
        have HTY : Hid (0 ≤ n ∧ n ≤ 6) := ⟨by omega, by omega⟩
        have HLP : Hid (∀ (W : World) (p1 : Option Addr) (m1 c1 : Nat) (p2 : Option Addr) (m2 c2 : Nat), m1 = cs.length → m2 = xs.length → OIn W p1 cs → BIn W p2 xs → Calls Tryd.prog 16 #[.slice p1 m1 c1, .agg #[.slice p2 m2 c2, .int .i64 k, .int .i64 n]] W (PutOut W (putO cs (k, n, xs)))) := fun W p1 m1 c1 p2 m2 c2 h1 h2 h3 h4 => l3put_any p1 c1 m1 cs k n p2 m2 c2 xs W h1 h2 (by omega) h3 h4
        clear FAIL g9 hch hany hasc HARG hlen
        cases g10 : preB n with
        | true =>
          have HG : Hid (preB n = true) := g10
          obtain ⟨R1, R2⟩ := REST.out (fun x hx => by obtain ⟨h1, h2⟩ := findK_some hx; have h3 := (key_iff.1 h2).2; rw [HG.out] at h3; rw [pre_not_post h3, pre_not_post HG.out])
          have HR1 : Hid _ := R1
          have HR2 : Hid _ := R2
          clear R1 R2 REST
          clear HSPEC HRES HOKC HASC HG
          go_enter Tryd.func11, Tryd.ntmps11
          go_wp2_with (first | (go_at_call 28; refine HV.mono ?_; rintro e w1 ⟨rfl, hb1⟩; have cv := HCV.out w1 hb1; have hrs := HRS.out w1 hb1; have hfd := HFD.out w1 hb1) | (go_at_call 29; refine hrs.mono ?_; rintro e w2 ⟨rfl, rfl⟩) | (go_at_call 31; refine (l3prefix_any _ _).mono ?_; rintro e w' ⟨rfl, rfl⟩) | (go_at_call 30; refine hfd.mono ?_; rintro e w3 ⟨rfl, m3, rfl⟩))
          have HB3 : Hid (Below w.heap.size w _) := below_drewN hb1 m3
          refine (HCP.out _ HB3.out).mono ?_
          rintro e w4 ⟨p4, n4, c4, rfl, hown4, hb4⟩
          have HB4 : Hid (Below w.heap.size w w4) := Below.on HB3.out hb4
          have hc1 := HC1.out w4 HB4.out
          have HN4 : Hid (n4 = cs.length) := hown4.1
          have HO4 : Hid (OIn w4 p4 cs) := hown4.oin
          clear hown4 hb4 cv hrs hfd hb1
          go_wp2_with fail
          refine hc1.mono ?_
          rintro e w5 ⟨p5, n5, c5, rfl, hown5, hb5⟩
          have HB5 : Hid (Below w.heap.size w w5) := Below.on HB4.out hb5
          have hlp := HLP.out w5 p4 n4 c4 p5 n5 c5 HN4.out hown5.len (HO4.out.below hb5) hown5.bin
          clear hown5 hb5 hc1
          go_wp2_with fail
          refine hlp.mono ?_
          rintro e w6 ⟨p6, n6, c6, rfl, hn6, hoin6, hb6⟩
          have HB6 : Hid (Below w.heap.size w w6) := Below.on HB5.out hb6
          by_cases h2 : 200 < (putO cs (k, n, xs)).length
          · have HF : Hid (SpecE w (addR cs k n xs) (.returned (.tuple #[.slice none 0 0, .int .i64 3])) w6) := SpecE.code (HR1.out h2) HB6.out
            have h2' : (200 : Int) < (n6 : Int) := by omega
            clear h2 hn6 hoin6 hb6 HR1 HR2 hlp
            go_wp2_with fail
            go_ret2
            exact HF.out
          · have HF : Hid (SpecE w (addR cs k n xs) (.returned (.tuple #[.slice p6 n6 c6, .int .i64 0])) w6) := ⟨p6, n6, c6, by rw [HR2.out h2], by rw [HR2.out h2]; exact hn6, by rw [HR2.out h2]; exact hoin6, HB6.out⟩
            have h2' : ¬ (200 : Int) < (n6 : Int) := by omega
            clear h2 hn6 hoin6 hb6 HR1 HR2 hlp
            go_wp2_with fail
            go_ret2
            exact HF.out
        | false =>
          have HG : Hid (preB n = false) := g10
          rcases HSPEC.out with ⟨hf, hno⟩ | ⟨ix, hix, hf, hhit⟩
          · rw [hf] at HFD
            obtain ⟨R1, R2⟩ := REST.out (fun x hx => by obtain ⟨h1, h2⟩ := findK_some hx; have h3 := (hit_key (o := (k, n, xs)) HES.out HG.out).2 h2; rw [hno x h1] at h3; cases h3)
            have HR1 : Hid _ := R1
            have HR2 : Hid _ := R2
            clear R1 R2 REST
            clear HSPEC HRES HOKC HASC HG hno hf
            go_enter Tryd.func11, Tryd.ntmps11
            go_wp2_with (first | (go_at_call 28; refine HV.mono ?_; rintro e w1 ⟨rfl, hb1⟩; have cv := HCV.out w1 hb1; have hrs := HRS.out w1 hb1; have hfd := HFD.out w1 hb1) | (go_at_call 29; refine hrs.mono ?_; rintro e w2 ⟨rfl, rfl⟩) | (go_at_call 31; refine (l3prefix_any _ _).mono ?_; rintro e w' ⟨rfl, rfl⟩) | (go_at_call 30; refine hfd.mono ?_; rintro e w3 ⟨rfl, m3, rfl⟩))
            have HB3 : Hid (Below w.heap.size w _) := below_drewN hb1 m3
            refine (HCP.out _ HB3.out).mono ?_
            rintro e w4 ⟨p4, n4, c4, rfl, hown4, hb4⟩
            have HB4 : Hid (Below w.heap.size w w4) := Below.on HB3.out hb4
            have hc1 := HC1.out w4 HB4.out
            have HN4 : Hid (n4 = cs.length) := hown4.1
            have HO4 : Hid (OIn w4 p4 cs) := hown4.oin
            clear hown4 hb4 cv hrs hfd hb1
            go_wp2_with fail
            refine hc1.mono ?_
            rintro e w5 ⟨p5, n5, c5, rfl, hown5, hb5⟩
            have HB5 : Hid (Below w.heap.size w w5) := Below.on HB4.out hb5
            have hlp := HLP.out w5 p4 n4 c4 p5 n5 c5 HN4.out hown5.len (HO4.out.below hb5) hown5.bin
            clear hown5 hb5 hc1
            go_wp2_with fail
            refine hlp.mono ?_
            rintro e w6 ⟨p6, n6, c6, rfl, hn6, hoin6, hb6⟩
            have HB6 : Hid (Below w.heap.size w w6) := Below.on HB5.out hb6
            by_cases h2 : 200 < (putO cs (k, n, xs)).length
            · have HF : Hid (SpecE w (addR cs k n xs) (.returned (.tuple #[.slice none 0 0, .int .i64 3])) w6) := SpecE.code (HR1.out h2) HB6.out
              have h2' : (200 : Int) < (n6 : Int) := by omega
              clear h2 hn6 hoin6 hb6 HR1 HR2 hlp
              go_wp2_with fail
              go_ret2
              exact HF.out
            · have HF : Hid (SpecE w (addR cs k n xs) (.returned (.tuple #[.slice p6 n6 c6, .int .i64 0])) w6) := ⟨p6, n6, c6, by rw [HR2.out h2], by rw [HR2.out h2]; exact hn6, by rw [HR2.out h2]; exact hoin6, HB6.out⟩
              have h2' : ¬ (200 : Int) < (n6 : Int) := by omega
              clear h2 hn6 hoin6 hb6 HR1 HR2 hlp
              go_wp2_with fail
              go_ret2
              exact HF.out
          · have hf' : fIdx s.toList false 0 cs = (ix : Int) := by rw [hf]; simp
            rw [hf'] at HFD
            have hxm : cs.getD ix Cel.none ∈ cs := by rw [List.getD, List.getElem?_eq_getElem hix]; exact List.getElem_mem hix
            have hkey : keyC (cs.getD ix Cel.none) = keyC (k, n, xs) := (hit_key (o := (k, n, xs)) HES.out HG.out).1 hhit
            have hfk := find_of HASC.out hxm hkey
            have hpx : preB (cs.getD ix Cel.none).2.1 = false := by have := (key_iff.1 hkey).2; rw [this]; exact HG.out
            have hty := okC_typ (HOKC.out _ hxm)
            obtain ⟨g, o, rfl, hcs⟩ := HIN.out (by omega)
            have hat := hcs ix hix
            have hxl' : decide ((cs.getD ix Cel.none).2.1 ≤ 2) = !postB (cs.getD ix Cel.none).2.1 := not_pre hty.1 hty.2 hpx
            have hnl' : decide (n ≤ 2) = !postB n := not_pre HTY.out.1 HTY.out.2 HG.out
            have HDIF : Hid (postB (cs.getD ix Cel.none).2.1 ≠ postB n → addR cs k n xs = ([], 4)) := fun h => by (have hc : addCode cs (k, n, xs) = 4 := (by rw [addCode, hfk]; exact if_pos (by simpa using h))); rw [HRES.out, hc]; simp
            have HSAM : Hid (postB (cs.getD ix Cel.none).2.1 = postB n → ∀ x, findK cs (keyC (k, n, xs)) = some x → postB x.2.1 = postB n) := fun h x hx => by rw [hfk] at hx; rw [← Option.some.inj hx]; exact h
            obtain ⟨x, ex⟩ : ∃ x, x = cs.getD ix Cel.none := ⟨_, rfl⟩
            rw [← ex] at hat hxl' HDIF HSAM
            obtain ⟨qx, qc, y0, y1, y2, y3⟩ := hat
            obtain ⟨x0, x1, x2⟩ := x
            simp only at y0 y1 y2 y3 hxl' HDIF HSAM
            have Y1 : Hid (w.cell? ⟨g, o + ix * 3 + 2, none⟩ = some (.int .i64 x1)) := y1
            have hix0 : (0 : Int) ≤ (ix : Int) := by omega
            have hix1 : (ix : Int) < (cs.length : Int) := by omega
            clear hxm hkey hfk hpx hty hcs ex y0 y1 y2 y3 hhit hf hf' HSPEC HRES HOKC HASC HG HTY HIN
            cases q1 : (postB x1 == postB n) with
            | false =>
              have q1' : postB x1 ≠ postB n := by simpa using q1
              have HF : Hid (∀ W, Below w.heap.size w W → SpecE w (addR cs k n xs) (.returned (.tuple #[.slice none 0 0, .int .i64 4])) W) := fun W hb => SpecE.code (HDIF.out q1') hb
              have q3 : (decide (x1 ≤ 2) == decide (n ≤ 2)) = false := by rw [hxl', hnl']; cases h1 : postB x1 <;> cases h2 : postB n <;> simp_all
              clear HDIF HSAM q1' q1 hxl' hnl' REST
              skip
              go_enter Tryd.func11, Tryd.ntmps11
              go_wp2_with (first | (go_at_call 28; refine HV.mono ?_; rintro e w1 ⟨rfl, hb1⟩; have cv := HCV.out w1 hb1; have hrs := HRS.out w1 hb1; have hfd := HFD.out w1 hb1; have y1 : ∀ mm, (w1.drewN mm).cell? ⟨g, o + ix * 3 + 2, none⟩ = some (.int .i64 x1) := fun mm => (hb1.cell (World.block_lt_of_cell? _ _ Y1.out)).trans Y1.out) | (go_at_call 29; refine hrs.mono ?_; rintro e w2 ⟨rfl, rfl⟩) | (go_at_call 31; refine (l3prefix_any _ _).mono ?_; rintro e w' ⟨rfl, rfl⟩) | (go_at_call 30; refine hfd.mono ?_; rintro e w3 ⟨rfl, m3, rfl⟩) | (go_at_call 32; refine (l3infix_any _ _).mono ?_; rintro e w' ⟨rfl, rfl⟩))
              go_ret2
              exact HF.out _ (below_drewN hb1 _)
            | true =>
              have q1' : postB x1 = postB n := by simpa using q1
              have HS : Hid _ := HSAM.out q1'
              obtain ⟨R1, R2⟩ := REST.out (HS.out)
              have HR1 : Hid _ := R1
              have HR2 : Hid _ := R2
              clear R1 R2 REST
              have q3 : (decide (x1 ≤ 2) == decide (n ≤ 2)) = true := by rw [hxl', hnl', q1']; simp
              clear HDIF HSAM q1' q1 hxl' hnl' HS
              go_enter Tryd.func11, Tryd.ntmps11
              go_wp2_with (first | (go_at_call 28; refine HV.mono ?_; rintro e w1 ⟨rfl, hb1⟩; have cv := HCV.out w1 hb1; have hrs := HRS.out w1 hb1; have hfd := HFD.out w1 hb1; have y1 : ∀ mm, (w1.drewN mm).cell? ⟨g, o + ix * 3 + 2, none⟩ = some (.int .i64 x1) := fun mm => (hb1.cell (World.block_lt_of_cell? _ _ Y1.out)).trans Y1.out) | (go_at_call 29; refine hrs.mono ?_; rintro e w2 ⟨rfl, rfl⟩) | (go_at_call 31; refine (l3prefix_any _ _).mono ?_; rintro e w' ⟨rfl, rfl⟩) | (go_at_call 30; refine hfd.mono ?_; rintro e w3 ⟨rfl, m3, rfl⟩) | (go_at_call 32; refine (l3infix_any _ _).mono ?_; rintro e w' ⟨rfl, rfl⟩))
              have HB3 : Hid (Below w.heap.size w _) := below_drewN hb1 m3
              refine (HCP.out _ HB3.out).mono ?_
              rintro e w4 ⟨p4, n4, c4, rfl, hown4, hb4⟩
              have HB4 : Hid (Below w.heap.size w w4) := Below.on HB3.out hb4
              have hc1 := HC1.out w4 HB4.out
              have HN4 : Hid (n4 = cs.length) := hown4.1
              have HO4 : Hid (OIn w4 p4 cs) := hown4.oin
              clear hown4 hb4 cv hrs hfd hb1
              go_wp2_with fail
              refine hc1.mono ?_
              rintro e w5 ⟨p5, n5, c5, rfl, hown5, hb5⟩
              have HB5 : Hid (Below w.heap.size w w5) := Below.on HB4.out hb5
              have hlp := HLP.out w5 p4 n4 c4 p5 n5 c5 HN4.out hown5.len (HO4.out.below hb5) hown5.bin
              clear hown5 hb5 hc1
              go_wp2_with fail
              refine hlp.mono ?_
              rintro e w6 ⟨p6, n6, c6, rfl, hn6, hoin6, hb6⟩
              have HB6 : Hid (Below w.heap.size w w6) := Below.on HB5.out hb6
              by_cases h2 : 200 < (putO cs (k, n, xs)).length
              · have HF : Hid (SpecE w (addR cs k n xs) (.returned (.tuple #[.slice none 0 0, .int .i64 3])) w6) := SpecE.code (HR1.out h2) HB6.out
                have h2' : (200 : Int) < (n6 : Int) := by omega
                clear h2 hn6 hoin6 hb6 HR1 HR2 hlp
                go_wp2_with fail
                go_ret2
                exact HF.out
              · have HF : Hid (SpecE w (addR cs k n xs) (.returned (.tuple #[.slice p6 n6 c6, .int .i64 0])) w6) := ⟨p6, n6, c6, by rw [HR2.out h2], by rw [HR2.out h2]; exact hn6, by rw [HR2.out h2]; exact hoin6, HB6.out⟩
                have h2' : ¬ (200 : Int) < (n6 : Int) := by omega
                clear h2 hn6 hoin6 hb6 HR1 HR2 hlp
                go_wp2_with fail
                go_ret2
                exact HF.out

end Go.Proofs.YtbfhpnacoigfkaaDoor
