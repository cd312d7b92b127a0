/- define: an operator that a program asks for. Own work of the verifier. -/
import Derived.Test.YtbfhpnacoigfkaaDoorOpsM4
namespace Go.Proofs.YtbfhpnacoigfkaaDoor
open Go Go.RowKit Go.Maps
set_option linter.unusedVariables false

def defB (k n : Int) (m : Nat) : Bool := decide (1 ≤ m ∧ m ≤ 100) && (decide (0 ≤ k ∧ k ≤ 1200) && decide (0 ≤ n ∧ n ≤ 6))
def defCode (T : List Cel) (o : Cel) : Int :=
  if defB o.1 o.2.1 o.2.2.length = false then 1
  else if ((strOfNums o.2.2).toList == [44] || resB (strOfNums o.2.2)) = true then 4
  else addCode T o
def defT (T : List Cel) (o : Cel) : List Cel := if defCode T o = 0 then addT T o else T
def DefOut (w : World) (B b N : Nat) (T : List Cel) (o : Cel) (e : Ending) (w' : World) : Prop := e = .returned (.int .i64 (defCode T o)) ∧ (∃ N', N' ≤ N + 1 ∧ OpMap w' b N' (defT T o)) ∧ Below B w w' ∧ w.grownBy w' (some b)

set_option maxRecDepth 100000 in
set_option maxHeartbeats 4000000 in
theorem define_any (b N B : Nat) (T : List Cel) (k n : Int) (xs : List Int) (s : ByteArray) (w : World) (hs : s = strOfNums xs) (hxs : Byte xs) (hxl : xs.length ≤ 1000000000) (hm : OpMap w b N T) (hN : N ≤ 1000000) (hB : B ≤ b) (hl : T.length ≤ 1000000) :
    Calls Tryd.prog 36 #[.map (some b), .agg #[.string s, .int .i64 k, .int .i64 n]] w (DefOut w B b N T (k, n, xs)) := by
  have HM : Hid (OpMap w b N T) := hm
  have HBb : Hid (b < w.heap.size ∧ B ≤ b) := ⟨hm.lt, hB⟩
  have HXS : Hid (Byte xs) := hxs
  obtain ⟨a0, a1, a2⟩ := three_new w (.string s) (.int .i64 k) (.int .i64 n) 46
  have hB1 : Below w.heap.size w (w.alloc (Obj.cells #[.string s, .int .i64 k, .int .i64 n] 46)) := (Below.refl _ _).alloc (Nat.le_refl _) _
  obtain ⟨w1, cap, cv, hb1, hot⟩ := conv_bytes (w.alloc (Obj.cells #[.string s, .int .i64 k, .int .i64 n] 46)) xs hxs 9 Tryd.underlying9
  rw [← hs] at cv
  have c0 := (hb1.cell (World.block_lt_of_cell? _ _ a0)).trans a0
  have c1 := (hb1.cell (World.block_lt_of_cell? _ _ a1)).trans a1
  have c2 := (hb1.cell (World.block_lt_of_cell? _ _ a2)).trans a2
  have HB1 : Hid (Below w.heap.size w w1) := Below.on hB1 hb1
  obtain ⟨pb, epb⟩ : ∃ p : Option Addr, p = some ⟨(w.alloc (Obj.cells #[.string s, .int .i64 k, .int .i64 n] 46)).heap.size, 0, none⟩ := ⟨_, rfl⟩
  rw [← epb] at cv
  have HN := isOpName_any pb xs.length cap w1 hxl
  have HT := isOpType_any n w1
  have HR := isReserved_any s w1
  have HAD : Hid (okT (k, n, xs) → Calls Tryd.prog 18 #[.map (some b), .agg #[.string s, .int .i64 k, .int .i64 n]] w1 (AddOut w1 B b N T (k, n, xs))) := fun ho => add_any b N B T k n xs s w1 hs (HM.out.below HB1.out) ho hN hB hl
  have HE : Hid (defCode T (k, n, xs) = if (decide (1 ≤ xs.length ∧ xs.length ≤ 100) && (decide (0 ≤ k ∧ k ≤ 1200) && decide (0 ≤ n ∧ n ≤ 6))) = false then 1 else if (s.toList == [44] || resB s) = true then 4 else addCode T (k, n, xs)) := by show _ = _; rw [hs]; rfl
  have FIN : Hid (∀ c : Int, c ≠ 0 → defCode T (k, n, xs) = c → DefOut w B b N T (k, n, xs) (.returned (.int .i64 c)) w1) := fun c h0 hc => ⟨by rw [hc], ⟨N, by omega, by rw [defT, if_neg (by rw [hc]; exact h0)]; exact HM.out.below HB1.out⟩, HB1.out.mono (by have := HBb.out; omega), grown_of HB1.out⟩
  have HOK : Hid (decide (1 ≤ xs.length ∧ xs.length ≤ 100) = true → okT (k, n, xs)) := fun h => ⟨HXS.out, by have := (of_decide_eq_true h).2; show xs.length ≤ _; omega⟩
  generalize resB s = r at HR HE
  generalize decide (1 ≤ xs.length ∧ xs.length ≤ 100) = b1 at HN HE HOK
  generalize decide (0 ≤ n ∧ n ≤ 6) = b2 at HT HE
  clear hm hB1 hb1 hot hs hxs epb
  cases b1 with
  | false =>
    have HF : Hid (DefOut w B b N T (k, n, xs) (.returned (.int .i64 1)) w1) := FIN.out 1 (by decide) (by rw [HE.out]; rfl)
    go_enter Tryd.func36, Tryd.ntmps36
    go_wp2_with (first | (go_at_call 46; refine HN.mono ?_; rintro e w' ⟨rfl, rfl⟩) | (go_at_call 47; refine HT.mono ?_; rintro e w' ⟨rfl, rfl⟩) | (go_at_call 48; refine HR.mono ?_; rintro e w' ⟨rfl, rfl⟩))
    go_ret
    exact HF.out
  | true =>
    cases b2 with
    | false =>
      have HF : Hid (DefOut w B b N T (k, n, xs) (.returned (.int .i64 1)) w1) := FIN.out 1 (by decide) (by rw [HE.out]; simp)
      go_enter Tryd.func36, Tryd.ntmps36
      go_wp2_with (first | (go_at_call 46; refine HN.mono ?_; rintro e w' ⟨rfl, rfl⟩) | (go_at_call 47; refine HT.mono ?_; rintro e w' ⟨rfl, rfl⟩) | (go_at_call 48; refine HR.mono ?_; rintro e w' ⟨rfl, rfl⟩))
      go_ret
      exact HF.out
    | true =>
      by_cases h3 : k < 0
      · have HF : Hid (DefOut w B b N T (k, n, xs) (.returned (.int .i64 1)) w1) := FIN.out 1 (by decide) (by rw [HE.out, show decide (0 ≤ k ∧ k ≤ 1200) = false by simp; omega]; simp)
        go_enter Tryd.func36, Tryd.ntmps36
        go_wp2_with (first | (go_at_call 46; refine HN.mono ?_; rintro e w' ⟨rfl, rfl⟩) | (go_at_call 47; refine HT.mono ?_; rintro e w' ⟨rfl, rfl⟩) | (go_at_call 48; refine HR.mono ?_; rintro e w' ⟨rfl, rfl⟩))
        go_ret
        exact HF.out
      by_cases h4 : 1200 < k
      · have HF : Hid (DefOut w B b N T (k, n, xs) (.returned (.int .i64 1)) w1) := FIN.out 1 (by decide) (by rw [HE.out, show decide (0 ≤ k ∧ k ≤ 1200) = false by simp; omega]; simp)
        go_enter Tryd.func36, Tryd.ntmps36
        go_wp2_with (first | (go_at_call 46; refine HN.mono ?_; rintro e w' ⟨rfl, rfl⟩) | (go_at_call 47; refine HT.mono ?_; rintro e w' ⟨rfl, rfl⟩) | (go_at_call 48; refine HR.mono ?_; rintro e w' ⟨rfl, rfl⟩))
        go_ret
        exact HF.out
      have HE4 : Hid (decide (0 ≤ k ∧ k ≤ 1200) = true) := by show _ = _; simp; omega
      cases h5 : (s.toList == [44]) with
      | true =>
        have HF : Hid (DefOut w B b N T (k, n, xs) (.returned (.int .i64 4)) w1) := FIN.out 4 (by decide) (by rw [HE.out, HE4.out, h5]; simp)
        go_enter Tryd.func36, Tryd.ntmps36
        go_wp2_with (first | (go_at_call 46; refine HN.mono ?_; rintro e w' ⟨rfl, rfl⟩) | (go_at_call 47; refine HT.mono ?_; rintro e w' ⟨rfl, rfl⟩) | (go_at_call 48; refine HR.mono ?_; rintro e w' ⟨rfl, rfl⟩))
        go_ret
        exact HF.out
      | false =>
        cases r with
        | true =>
          have HF : Hid (DefOut w B b N T (k, n, xs) (.returned (.int .i64 4)) w1) := FIN.out 4 (by decide) (by rw [HE.out, HE4.out, h5]; simp)
          go_enter Tryd.func36, Tryd.ntmps36
          go_wp2_with (first | (go_at_call 46; refine HN.mono ?_; rintro e w' ⟨rfl, rfl⟩) | (go_at_call 47; refine HT.mono ?_; rintro e w' ⟨rfl, rfl⟩) | (go_at_call 48; refine HR.mono ?_; rintro e w' ⟨rfl, rfl⟩))
          go_ret
          exact HF.out
        | false =>
          have HDC : Hid (defCode T (k, n, xs) = addCode T (k, n, xs)) := by show _ = _; rw [HE.out, HE4.out, h5]; simp
          have HA := HAD.out (HOK.out rfl)
          clear HAD HE HE4 FIN HOK
          go_enter Tryd.func36, Tryd.ntmps36
          go_wp2_with (first | (go_at_call 46; refine HN.mono ?_; rintro e w' ⟨rfl, rfl⟩) | (go_at_call 47; refine HT.mono ?_; rintro e w' ⟨rfl, rfl⟩) | (go_at_call 48; refine HR.mono ?_; rintro e w' ⟨rfl, rfl⟩))
          refine HA.mono ?_
          rintro e w6 ⟨rfl, ⟨N', hN', hm6⟩, hb6, hg6⟩
          have HF : Hid (DefOut w B b N T (k, n, xs) (.returned (.int .i64 (addCode T (k, n, xs)))) w6) := ⟨by rw [HDC.out], ⟨N', hN', by
            rw [defT, HDC.out]
            split
            · exact hm6
            · rename_i h; rw [addT, if_pos (by simpa using h)] at hm6; exact hm6⟩, (HB1.out.mono (by have := HBb.out; omega)).trans hb6, grown_after HB1.out hg6⟩
          clear hm6 hb6 hg6 HA HDC
          go_wp2_with fail
          go_ret
          exact HF.out

end Go.Proofs.YtbfhpnacoigfkaaDoor
