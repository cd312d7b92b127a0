/- QuoteAtom of both sides. Own work of the verifier. -/
import Derived.Test.YtfhelmhcmfpedaaDoorQuote
import Derived.Test.YtfhelmhcmfpedaaDoorClone
namespace Go.Proofs.YtfhelmhcmfpedaaDoor
open Go Go.RowKit
set_option linter.unusedVariables false

def quotedB (xs : List Int) : List Int := 39 :: (xs.flatMap q1 ++ [39])
def quoteB (xs : List Int) : List Int := if 100 < xs.length then [] else if plainB xs then xs else quotedB xs

theorem q1_len (x : Int) : (q1 x).length ≤ 5 := by
  unfold q1; repeat' split
  all_goals simp
theorem q1s_len : ∀ xs : List Int, (xs.flatMap q1).length ≤ 5 * xs.length
  | [] => by simp
  | x :: r => by have := q1_len x; have := q1s_len r; rw [List.flatMap_cons, List.length_append, List.length_cons]; omega
theorem q1s_snoc (xs : List Int) (k : Nat) (h : k < xs.length) : 39 :: (xs.take (k + 1)).flatMap q1 = (39 :: (xs.take k).flatMap q1) ++ q1 (xs.getD k 0) := by
  rw [List.take_succ_eq_append_getElem h, List.flatMap_append]
  simp [List.getD, h]
theorem q1s_bound (xs : List Int) (k : Nat) (hk : k ≤ xs.length) (hn : xs.length ≤ 100) : (39 :: (xs.take k).flatMap q1).length ≤ 600 := by
  have := q1s_len (xs.take k)
  have : (xs.take k).length ≤ k := List.length_take_le _ _
  simp only [List.length_cons]; omega

theorem own1 (w : World) (a : Int) : OwnS (w.alloc (.cells #[.int .u8 a] 5)) w.heap.size (some ⟨w.heap.size, 0, none⟩) 1 1 [a] := ⟨rfl, World.ownsRow_lit w #[.int .u8 a] 1 (Nat.le_refl _) (by unfold maxLen; omega) rfl⟩

set_option maxRecDepth 100000 in
theorem implQuote_any (b cap : Nat) (xs : List Int) (w : World) (hb : Bytes xs) (hn : xs.length ≤ 1048576) (hcap : xs.length ≤ cap) (hR : Row w b xs) (hT : Tab w) :
    Calls Tryd.prog 11 #[.slice (some ⟨b, 0, none⟩) xs.length cap] w fun e w' => ∃ p' n' c', e = .returned (.slice p' n' c') ∧ OwnS w' w.heap.size p' n' c' (quoteB xs) ∧ Below w.heap.size w w' := by
  have HR : Hid (Row w b xs) := hR
  have HT : Hid (Tab w) := hT
  clear hR hT
  by_cases h100 : 100 < xs.length
  · have e : quoteB xs = [] := by unfold quoteB; rw [if_pos h100]
    rw [e]
    clear e
    go_enter Tryd.func11, Tryd.ntmps11
    go_wp2
    go_ret
    exact ⟨_, _, _, rfl, OwnS.nil _ _, Below.refl _ _⟩
  cases hp : plainB xs
  · have e : quoteB xs = quotedB xs := by unfold quoteB; rw [if_neg h100, hp]; rfl
    rw [e]
    clear e
    go_enter Tryd.func11, Tryd.ntmps11
    go_wp2_with fail
    refine (implPlain_any b cap xs w hb hn hcap HR.out.2 HT.out).mono ?_
    rintro e w1 ⟨rfl, hb1⟩
    rw [hp]
    have HB1 : Hid (Below w.heap.size w w1) := hb1
    have HR1 : Hid (Row w1 b xs) := HR.out.below hb1
    have hsz : w.heap.size ≤ w1.heap.size := hb1.size
    clear hb1 HT
    go_wp2
    go_loopw [3, 16] (fun v i wr => ∃ (k : Nat) (p : Option Addr) (n c : Nat), k ≤ xs.length ∧ i = .int .i64 k ∧ v = .slice p n c ∧ Hid (OwnS wr w1.heap.size p n c (39 :: (xs.take k).flatMap q1)) ∧ Hid (Below w1.heap.size w1 wr)) (fun _ i _ => xs.length - (intOf i).toNat)
    case atStart => exact ⟨0, _, _, _, Nat.zero_le _, rfl, rfl, own1 w1 39, (Below.refl _ _).alloc (Nat.le_refl _) _⟩
    case round =>
      obtain ⟨k, p, n, c, hk, rfl, rfl, HO, HB⟩ := hrel
      have hlen := q1s_bound xs k hk (by omega)
      have hn' : n ≤ 600 := by rw [HO.out.len]; exact hlen
      clear hlen
      by_cases hlt : k < xs.length
      · have hx : wr.cell? ⟨b, k, none⟩ = some (.int .u8 (xs.getD k 0)) := (HR1.out.below HB.out).2 k hlt
        have hr := hb.at k
        obtain ⟨x, ex⟩ : ∃ x, x = xs.getD k 0 := ⟨_, rfl⟩
        rw [← ex] at hx hr
        have HX : Hid (x = xs.getD k 0) := ex
        clear ex
        go_wp2_with (go_at_call 27; refine (appendQuoted_any w1.heap.size p n c _ x wr (by omega) hr.1 hr.2 HO.out HB.out.size).mono ?_; rintro e w2 ⟨p2, n2, c2, rfl, hown2, hb2⟩)
        go_roundw
        case rel => exact ⟨k + 1, _, _, _, by omega, by go_num, rfl, by rw [q1s_snoc xs k hlt, ← HX.out]; exact hown2, HB.out.trans hb2⟩
        case measure => simp [intOf]; omega
      · obtain rfl : k = xs.length := by omega
        go_wp2_with (at_builtin; refine app_bytes _ rfl _ _ rfl w1.heap.size p n c _ [39] 1 rfl rfl (HO.out.alloc _) _ 1 rfl (news1 _ _) (by decide) (by omega) (by have := HB.out.size; simp; omega) ?_; intro g n3 cap3 w3 hown3 hb3 hn3)
        go_ret
        exact ⟨_, _, _, rfl, by
          have h := hown3
          rw [List.take_length] at h
          exact ⟨h.1, h.2.1, h.2.2.imp id fun ⟨g, c, cur, a1, a2, a3⟩ => ⟨g, c, cur, a1, Nat.le_trans hsz a2, a3⟩⟩, Below.on HB1.out ((HB.out.alloc HB.out.size _).trans hb3)⟩
  · have e : quoteB xs = xs := by unfold quoteB; rw [if_neg h100, hp]; rfl
    rw [e]
    clear e
    have hpos : 0 < xs.length := by
      rcases Nat.eq_zero_or_pos xs.length with h | h
      · unfold plainB at hp; rw [if_pos (.inl h)] at hp; cases hp
      · exact h
    go_enter Tryd.func11, Tryd.ntmps11
    go_wp2_with fail
    refine (implPlain_any b cap xs w hb hn hcap HR.out.2 HT.out).mono ?_
    rintro e w1 ⟨rfl, hb1⟩
    rw [hp]
    have HB1 : Hid (Below w.heap.size w w1) := hb1
    have HR1 : Hid (Row w1 b xs) := HR.out.below hb1
    have hsz : w.heap.size ≤ w1.heap.size := hb1.size
    clear hb1 HT
    go_wp2_with (go_at_call 26; refine (clone_any b 0 xs.length cap xs w1 rfl hpos (by omega) (fun i hi => by rw [Nat.zero_add]; exact HR1.out.2 i hi)).mono ?_; rintro e w2 ⟨p2, n2, c2, rfl, hown2, hb2⟩)
    go_ret
    exact ⟨_, _, _, rfl, ⟨hown2.1, hown2.2.1, hown2.2.2.imp id fun ⟨g, c, cur, a1, a2, a3⟩ => ⟨g, c, cur, a1, Nat.le_trans hsz a2, a3⟩⟩, Below.on HB1.out hb2⟩

end Go.Proofs.YtfhelmhcmfpedaaDoor
