/- Texts of Quote2, WtP, Quote3, QuoO. Own work of the verifier. -/
import Derived.Test.YtjhbplgppakhoaaGreatDoorUqam
import Derived.Test.YtjhbplgppakhoaaGreatDoorUqal
import Derived.Test.YtjhbplgppakhoaaGreatDoorUqad
import Derived.Test.YtjhbplgppakhoaaGreatDoorUqae
namespace Go.Proofs.YtjhbplgppakhoaaGreatDoor
open Go Go.RowKit
set_option linter.unusedVariables false
def quotedB (xs : List Int) : List Int := 39 :: (xs.flatMap q1 ++ [39])
def quoteB (xs : List Int) : List Int := if 100 < xs.length then [] else if plainB xs then xs else quotedB xs
theorem q1_len (x : Int) : (q1 x).length ≤ 5 := by
  unfold q1; repeat' split
  all_goals simp
theorem q1s_len : ∀ xs : List Int, (xs.flatMap q1).length ≤ 5 * xs.length
  | [] => by simp
  | x :: r => by have := q1_len x; have := q1s_len r; rw [List.flatMap_cons, List.length_append, List.length_cons]; omega
theorem q1s_snoc (xs : List Int) (k : Nat) (h : k < xs.length) : 39 :: (xs.take (k + 1)).flatMap q1 = (39 :: (xs.take k).flatMap q1) ++ q1 (xs.getD k 0) := by
  rw [List.take_succ_eq_append_getElem h, List.flatMap_append]
  simp [List.getD, h]
theorem q1s_bound (xs : List Int) (k : Nat) (hk : k ≤ xs.length) (hn : xs.length ≤ 100) : (39 :: (xs.take k).flatMap q1).length ≤ 600 := by
  have := q1s_len (xs.take k)
  have : (xs.take k).length ≤ k := List.length_take_le _ _
  simp only [List.length_cons]; omega
theorem own1 (w : World) (a : Int) : OwnS (w.alloc (.cells #[.int .u8 a] 5)) w.heap.size (some ⟨w.heap.size, 0, none⟩) 1 1 [a] := ⟨rfl, World.ownsRow_lit w #[.int .u8 a] 1 (Nat.le_refl _) (by unfold maxLen; omega) rfl⟩
set_option maxRecDepth 100000 in
theorem implQuote_any (b cap : Nat) (xs : List Int) (w : World) (hb : Bytes xs) (hn : xs.length ≤ 1048576) (hcap : xs.length ≤ cap) (hR : Row w b xs) (hT : Tab w) :
    Calls Tryz.prog 107 #[.slice (some ⟨b, 0, none⟩) xs.length cap] w fun e w' => ∃ p' n' c', e = .returned (.slice p' n' c') ∧ OwnS w' w.heap.size p' n' c' (quoteB xs) ∧ Below w.heap.size w w' := by
  have HR : Hid (Row w b xs) := hR
  have HT : Hid (Tab w) := hT
  clear hR hT
  by_cases h100 : 100 < xs.length
  · have e : quoteB xs = [] := by unfold quoteB; rw [if_pos h100]
    rw [e]
    clear e
    go_enter Tryz.func107, Tryz.ntmps107
    go_wp2
    go_ret
    exact ⟨_, _, _, rfl, OwnS.nil _ _, Below.refl _ _⟩
  cases hp : plainB xs
  · have e : quoteB xs = quotedB xs := by unfold quoteB; rw [if_neg h100, hp]; rfl
    rw [e]
    clear e
    go_enter Tryz.func107, Tryz.ntmps107
    go_wp2_with fail
    refine (implPlain_any b cap xs w hb hn hcap HR.out.2 HT.out).mono ?_
    rintro e w1 ⟨rfl, hb1⟩
    rw [hp]
    have HB1 : Hid (Below w.heap.size w w1) := hb1
    have HR1 : Hid (Row w1 b xs) := HR.out.below hb1
    have hsz : w.heap.size ≤ w1.heap.size := hb1.size
    clear hb1 HT
    go_wp2
    go_loopw [3, 16] (fun v i wr => ∃ (k : Nat) (p : Option Addr) (n c : Nat), k ≤ xs.length ∧ i = .int .i64 k ∧ v = .slice p n c ∧ Hid (OwnS wr w1.heap.size p n c (39 :: (xs.take k).flatMap q1)) ∧ Hid (Below w1.heap.size w1 wr)) (fun _ i _ => xs.length - (intOf i).toNat)
    case atStart => exact ⟨0, _, _, _, Nat.zero_le _, rfl, rfl, own1 w1 39, (Below.refl _ _).alloc (Nat.le_refl _) _⟩
    case round =>
      obtain ⟨k, p, n, c, hk, rfl, rfl, HO, HB⟩ := hrel
      have hlen := q1s_bound xs k hk (by omega)
      have hn' : n ≤ 600 := by rw [HO.out.len]; exact hlen
      clear hlen
      by_cases hlt : k < xs.length
      · have hx : wr.cell? ⟨b, k, none⟩ = some (.int .u8 (xs.getD k 0)) := (HR1.out.below HB.out).2 k hlt
        have hr := hb.at k
        obtain ⟨x, ex⟩ : ∃ x, x = xs.getD k 0 := ⟨_, rfl⟩
        rw [← ex] at hx hr
        have HX : Hid (x = xs.getD k 0) := ex
        clear ex
        go_wp2_with (go_at_call 129; refine (appendQuoted_any w1.heap.size p n c _ x wr (by omega) hr.1 hr.2 HO.out HB.out.size).mono ?_; rintro e w2 ⟨p2, n2, c2, rfl, hown2, hb2⟩)
        go_roundw
        case rel => exact ⟨k + 1, _, _, _, by omega, by go_num, rfl, by rw [q1s_snoc xs k hlt, ← HX.out]; exact hown2, HB.out.trans hb2⟩
        case measure => simp [intOf]; omega
      · obtain rfl : k = xs.length := by omega
        go_wp2_with (at_builtin; refine app_bytes _ rfl _ _ rfl w1.heap.size p n c _ [39] 1 rfl rfl (HO.out.alloc _) _ 1 rfl (news1 _ _) (by decide) (by omega) (by have := HB.out.size; simp; omega) ?_; intro g n3 cap3 w3 hown3 hb3 hn3)
        go_ret
        exact ⟨_, _, _, rfl, by
          have h := hown3
          rw [List.take_length] at h
          exact ⟨h.1, h.2.1, h.2.2.imp id fun ⟨g, c, cur, a1, a2, a3⟩ => ⟨g, c, cur, a1, Nat.le_trans hsz a2, a3⟩⟩, Below.on HB1.out ((HB.out.alloc HB.out.size _).trans hb3)⟩
  · have e : quoteB xs = xs := by unfold quoteB; rw [if_neg h100, hp]; rfl
    rw [e]
    clear e
    have hpos : 0 < xs.length := by
      rcases Nat.eq_zero_or_pos xs.length with h | h
      · unfold plainB at hp; rw [if_pos (.inl h)] at hp; cases hp
      · exact h
    go_enter Tryz.func107, Tryz.ntmps107
    go_wp2_with fail
    refine (implPlain_any b cap xs w hb hn hcap HR.out.2 HT.out).mono ?_
    rintro e w1 ⟨rfl, hb1⟩
    rw [hp]
    have HB1 : Hid (Below w.heap.size w w1) := hb1
    have HR1 : Hid (Row w1 b xs) := HR.out.below hb1
    have hsz : w.heap.size ≤ w1.heap.size := hb1.size
    clear hb1 HT
    go_wp2_with (go_at_call 128; refine (clone_any b 0 xs.length cap xs w1 rfl hpos (by omega) (fun i hi => by rw [Nat.zero_add]; exact HR1.out.2 i hi)).mono ?_; rintro e w2 ⟨p2, n2, c2, rfl, hown2, hb2⟩)
    go_ret
    exact ⟨_, _, _, rfl, ⟨hown2.1, hown2.2.1, hown2.2.2.imp id fun ⟨g, c, cur, a1, a2, a3⟩ => ⟨g, c, cur, a1, Nat.le_trans hsz a2, a3⟩⟩, Below.on HB1.out hb2⟩
end Go.Proofs.YtjhbplgppakhoaaGreatDoor

namespace Go.Proofs.YtjhbplgppakhoaaGreatDoor
open Go Go.RowKit
set_option linter.unusedVariables false
def decF : Nat → Int → List Int
  | 0, _ => []
  | f + 1, v => if v < 0 ∧ -10 < v then [45, 48 - v] else if v < 0 then decF f (v.tdiv 10) ++ [48 - v.tmod 10] else if v < 10 then [48 + v] else decF f (v.tdiv 10) ++ [48 + v.tmod 10]
def decW (v : Int) : List Int := decF 20 v
theorem dec_more : ∀ (f g : Nat) (v : Int), (v.natAbs < 10 ^ f) → decF (f + 1 + g) v = decF (f + 1) v
  | 0, g, v, h => by
    have hv : v = 0 := by simp at h; exact h
    subst hv
    rw [show 0 + 1 + g = g + 1 by omega]
    rfl
  | f + 1, g, v, h => by
    have h2 : (v.tdiv 10).natAbs < 10 ^ f := by
      rw [Int.natAbs_tdiv]
      rw [Nat.pow_succ] at h
      exact Nat.div_lt_of_lt_mul (by rw [Nat.mul_comm]; exact h)
    have e := dec_more f g (v.tdiv 10) h2
    rw [show f + 1 + 1 + g = (f + 1 + g) + 1 by omega]
    conv => lhs; unfold decF
    conv => rhs; unfold decF
    rw [e]
def atomW (q : Bool) (xs : List Int) : List Int := if q then quoteB xs else xs
def infB (t : Int) : Bool := decide (t ≤ 2)
def leftP (op : Cel) : Int := if op.2.1 = 2 ∨ op.2.1 = 6 then op.1 else op.1 - 1
def rightP (op : Cel) : Int := if op.2.1 = 1 ∨ op.2.1 = 3 then op.1 else op.1 - 1
def findW (T : List Cel) (xs : List Int) (pf : Bool) : Int := fIdx (strOfNums xs).toList pf 0 T
def curly : Cel := (3, 1, [123, 125])
def opW (T : List Cel) (i : Int) : Cel := T.getD i.toNat Cel.none
def topI (T : List Cel) (c : Cel) : Int :=
  if c.1 ≠ 3 ∨ c = dot ∨ c = curly ∨ 2 < c.2.1 then -1
  else if c.2.1 = 2 then (if 0 ≤ findW T c.2.2 false ∧ infB (opW T (findW T c.2.2 false)).2.1 = false then -1 else findW T c.2.2 false)
  else if 0 ≤ findW T c.2.2 true then findW T c.2.2 true
  else if 0 ≤ findW T c.2.2 false ∧ infB (opW T (findW T c.2.2 false)).2.1 = true then -1 else findW T c.2.2 false
def spacedB (xs : List Int) : Bool := (decide (runLen symbolB xs ≠ xs.length) || !plainB xs) && (decide (xs ≠ [44]) && (decide (xs ≠ [59]) && decide (xs ≠ [33])))
def lastI (a : List Int) : Int := a.getD (a.length - 1) 0
def gapW (a b : List Int) : List Int := if a = [] ∨ b = [] then [] else if (alnumB (lastI a) = true ∧ alnumB (b.getD 0 0) = true) ∨ (symbolB (lastI a) = true ∧ symbolB (b.getD 0 0) = true) then [32] else []
def parW (s : List Int) : List Int := 40 :: (s ++ [41])
def operandW (rec : Tr → Int → List Int) (T : List Cel) (t : Tr) (p : Int) (left : Bool) (op : Cel) : List Int :=
  if t.1.1 = 2 ∧ (0 ≤ findW T t.1.2.2 true ∨ 0 ≤ findW T t.1.2.2 false) then parW (rec t p)
  else if left = true ∧ 0 ≤ topI T t.1 ∧ (opW T (topI T t.1)).1 = op.1 ∧ p = op.1 ∧ ((opW T (topI T t.1)).2.1 = 1 ∨ (opW T (topI T t.1)).2.1 = 3) then parW (rec t p)
  else rec t p
def joinW : List (List Int) → List Int
  | [] => []
  | [a] => a
  | a :: b :: r => a ++ (44 :: joinW (b :: r))
def headW (q : Bool) (xs : List Int) : List Int := if q = true ∧ (atomW q xs = [91, 93] ∨ atomW q xs = [123, 125]) then 39 :: (atomW q xs ++ [39]) else atomW q xs
def plainW (rec : Tr → Int → List Int) (q : Bool) (t : Tr) : List Int := headW q t.1.2.2 ++ [40] ++ joinW ((trs t.2).map (rec · 999)) ++ [41]
def nameW (q : Bool) (op : Cel) : List Int := if op.2.2 = [44] then [44] else atomW q op.2.2
def preGap (q : Bool) (op : Cel) (arg : List Int) : List Int :=
  if spacedB op.2.2 = true then [32] else if arg ≠ [] ∧ (arg.getD 0 0 = 40 ∨ (op.2.2 = [45] ∧ digitB (arg.getD 0 0) = true)) then [32] else gapW (nameW q op) arg
def midGap (op : Cel) (a b : List Int) : List Int := if spacedB op.2.2 = true then [32] else gapW a b
def kidW (t : Tr) (i : Nat) : Tr := (trs t.2).getD i (Cel.none, .nil)
def operW (rec : Tr → Int → List Int) (T : List Cel) (q : Bool) (t : Tr) (op : Cel) : List Int :=
  if preB op.2.1 = true then nameW q op ++ preGap q op (operandW rec T (kidW t 0) (rightP op) false op) ++ operandW rec T (kidW t 0) (rightP op) false op
  else
    let l := operandW rec T (kidW t 0) (leftP op) true op
    let s := l ++ midGap op l (nameW q op) ++ nameW q op
    if infB op.2.1 = true then
      let r := operandW rec T (kidW t 1) (rightP op) false op
      s ++ (midGap op (nameW q op) r ++ r)
    else s
def compW (rec : Tr → Int → List Int) (T : List Cel) (q : Bool) (t : Tr) (p : Int) : List Int :=
  if topI T t.1 < 0 then plainW rec q t
  else if p < (opW T (topI T t.1)).1 then parW (operW rec T q t (opW T (topI T t.1))) else operW rec T q t (opW T (topI T t.1))
def listW (rec : Tr → Int → List Int) (t : Tr) : List Int :=
  91 :: (joinW ((splitF t.1 t.2).1.map (rec · 999)) ++ ((if (splitF t.1 t.2).2.1 = nilC then [] else 124 :: rec (splitF t.1 t.2).2 999) ++ [93]))
def varW (N : List (List Int)) (n : Int) : List Int := if n < N.length ∧ 0 < (N.getD n.toNat []).length then N.getD n.toNat [] else 95 :: decW n
def textF (T : List Cel) (N : List (List Int)) (q : Bool) : Nat → Tr → Int → List Int
  | 0, _, _ => []
  | f + 1, t, p =>
    if t.1.1 = 0 then varW N t.1.2.1 else if t.1.1 = 1 then decW t.1.2.1 else if t.1.1 = 2 then atomW q t.1.2.2
    else if t.1 = dot then listW (textF T N q f) t
    else if t.1 = curly then 123 :: (textF T N q f (kidW t 0) 1200 ++ [125])
    else compW (textF T N q f) T q t p
end Go.Proofs.YtjhbplgppakhoaaGreatDoor

namespace Go.Proofs.YtjhbplgppakhoaaGreatDoor
open Go Go.RowKit
set_option linter.unusedVariables false
theorem wrap_u8_in {x : Int} (h0 : 0 ≤ x) (h1 : x < 256) : IntKind.u8.wrap x = x := by
  simp [IntKind.wrap, IntKind.signed, IntKind.bits]
  omega
end Go.Proofs.YtjhbplgppakhoaaGreatDoor

namespace Go.Proofs.YtjhbplgppakhoaaGreatDoor
open Go Go.RowKit
set_option linter.unusedVariables false
theorem l1runO (b o cap : Nat) (xs : List Int) (at_ : Nat) (s : Bool) (w : World) (hb : Bytes xs) (hn : xs.length ≤ 100000000) (ha : at_ ≤ xs.length)
    (hc : ∀ i, i < xs.length → w.cell? ⟨b, o + i, none⟩ = some (.int .u8 (xs.getD i 0))) :
    Calls Tryz.prog 117 #[.slice (some ⟨b, o, none⟩) xs.length cap, .int .i64 at_, .bool s] w fun e w' => e = .returned (.int .i64 (runLen (clsB s) (xs.drop at_))) ∧ w' = w := by
  go_enter Tryz.func117, Tryz.ntmps117
  go_wp2
  go_loop [7] (fun i => ∃ j : Nat, at_ + j ≤ xs.length ∧ i = .int .i64 j ∧ Hid (∀ m, m < j → clsB s ((xs.drop at_).getD m 0) = true)) (fun i => xs.length - (intOf i).toNat)
  case atStart => exact ⟨0, by omega, rfl, fun _ h => absurd h (Nat.not_lt_zero _)⟩
  case round =>
    obtain ⟨j, hj, rfl, HN⟩ := hrel
    by_cases hlt : at_ + j < xs.length
    · have hx := hc (at_ + j) hlt
      have hr := hb.at (at_ + j)
      obtain ⟨x, ex⟩ : ∃ x, x = xs.getD (at_ + j) 0 := ⟨_, rfl⟩
      rw [← ex] at hx hr
      have HX : Hid (x = (xs.drop at_).getD j 0) := by rw [ex]; simp [List.getD, List.getElem?_drop, Hid]
      clear ex hc
      have hnx : symbolB x = clsB true x := rfl
      have hnx' : alnumB x = clsB false x := rfl
      by_cases ht : clsB s x = true
      · have go : ∀ m, m < j + 1 → clsB s ((xs.drop at_).getD m 0) = true := fun m hm => by
          by_cases e : m = j
          · subst e; rw [← HX.out]; exact ht
          · exact HN.out m (by omega)
        have GO : Hid (∀ m, m < j + 1 → clsB s ((xs.drop at_).getD m 0) = true) := go
        clear go
        cases s
        · rw [← hnx'] at ht
          clear hnx hnx'
          go_wp2_with (first | (go_at_call 123; refine (symbol_any _ _ hr.1 hr.2).mono ?_; rintro e w' ⟨rfl, rfl⟩) | (go_at_call 122; refine (alnum_any _ _ hr.1 hr.2).mono ?_; rintro e w' ⟨rfl, rfl⟩))
          go_round
          case rel => exact ⟨j + 1, by omega, by go_num, GO⟩
          case measure => simp [intOf]; omega
        · rw [← hnx] at ht
          clear hnx hnx'
          go_wp2_with (first | (go_at_call 123; refine (symbol_any _ _ hr.1 hr.2).mono ?_; rintro e w' ⟨rfl, rfl⟩) | (go_at_call 122; refine (alnum_any _ _ hr.1 hr.2).mono ?_; rintro e w' ⟨rfl, rfl⟩))
          go_round
          case rel => exact ⟨j + 1, by omega, by go_num, GO⟩
          case measure => simp [intOf]; omega
      · have ht' : clsB s x = false := by simpa using ht
        have HE : Hid (runLen (clsB s) (xs.drop at_) = j) := runLen_stop _ _ _ (by simp; omega) HN.out (.inr (by rw [← HX.out]; exact ht'))
        clear ht
        cases s
        · rw [← hnx'] at ht'
          clear hnx hnx'
          go_wp2_with (first | (go_at_call 123; refine (symbol_any _ _ hr.1 hr.2).mono ?_; rintro e w' ⟨rfl, rfl⟩) | (go_at_call 122; refine (alnum_any _ _ hr.1 hr.2).mono ?_; rintro e w' ⟨rfl, rfl⟩))
          go_ret
          exact ⟨ret_int (by rw [HE.out]), rfl⟩
        · rw [← hnx] at ht'
          clear hnx hnx'
          go_wp2_with (first | (go_at_call 123; refine (symbol_any _ _ hr.1 hr.2).mono ?_; rintro e w' ⟨rfl, rfl⟩) | (go_at_call 122; refine (alnum_any _ _ hr.1 hr.2).mono ?_; rintro e w' ⟨rfl, rfl⟩))
          go_ret
          exact ⟨ret_int (by rw [HE.out]), rfl⟩
    · have HE : Hid (runLen (clsB s) (xs.drop at_) = j) := runLen_stop _ _ _ (by simp; omega) HN.out (.inl (by simp; omega))
      go_wp2
      go_ret
      exact ⟨ret_int (by rw [HE.out]), rfl⟩
set_option maxRecDepth 100000 in
theorem specPlainO (b o cap : Nat) (xs : List Int) (w : World) (hb : Bytes xs) (hn : xs.length ≤ 1048576)
    (hc : ∀ i, i < xs.length → w.cell? ⟨b, o + i, none⟩ = some (.int .u8 (xs.getD i 0))) :
    Calls Tryz.prog 77 #[.slice (some ⟨b, o, none⟩) xs.length cap] w fun e w' => e = .returned (.bool (plainB xs)) ∧ w' = w := by
  have hcv := run_convert_bytes_arg (P := Tryz.prog) w 28 5 Tryz.underlying28 Tryz.underlying5 b o xs.length cap xs rfl (fun i hi => by simpa using hc i hi) 9 Tryz.underlying9
  have HC : Hid (∀ i, i < xs.length → w.cell? ⟨b, o + i, none⟩ = some (.int .u8 (xs.getD i 0))) := hc
  have hss : (strOfNums xs).size = xs.length := strOfNums_size xs
  obtain ⟨s, es⟩ : ∃ s, s = strOfNums xs := ⟨_, rfl⟩
  rw [← es] at hcv hss
  have HS : Hid (s = strOfNums xs) := es
  clear es hc
  have HT : Hid (xs.length ≤ 1 → ¬ (s.extract 0 2).toList = [47, 42]) := fun h e => by
    have := congrArg List.length e
    rw [HS.out, str_cut, str_listS] at this
    simp at this
    omega
  by_cases h0 : xs.length = 0
  · have e : plainB xs = false := by unfold plainB; rw [if_pos (.inl h0)]
    rw [e]
    obtain rfl : xs = [] := List.eq_nil_of_length_eq_zero h0
    clear h0
    simp only [List.length_nil] at hcv hss ⊢
    go_enter Tryz.func77, Tryz.ntmps77
    go_wp2
    go_ret
    exact ⟨rfl, rfl⟩
  by_cases h100 : 100 < xs.length
  · have e : plainB xs = false := by unfold plainB; rw [if_pos (.inr h100)]
    rw [e]
    go_enter Tryz.func77, Tryz.ntmps77
    go_wp2
    go_ret
    exact ⟨rfl, rfl⟩
  have hc0 := HC.out 0 (by omega)
  rw [Nat.add_zero] at hc0
  have hx0 := hb.at 0
  obtain ⟨x, ex⟩ : ∃ x, x = xs.getD 0 0 := ⟨_, rfl⟩
  rw [← ex] at hc0 hx0
  have HP : Hid (plainB xs = _) := plain_str hb HS.out ex
  clear ex
  go_enter Tryz.func77, Tryz.ntmps77
  go_wp2_with (first | (go_at_call 116; refine (small_any _ _ hx0.1 hx0.2).mono ?_; rintro e w' ⟨rfl, rfl⟩) | (go_at_call 117; refine (l1runO b o cap xs 0 _ _ hb (by omega) (Nat.zero_le _) HC.out).mono ?_; rintro e w' ⟨rfl, rfl⟩))
  all_goals go_ret
  all_goals refine ⟨ret_bool ?_, rfl⟩
  all_goals rw [HP.out, if_neg (by omega)]
  all_goals clear HC HP
  all_goals go_light
  all_goals simp_all [runLen_eq]
  all_goals (first | (exfalso; omega) | exact fun _ => HT.out (by omega))
set_option maxRecDepth 100000 in
set_option maxHeartbeats 1000000 in
theorem l1quotedO (b o cap : Nat) (xs : List Int) (w : World) (hb : Bytes xs) (hn : xs.length ≤ 100) (hR : ∀ i, i < xs.length → w.cell? ⟨b, o + i, none⟩ = some (.int .u8 (xs.getD i 0))) :
    Calls Tryz.prog 79 #[.slice (some ⟨b, o, none⟩) xs.length cap] w fun e w' => ∃ p' n' c', e = .returned (.slice p' n' c') ∧ OwnS w' w.heap.size p' n' c' (quotedB xs) ∧ Below w.heap.size w w' := by
  have HR1 : Hid (∀ i, i < xs.length → w.cell? ⟨b, o + i, none⟩ = some (.int .u8 (xs.getD i 0))) := hR
  clear hR
  go_enter Tryz.func79, Tryz.ntmps79
  go_wp2
  go_loopw [4, 5] (fun v i wr => ∃ (k : Nat) (p : Option Addr) (n c : Nat), k ≤ xs.length ∧ i = .int .i64 k ∧ v = .slice p n c ∧ Hid (OwnS wr w.heap.size p n c (39 :: (xs.take k).flatMap q1)) ∧ Hid (Below w.heap.size w wr)) (fun _ i _ => xs.length - (intOf i).toNat)
  case atStart => exact ⟨0, _, _, _, Nat.zero_le _, rfl, rfl, own1 w 39, (Below.refl _ _).alloc (Nat.le_refl _) _⟩
  case round =>
    obtain ⟨k, p, n, c, hk, rfl, rfl, HO, HB⟩ := hrel
    have hlen := q1s_bound xs k hk (by omega)
    have hn' : n ≤ 600 := by rw [HO.out.len]; exact hlen
    have hsz := HB.out.size
    clear hlen
    by_cases hlt : k < xs.length
    · have hx : wr.cell? ⟨b, o + k, none⟩ = some (.int .u8 (xs.getD k 0)) := (HB.out.cell (World.block_lt_of_cell? _ _ (HR1.out k hlt))).trans (HR1.out k hlt)
      have hr := hb.at k
      obtain ⟨x, ex⟩ : ∃ x, x = xs.getD k 0 := ⟨_, rfl⟩
      rw [← ex] at hx hr
      have HX : Hid (39 :: (xs.take (k + 1)).flatMap q1 = (39 :: (xs.take k).flatMap q1) ++ q1 x) := by rw [ex]; exact q1s_snoc xs k hlt
      obtain ⟨h0, h1⟩ := hr
      clear ex
      by_cases a : x = 39
      · subst a
        have E : Hid (q1 39 = [92, 39]) := rfl
        go_wp2_with (at_builtin; refine app_bytes _ rfl _ _ rfl w.heap.size p n c _ [92, 39] 2 rfl rfl (HO.out.alloc _) _ 2 rfl (news2 _ _ _) (by decide) (by omega) (by simp; omega) ?_; intro g n1 cap1 w1 hown1 hb1 hn1)
        go_roundw
        case rel => exact ⟨k + 1, _, _, _, by omega, by go_num, rfl, by rw [HX.out, E.out]; exact hown1, (HB.out.alloc hsz _).trans hb1⟩
        case measure => simp [intOf]; omega
      have t1 : (x == 39) = false := by simpa using a
      have u1 : Hid (¬ x = 39) := a
      clear a
      by_cases a : x = 92
      · subst a
        have E : Hid (q1 92 = [92, 92]) := rfl
        go_wp2_with (at_builtin; refine app_bytes _ rfl _ _ rfl w.heap.size p n c _ [92, 92] 2 rfl rfl (HO.out.alloc _) _ 2 rfl (news2 _ _ _) (by decide) (by omega) (by simp; omega) ?_; intro g n1 cap1 w1 hown1 hb1 hn1)
        go_roundw
        case rel => exact ⟨k + 1, _, _, _, by omega, by go_num, rfl, by rw [HX.out, E.out]; exact hown1, (HB.out.alloc hsz _).trans hb1⟩
        case measure => simp [intOf]; omega
      have t2 : (x == 92) = false := by simpa using a
      have u2 : Hid (¬ x = 92) := a
      clear a
      by_cases a : x = 10
      · subst a
        have E : Hid (q1 10 = [92, 110]) := rfl
        go_wp2_with (at_builtin; refine app_bytes _ rfl _ _ rfl w.heap.size p n c _ [92, 110] 2 rfl rfl (HO.out.alloc _) _ 2 rfl (news2 _ _ _) (by decide) (by omega) (by simp; omega) ?_; intro g n1 cap1 w1 hown1 hb1 hn1)
        go_roundw
        case rel => exact ⟨k + 1, _, _, _, by omega, by go_num, rfl, by rw [HX.out, E.out]; exact hown1, (HB.out.alloc hsz _).trans hb1⟩
        case measure => simp [intOf]; omega
      have t3 : (x == 10) = false := by simpa using a
      have u3 : Hid (¬ x = 10) := a
      clear a
      by_cases a : x = 9
      · subst a
        have E : Hid (q1 9 = [92, 116]) := rfl
        go_wp2_with (at_builtin; refine app_bytes _ rfl _ _ rfl w.heap.size p n c _ [92, 116] 2 rfl rfl (HO.out.alloc _) _ 2 rfl (news2 _ _ _) (by decide) (by omega) (by simp; omega) ?_; intro g n1 cap1 w1 hown1 hb1 hn1)
        go_roundw
        case rel => exact ⟨k + 1, _, _, _, by omega, by go_num, rfl, by rw [HX.out, E.out]; exact hown1, (HB.out.alloc hsz _).trans hb1⟩
        case measure => simp [intOf]; omega
      have t4 : (x == 9) = false := by simpa using a
      have u4 : Hid (¬ x = 9) := a
      clear a
      by_cases a5 : 32 ≤ x ∧ x ≤ 126
      · have E : Hid (q1 x = [x]) := by
          have := u1.out; have := u2.out; have := u3.out; have := u4.out
          unfold q1; rw [if_neg (by omega), if_neg (by omega), if_neg (by omega), if_neg (by omega)]; rfl
        have t5 : decide (x < 32) = false := by rw [decide_eq_false_iff_not]; omega
        have t6 : decide (126 < x) = false := by rw [decide_eq_false_iff_not]; omega
        clear a5
        go_wp2_with (at_builtin; refine app_bytes _ rfl _ _ rfl w.heap.size p n c _ [x] 1 rfl rfl (HO.out.alloc _) _ 1 rfl (news1 _ _) (by decide) (by omega) (by simp; omega) ?_; intro g n1 cap1 w1 hown1 hb1 hn1)
        go_roundw
        case rel => exact ⟨k + 1, _, _, _, by omega, by go_num, rfl, by rw [HX.out, E.out]; exact hown1, (HB.out.alloc hsz _).trans hb1⟩
        case measure => simp [intOf]; omega
      have E : Hid (q1 x = [92, 120, hexD (x / 16), hexD (x % 16), 92]) := by
        have := u1.out; have := u2.out; have := u3.out; have := u4.out
        unfold q1; rw [if_neg (by omega), if_neg (by omega), if_neg (by omega), if_pos (by omega)]; rfl
      have d1 : x.tdiv 16 = x / 16 := Int.tdiv_eq_ediv_of_nonneg h0
      have d2 : x.tmod 16 = x % 16 := Int.tmod_eq_emod_of_nonneg h0
      have d3 : IntKind.u8.wrap (x / 16) = x / 16 := wrap_u8_in (by omega) (by omega)
      have d4 : IntKind.u8.wrap (x % 16) = x % 16 := wrap_u8_in (by omega) (by omega)
      have d5 : x / 16 < 16 := by omega
      have d6 : x % 16 < 16 := by omega
      have d7 : 0 ≤ x / 16 := by omega
      have d8 : 0 ≤ x % 16 := by omega
      by_cases a6 : x < 32
      · have t5 : decide (x < 32) = true := by rw [decide_eq_true_iff]; omega
        clear a5
        go_wp2
        go_region_held3 (fun _ => True) (trivial) ((refine step_app_bytes _ (by rfl) _ _ (by rfl) w.heap.size p n c _ [92, 120, _, _, 92] 5 rfl (by rfl) (HO.out.alloc _) _ 5 (by rfl) (news5 _ _ _ _ _ _) (by decide) (by omega) (by simp; omega) ?_; intro g n1 cap1 w1 hown1 hb1 hn1))
        all_goals go_wp2
        all_goals go_roundw
        all_goals rw [hex_at, hex_at] at hown1
        all_goals first | exact ⟨k + 1, _, _, _, by omega, by go_num, rfl, by rw [HX.out, E.out]; exact hown1, (HB.out.alloc hsz _).drew.trans hb1⟩ | (simp [intOf]; omega)
      · have t5 : decide (x < 32) = false := by rw [decide_eq_false_iff_not]; omega
        have t6 : decide (126 < x) = true := by rw [decide_eq_true_iff]; omega
        clear a5
        go_wp2
        go_region_held3 (fun _ => True) (trivial) ((refine step_app_bytes _ (by rfl) _ _ (by rfl) w.heap.size p n c _ [92, 120, _, _, 92] 5 rfl (by rfl) (HO.out.alloc _) _ 5 (by rfl) (news5 _ _ _ _ _ _) (by decide) (by omega) (by simp; omega) ?_; intro g n1 cap1 w1 hown1 hb1 hn1))
        all_goals go_wp2
        all_goals go_roundw
        all_goals rw [hex_at, hex_at] at hown1
        all_goals first | exact ⟨k + 1, _, _, _, by omega, by go_num, rfl, by rw [HX.out, E.out]; exact hown1, (HB.out.alloc hsz _).drew.trans hb1⟩ | (simp [intOf]; omega)
    · obtain rfl : k = xs.length := by omega
      go_wp2_with (at_builtin; refine app_bytes _ rfl _ _ rfl w.heap.size p n c _ [39] 1 rfl rfl (HO.out.alloc _) _ 1 rfl (news1 _ _) (by decide) (by omega) (by simp; omega) ?_; intro g n3 cap3 w3 hown3 hb3 hn3)
      go_ret
      exact ⟨_, _, _, rfl, by rw [List.take_length] at hown3; exact hown3, (HB.out.alloc hsz _).trans hb3⟩
set_option maxRecDepth 100000 in
theorem specQuoteO (b o cap : Nat) (xs : List Int) (w : World) (hb : Bytes xs) (hn : xs.length ≤ 1048576) (hR : ∀ i, i < xs.length → w.cell? ⟨b, o + i, none⟩ = some (.int .u8 (xs.getD i 0))) :
    Calls Tryz.prog 49 #[.slice (some ⟨b, o, none⟩) xs.length cap] w fun e w' => ∃ p' n' c', e = .returned (.slice p' n' c') ∧ OwnS w' w.heap.size p' n' c' (quoteB xs) ∧ Below w.heap.size w w' := by
  have HR : Hid (∀ i, i < xs.length → w.cell? ⟨b, o + i, none⟩ = some (.int .u8 (xs.getD i 0))) := hR
  clear hR
  by_cases h100 : 100 < xs.length
  · have e : quoteB xs = [] := by unfold quoteB; rw [if_pos h100]
    rw [e]
    clear e
    go_enter Tryz.func49, Tryz.ntmps49
    go_wp2
    go_ret
    exact ⟨_, _, _, rfl, OwnS.nil _ _, Below.refl _ _⟩
  cases hp : plainB xs
  · have e : quoteB xs = quotedB xs := by unfold quoteB; rw [if_neg h100, hp]; rfl
    rw [e]
    clear e
    go_enter Tryz.func49, Tryz.ntmps49
    go_wp2_with fail
    refine (specPlainO b o cap xs w hb hn HR.out).mono ?_
    rintro e w1 ⟨rfl, rfl⟩
    rw [hp]
    go_wp2_with (go_at_call 79; refine (l1quotedO b o cap xs _ hb (by omega) HR.out).mono ?_; rintro e w2 ⟨p2, n2, c2, rfl, hown2, hb2⟩)
    go_ret
    exact ⟨_, _, _, rfl, hown2, hb2⟩
  · have e : quoteB xs = xs := by unfold quoteB; rw [if_neg h100, hp]; rfl
    rw [e]
    clear e
    have hpos : 0 < xs.length := by
      rcases Nat.eq_zero_or_pos xs.length with h | h
      · unfold plainB at hp; rw [if_pos (.inl h)] at hp; cases hp
      · exact h
    go_enter Tryz.func49, Tryz.ntmps49
    go_wp2_with fail
    refine (specPlainO b o cap xs w hb hn HR.out).mono ?_
    rintro e w1 ⟨rfl, rfl⟩
    rw [hp]
    go_wp2_with (go_at_call 78; refine (l1copy_any b o xs.length cap xs _ rfl hpos (by omega) HR.out).mono ?_; rintro e w2 ⟨p2, n2, c2, rfl, hown2, hb2⟩)
    go_ret
    exact ⟨_, _, _, rfl, hown2, hb2⟩
set_option maxRecDepth 100000 in
theorem specPlain_nil (p : Option Addr) (cap : Nat) (w : World) : Calls Tryz.prog 77 #[.slice p 0 cap] w fun e w' => e = .returned (.bool false) ∧ w' = w := by
  have hcv := conv_str (w := w) (p := p) (xs := []) (fun h => by simp at h) 0 cap rfl 9 Tryz.underlying9
  obtain ⟨s, es⟩ : ∃ s, s = strOfNums [] := ⟨_, rfl⟩
  rw [← es] at hcv
  clear es
  go_enter Tryz.func77, Tryz.ntmps77
  go_wp2
  go_ret
  exact ⟨rfl, rfl⟩
set_option maxRecDepth 100000 in
theorem l1quoted_nil (p : Option Addr) (cap : Nat) (w : World) : Calls Tryz.prog 79 #[.slice p 0 cap] w fun e w' => ∃ p' n' c', e = .returned (.slice p' n' c') ∧ OwnS w' w.heap.size p' n' c' [39, 39] ∧ Below w.heap.size w w' := by
  go_enter Tryz.func79, Tryz.ntmps79
  go_wp2
  go_loopw [4, 5] (fun v i wr => i = .int .i64 0 ∧ ∃ (p : Option Addr) (n c : Nat), v = .slice p n c ∧ Hid (OwnS wr w.heap.size p n c [39]) ∧ Hid (Below w.heap.size w wr)) (fun _ i _ => 0)
  case atStart => exact ⟨rfl, _, _, _, rfl, own1 w 39, (Below.refl _ _).alloc (Nat.le_refl _) _⟩
  case round =>
    obtain ⟨rfl, p, n, c, rfl, HO, HB⟩ := hrel
    have hsz := HB.out.size
    have hn' : n ≤ 600 := by rw [HO.out.len]; decide
    go_wp2_with (at_builtin; refine app_bytes _ rfl _ _ rfl w.heap.size p n c _ [39] 1 rfl rfl (HO.out.alloc _) _ 1 rfl (news1 _ _) (by decide) (by omega) (by simp; omega) ?_; intro g n3 cap3 w3 hown3 hb3 hn3)
    go_ret
    exact ⟨_, _, _, rfl, hown3, (HB.out.alloc hsz _).trans hb3⟩
set_option maxRecDepth 100000 in
theorem specQuote_in (p : Option Addr) (cap : Nat) (xs : List Int) (w : World) (hb : Bytes xs) (hn : xs.length ≤ 1048576) (hx : BIn w p xs) :
    Calls Tryz.prog 49 #[.slice p xs.length cap] w fun e w' => ∃ p' n' c', e = .returned (.slice p' n' c') ∧ OwnS w' w.heap.size p' n' c' (quoteB xs) ∧ Below w.heap.size w w' := by
  by_cases h0 : 0 < xs.length
  · obtain ⟨b, o, rfl, hc⟩ := hx h0
    exact specQuoteO b o cap xs w hb hn hc
  · obtain rfl : xs = [] := List.eq_nil_of_length_eq_zero (by omega)
    clear hx hb hn h0
    simp only [List.length_nil]
    go_enter Tryz.func49, Tryz.ntmps49
    go_wp2_with fail
    refine (specPlain_nil p cap w).mono ?_
    rintro e w1 ⟨rfl, rfl⟩
    go_wp2_with (go_at_call 79; refine (l1quoted_nil p cap _).mono ?_; rintro e w2 ⟨p2, n2, c2, rfl, hown2, hb2⟩)
    go_ret
    exact ⟨_, _, _, rfl, hown2, hb2⟩
end Go.Proofs.YtjhbplgppakhoaaGreatDoor

