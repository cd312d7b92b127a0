/- Texts of Quote, Clone, Quote2, WtP. Own work of the verifier. -/
import Derived.Test.YtfgmenkoeflhaaaGreatDoorUqao
namespace Go.Proofs.YtfgmenkoeflhaaaGreatDoor
set_option maxRecDepth 100000
open Go Go.RowKit
set_option linter.unusedVariables false
def hexL : List Int := [48, 49, 50, 51, 52, 53, 54, 55, 56, 57, 97, 98, 99, 100, 101, 102]
def hexD (k : Int) : Int := hexL.getD k.toNat 0
def q1 (c : Int) : List Int :=
 if c = 39 ∨ c = 92 then [92, c] else if c = 10 then [92, 110] else if c = 9 then [92, 116]
 else if c < 32 ∨ 126 < c then [92, 120, hexD (c / 16), hexD (c % 16), 92] else [c]
theorem hex_fin : ∀ k : Fin 16, ((((⟨#[48, 49, 50, 51, 52, 53, 54, 55, 56, 57, 97, 98, 99, 100, 101, 102]⟩ : ByteArray)[k.1]'k.2).toNat : Nat) : Int) = hexL.getD k.1 0 := by decide +kernel
theorem hex_at (x : Int) (h : x.toNat < (⟨#[48, 49, 50, 51, 52, 53, 54, 55, 56, 57, 97, 98, 99, 100, 101, 102]⟩ : ByteArray).size) : ((((⟨#[48, 49, 50, 51, 52, 53, 54, 55, 56, 57, 97, 98, 99, 100, 101, 102]⟩ : ByteArray)[x.toNat]'h).toNat : Nat) : Int) = hexD x := hex_fin ⟨x.toNat, h⟩
theorem and15_all : (List.range 256).all (fun c => bits BinOp.and .u8 c 15 == (c : Int) % 16) = true := by decide +kernel
theorem and15 {c : Int} (h0 : 0 ≤ c) (h1 : c < 256) : bits BinOp.and .u8 c 15 = c % 16 := by
 have h := List.all_eq_true.1 and15_all c.toNat (by simp; omega); rw [show ((c.toNat : Nat) : Int) = c by omega] at h
 simpa using h
theorem news2 (w : World) (a b : Int) : ∀ j u, (([a, b] : List Int).map (Value.int .u8))[j]? = some u → (w.alloc (.cells #[.int .u8 a, .int .u8 b] 5)).cell? ((⟨w.heap.size, 0, none⟩ : Addr).add j) = some u :=
 World.news_of_block (cs := #[.int .u8 a, .int .u8 b]) (heap_alloc_new w _)
theorem news1 (w : World) (a : Int) : ∀ j u, (([a] : List Int).map (Value.int .u8))[j]? = some u → (w.alloc (.cells #[.int .u8 a] 5)).cell? ((⟨w.heap.size, 0, none⟩ : Addr).add j) = some u :=
 World.news_of_block (cs := #[.int .u8 a]) (heap_alloc_new w _)
theorem news5 (w : World) (a b c d e : Int) : ∀ j u, (([a, b, c, d, e] : List Int).map (Value.int .u8))[j]? = some u → (w.alloc (.cells #[.int .u8 a, .int .u8 b, .int .u8 c, .int .u8 d, .int .u8 e] 5)).cell? ((⟨w.heap.size, 0, none⟩ : Addr).add j) = some u :=
 World.news_of_block (cs := #[.int .u8 a, .int .u8 b, .int .u8 c, .int .u8 d, .int .u8 e]) (heap_alloc_new w _)
theorem appendQuoted_any (B : Nat) (p : Option Addr) (n c : Nat) (ys : List Int) (x : Int) (w : World) (hn : n ≤ 100000000) (h0 : 0 ≤ x) (h1 : x < 256) (hown : OwnS w B p n c ys) (hB : B ≤ w.heap.size) :
 Calls Tryz.prog 20 #[.slice p n c, .int .u8 x] w fun e w' => ∃ p' n' c', e = .returned (.slice p' n' c') ∧ OwnS w' B p' n' c' (ys ++ q1 x) ∧ Below B w w' := by
 have HO : Hid (OwnS w B p n c ys) := hown; clear hown
 by_cases a1 : x = 39
 ·subst a1
  rw [show q1 39 = [92, 39] from rfl]
  go_enter Tryz.func20, Tryz.ntmps20
  go_wp2_with (at_builtin; refine app_bytes _ rfl _ _ rfl B p n c ys [92, 39] 2 rfl rfl (HO.out.alloc _) _ 2 rfl (news2 _ _ _) (by decide) (by omega) (by simp; omega) ?_; intro g n' cap w1 hown1 hb1 hn1); go_ret; exact ⟨_, _, _, rfl, hown1, ((Below.refl _ _).alloc hB _).trans hb1⟩
 by_cases a2 : x = 92
 ·subst a2
  rw [show q1 92 = [92, 92] from rfl]; clear a1
  go_enter Tryz.func20, Tryz.ntmps20
  go_wp2_with (at_builtin; refine app_bytes _ rfl _ _ rfl B p n c ys [92, 92] 2 rfl rfl (HO.out.alloc _) _ 2 rfl (news2 _ _ _) (by decide) (by omega) (by simp; omega) ?_; intro g n' cap w1 hown1 hb1 hn1); go_ret; exact ⟨_, _, _, rfl, hown1, ((Below.refl _ _).alloc hB _).trans hb1⟩
 by_cases a3 : x = 10
 ·subst a3
  rw [show q1 10 = [92, 110] from rfl]; clear a1 a2
  go_enter Tryz.func20, Tryz.ntmps20
  go_wp2_with (at_builtin; refine app_bytes _ rfl _ _ rfl B p n c ys [92, 110] 2 rfl rfl (HO.out.alloc _) _ 2 rfl (news2 _ _ _) (by decide) (by omega) (by simp; omega) ?_; intro g n' cap w1 hown1 hb1 hn1); go_ret; exact ⟨_, _, _, rfl, hown1, ((Below.refl _ _).alloc hB _).trans hb1⟩
 by_cases a4 : x = 9
 ·subst a4
  rw [show q1 9 = [92, 116] from rfl]; clear a1 a2 a3
  go_enter Tryz.func20, Tryz.ntmps20
  go_wp2_with (at_builtin; refine app_bytes _ rfl _ _ rfl B p n c ys [92, 116] 2 rfl rfl (HO.out.alloc _) _ 2 rfl (news2 _ _ _) (by decide) (by omega) (by simp; omega) ?_; intro g n' cap w1 hown1 hb1 hn1); go_ret; exact ⟨_, _, _, rfl, hown1, ((Below.refl _ _).alloc hB _).trans hb1⟩
 have t1 : (x == 39) = false := by simpa using a1
 have t2 : (x == 92) = false := by simpa using a2
 have t3 : (x == 10) = false := by simpa using a3
 have t4 : (x == 9) = false := by simpa using a4
 by_cases a5 : 32 ≤ x ∧ x ≤ 126
 ·have e : q1 x = [x] := by unfold q1; rw [if_neg (by omega), if_neg (by omega), if_neg (by omega), if_neg (by omega)]
  rw [e]
  have t5 : decide (x < 32) = false := by rw [decide_eq_false_iff_not]; omega
  have t6 : decide (126 < x) = false := by rw [decide_eq_false_iff_not]; omega
  clear a1 a2 a3 a4 a5 e
  go_enter Tryz.func20, Tryz.ntmps20
  go_wp2_with (at_builtin; refine app_bytes _ rfl _ _ rfl B p n c ys [x] 1 rfl rfl (HO.out.alloc _) _ 1 rfl (news1 _ _) (by decide) (by omega) (by simp; omega) ?_; intro g n' cap w1 hown1 hb1 hn1); go_ret; exact ⟨_, _, _, rfl, hown1, ((Below.refl _ _).alloc hB _).trans hb1⟩
 have e : q1 x = [92, 120, hexD (x / 16), hexD (x % 16), 92] := by unfold q1; rw [if_neg (by omega), if_neg (by omega), if_neg (by omega), if_pos (by omega)]
 rw [e]; clear e
 by_cases a6 : x < 32
 ·have t5 : decide (x < 32) = true := by rw [decide_eq_true_iff]; omega
  have h15 := and15 h0 h1; clear a1 a2 a3 a4 a5
  go_enter Tryz.func20, Tryz.ntmps20
  go_wp2
  go_region_held3 (fun _ => True) (trivial) ((refine step_app_bytes _ (by rfl) _ _ (by rfl) B p n c ys [92, 120, _, _, 92] 5 rfl (by rfl) (HO.out.alloc _) _ 5 (by rfl) (news5 _ _ _ _ _ _) (by decide) (by omega) (by simp; omega) ?_; intro g n' cap w1 hown1 hb1 hn1))
  all_goals go_wp2
  all_goals go_ret
  all_goals rw [hex_at, hex_at] at hown1
  all_goals exact ⟨_, _, _, rfl, hown1, ((Below.refl _ _).alloc hB _).drew.trans hb1⟩
 ·have t5 : decide (x < 32) = false := by rw [decide_eq_false_iff_not]; omega
  have t6 : decide (126 < x) = true := by rw [decide_eq_true_iff]; omega
  have h15 := and15 h0 h1; clear a1 a2 a3 a4 a5 a6
  go_enter Tryz.func20, Tryz.ntmps20
  go_wp2
  go_region_held3 (fun _ => True) (trivial) ((refine step_app_bytes _ (by rfl) _ _ (by rfl) B p n c ys [92, 120, _, _, 92] 5 rfl (by rfl) (HO.out.alloc _) _ 5 (by rfl) (news5 _ _ _ _ _ _) (by decide) (by omega) (by simp; omega) ?_; intro g n' cap w1 hown1 hb1 hn1))
  all_goals go_wp2
  all_goals go_ret
  all_goals rw [hex_at, hex_at] at hown1
  all_goals exact ⟨_, _, _, rfl, hown1, ((Below.refl _ _).alloc hB _).drew.trans hb1⟩
theorem news_ofS {w : World} {b o : Nat} {xs : List Int} (hc : ∀ i, i < xs.length → w.cell? ⟨b, o + i, none⟩ = some (.int .u8 (xs.getD i 0))) : ∀ j u, (xs.map (Value.int .u8))[j]? = some u → w.cell? ((⟨b, o, none⟩ : Addr).add j) = some u := fun j u hu => by
 have hj : j < xs.length := by
  rcases Nat.lt_or_ge j xs.length with h | h
  ·exact h
  ·simp [List.getElem?_eq_none h] at hu
 have e : (⟨b, o, none⟩ : Addr).add j = ⟨b, o + j, none⟩ := by unfold Addr.add; split <;> simp_all
 rw [e, hc j hj, ← hu]
 simp [List.getD, hj]
theorem l1copy_any (b o n c : Nat) (xs : List Int) (w : World) (hn : n = xs.length) (h0 : 0 < n) (hm : n ≤ 1000000) (hc : ∀ i, i < xs.length → w.cell? ⟨b, o + i, none⟩ = some (.int .u8 (xs.getD i 0))) :
 Calls Tryz.prog 38 #[.slice (some ⟨b, o, none⟩) n c] w fun e w' => ∃ p' n' c', e = .returned (.slice p' n' c') ∧ OwnS w' w.heap.size p' n' c' xs ∧ Below w.heap.size w w' := by
 have HC : Hid (∀ i, i < xs.length → w.cell? ⟨b, o + i, none⟩ = some (.int .u8 (xs.getD i 0))) := hc; have HN : Hid (n = xs.length) := hn; clear hc hn
 go_enter Tryz.func38, Tryz.ntmps38
 go_wp2_with (at_builtin; refine app_bytes _ rfl _ _ rfl w.heap.size none 0 0 [] xs n HN.out rfl (OwnS.nil _ _) _ c rfl (news_ofS HC.out) h0 (by omega) (Nat.le_refl _) ?_; intro g n' cap w1 hown1 hb1 hn1); go_ret; exact ⟨_, _, _, rfl, hown1, hb1⟩
theorem clone_any (b o n c : Nat) (xs : List Int) (w : World) (hn : n = xs.length) (h0 : 0 < n) (hm : n ≤ 1000000) (hc : ∀ i, i < xs.length → w.cell? ⟨b, o + i, none⟩ = some (.int .u8 (xs.getD i 0))) :
 Calls Tryz.prog 19 #[.slice (some ⟨b, o, none⟩) n c] w fun e w' => ∃ p' n' c', e = .returned (.slice p' n' c') ∧ OwnS w' w.heap.size p' n' c' xs ∧ Below w.heap.size w w' := by
 have HC : Hid (∀ o' i, i < xs.length → (w.alloc o').cell? ⟨b, o + i, none⟩ = some (.int .u8 (xs.getD i 0))) := fun o' i hi => Lib.cell?_alloc_marked o' (hc i hi)
 have HN : Hid (n = xs.length) := hn; clear hc hn
 have hnil : ∀ (w : World) (a : Option Addr) (n c n' c' : Nat), (binOp .eql 22 (.slice a n c) (.slice none n' c')).run Tryz.prog w = .ok (.bool a.isNone) w := fun w a n c n' c' => Lib.run_eql_slice_nil w _ _ a n c n' c' Tryz.underlying22
 go_enter Tryz.func19, Tryz.ntmps19
 go_wp2_with (at_builtin; refine app_bytes _ rfl _ _ rfl w.heap.size _ 0 _ [] xs n HN.out rfl ⟨rfl, World.ownsRow_lit w #[] 0 (Nat.le_refl _) (Nat.zero_le _) rfl⟩ _ c rfl (news_ofS (HC.out _)) h0 (by omega) (by simp) ?_; intro g n' cap w1 hown1 hb1 hn1); go_ret; exact ⟨_, _, _, rfl, hown1, ((Below.refl _ _).alloc (Nat.le_refl _) _).trans hb1⟩
def quotedB (xs : List Int) : List Int := 39 :: (xs.flatMap q1 ++ [39])
def quoteB (xs : List Int) : List Int := if 100 < xs.length then [] else if plainB xs then xs else quotedB xs
theorem q1_len (x : Int) : (q1 x).length ≤ 5 := by
 unfold q1; repeat' split
 all_goals simp
theorem q1s_len : ∀ xs : List Int, (xs.flatMap q1).length ≤ 5 * xs.length
 | [] => by simp
 | x :: r => by have := q1_len x; have := q1s_len r; rw [List.flatMap_cons, List.length_append, List.length_cons]; omega
theorem q1s_snoc (xs : List Int) (k : Nat) (h : k < xs.length) : 39 :: (xs.take (k + 1)).flatMap q1 = (39 :: (xs.take k).flatMap q1) ++ q1 (xs.getD k 0) := by
 rw [List.take_succ_eq_append_getElem h, List.flatMap_append]
 simp [List.getD, h]
theorem q1s_bound (xs : List Int) (k : Nat) (hk : k ≤ xs.length) (hn : xs.length ≤ 100) : (39 :: (xs.take k).flatMap q1).length ≤ 600 := by
 have := q1s_len (xs.take k); have : (xs.take k).length ≤ k := List.length_take_le _ _; simp only [List.length_cons]; omega
theorem own1 (w : World) (a : Int) : OwnS (w.alloc (.cells #[.int .u8 a] 5)) w.heap.size (some ⟨w.heap.size, 0, none⟩) 1 1 [a] := ⟨rfl, World.ownsRow_lit w #[.int .u8 a] 1 (Nat.le_refl _) (by unfold maxLen; omega) rfl⟩
theorem implQuote_any (b cap : Nat) (xs : List Int) (w : World) (hb : Bytes xs) (hn : xs.length ≤ 1048576) (hcap : xs.length ≤ cap) (hR : Row w b xs) (hT : Tab w) :
 Calls Tryz.prog 9 #[.slice (some ⟨b, 0, none⟩) xs.length cap] w fun e w' => ∃ p' n' c', e = .returned (.slice p' n' c') ∧ OwnS w' w.heap.size p' n' c' (quoteB xs) ∧ Below w.heap.size w w' := by
 have HR : Hid (Row w b xs) := hR; have HT : Hid (Tab w) := hT; clear hR hT
 by_cases h100 : 100 < xs.length
 ·have e : quoteB xs = [] := by unfold quoteB; rw [if_pos h100]
  rw [e]; clear e
  go_enter Tryz.func9, Tryz.ntmps9
  go_wp2
  go_ret; exact ⟨_, _, _, rfl, OwnS.nil _ _, Below.refl _ _⟩
 cases hp : plainB xs
 ·have e : quoteB xs = quotedB xs := by unfold quoteB; rw [if_neg h100, hp]; rfl
  rw [e]; clear e
  go_enter Tryz.func9, Tryz.ntmps9
  go_wp2_with fail; refine (implPlain_any b cap xs w hb hn hcap HR.out.2 HT.out).mono ?_; rintro e w1 ⟨rfl, hb1⟩; rw [hp]; have HB1 : Hid (Below w.heap.size w w1) := hb1; have HR1 : Hid (Row w1 b xs) := HR.out.below hb1; have hsz : w.heap.size ≤ w1.heap.size := hb1.size; clear hb1 HT
  go_wp2
  go_loopw [3, 16] (fun v i wr => ∃ (k : Nat) (p : Option Addr) (n c : Nat), k ≤ xs.length ∧ i = .int .i64 k ∧ v = .slice p n c ∧ Hid (OwnS wr w1.heap.size p n c (39 :: (xs.take k).flatMap q1)) ∧ Hid (Below w1.heap.size w1 wr)) (fun _ i _ => xs.length - (intOf i).toNat)
  case atStart => exact ⟨0, _, _, _, Nat.zero_le _, rfl, rfl, own1 w1 39, (Below.refl _ _).alloc (Nat.le_refl _) _⟩
  case round =>
   obtain ⟨k, p, n, c, hk, rfl, rfl, HO, HB⟩ := hrel; have hlen := q1s_bound xs k hk (by omega)
   have hn' : n ≤ 600 := by rw [HO.out.len]; exact hlen
   clear hlen
   by_cases hlt : k < xs.length
   ·have hx : wr.cell? ⟨b, k, none⟩ = some (.int .u8 (xs.getD k 0)) := (HR1.out.below HB.out).2 k hlt
    have hr := hb.at k
    obtain ⟨x, ex⟩ : ∃ x, x = xs.getD k 0 := ⟨_, rfl⟩
    rw [← ex] at hx hr; have HX : Hid (x = xs.getD k 0) := ex; clear ex; go_wp2_with (go_at_call 20; refine (appendQuoted_any w1.heap.size p n c _ x wr (by omega) hr.1 hr.2 HO.out HB.out.size).mono ?_; rintro e w2 ⟨p2, n2, c2, rfl, hown2, hb2⟩); go_roundw
    case rel => exact ⟨k + 1, _, _, _, by omega, by go_num, rfl, by rw [q1s_snoc xs k hlt, ← HX.out]; exact hown2, HB.out.trans hb2⟩
    case measure => simp [intOf]; omega
   ·obtain rfl : k = xs.length := by omega
    go_wp2_with (at_builtin; refine app_bytes _ rfl _ _ rfl w1.heap.size p n c _ [39] 1 rfl rfl (HO.out.alloc _) _ 1 rfl (news1 _ _) (by decide) (by omega) (by have := HB.out.size; simp; omega) ?_; intro g n3 cap3 w3 hown3 hb3 hn3); go_ret
    exact ⟨_, _, _, rfl, by
     have h := hown3; rw [List.take_length] at h
     exact ⟨h.1, h.2.1, h.2.2.imp id fun ⟨g, c, cur, a1, a2, a3⟩ => ⟨g, c, cur, a1, Nat.le_trans hsz a2, a3⟩⟩, Below.on HB1.out ((HB.out.alloc HB.out.size _).trans hb3)⟩
 ·have e : quoteB xs = xs := by unfold quoteB; rw [if_neg h100, hp]; rfl
  rw [e]; clear e
  have hpos : 0 < xs.length := by
   rcases Nat.eq_zero_or_pos xs.length with h | h
   ·unfold plainB at hp; rw [if_pos (.inl h)] at hp; cases hp
   ·exact h
  go_enter Tryz.func9, Tryz.ntmps9
  go_wp2_with fail; refine (implPlain_any b cap xs w hb hn hcap HR.out.2 HT.out).mono ?_; rintro e w1 ⟨rfl, hb1⟩; rw [hp]; have HB1 : Hid (Below w.heap.size w w1) := hb1; have HR1 : Hid (Row w1 b xs) := HR.out.below hb1; have hsz : w.heap.size ≤ w1.heap.size := hb1.size; clear hb1 HT; go_wp2_with (go_at_call 19; refine (clone_any b 0 xs.length cap xs w1 rfl hpos (by omega) (fun i hi => by rw [Nat.zero_add]; exact HR1.out.2 i hi)).mono ?_; rintro e w2 ⟨p2, n2, c2, rfl, hown2, hb2⟩); go_ret; exact ⟨_, _, _, rfl, ⟨hown2.1, hown2.2.1, hown2.2.2.imp id fun ⟨g, c, cur, a1, a2, a3⟩ => ⟨g, c, cur, a1, Nat.le_trans hsz a2, a3⟩⟩, Below.on HB1.out hb2⟩
def decF : Nat → Int → List Int
 | 0, _ => []
 | f + 1, v => if v < 0 ∧ -10 < v then [45, 48 - v] else if v < 0 then decF f (v.tdiv 10) ++ [48 - v.tmod 10] else if v < 10 then [48 + v] else decF f (v.tdiv 10) ++ [48 + v.tmod 10]
def decW (v : Int) : List Int := decF 20 v
theorem dec_more : ∀ (f g : Nat) (v : Int), (v.natAbs < 10 ^ f) → decF (f + 1 + g) v = decF (f + 1) v
 | 0, g, v, h => by
   have hv : v = 0 := by simp at h; exact h
   subst hv; rw [show 0 + 1 + g = g + 1 by omega]
   rfl
 | f + 1, g, v, h => by
   have h2 : (v.tdiv 10).natAbs < 10 ^ f := by
    rw [Int.natAbs_tdiv]; rw [Nat.pow_succ] at h; exact Nat.div_lt_of_lt_mul (by rw [Nat.mul_comm]; exact h)
   have e := dec_more f g (v.tdiv 10) h2; rw [show f + 1 + 1 + g = (f + 1 + g) + 1 by omega]
   conv => lhs; unfold decF
   conv => rhs; unfold decF
   rw [e]
def atomW (q : Bool) (xs : List Int) : List Int := if q then quoteB xs else xs
def infB (t : Int) : Bool := decide (t ≤ 2)
def leftP (op : Cel) : Int := if op.2.1 = 2 ∨ op.2.1 = 6 then op.1 else op.1 - 1
def rightP (op : Cel) : Int := if op.2.1 = 1 ∨ op.2.1 = 3 then op.1 else op.1 - 1
def findW (T : List Cel) (xs : List Int) (pf : Bool) : Int := fIdx (strOfNums xs).toList pf 0 T
def curly : Cel := (3, 1, [123, 125])
def opW (T : List Cel) (i : Int) : Cel := T.getD i.toNat Cel.none
def topI (T : List Cel) (c : Cel) : Int :=
 if c.1 ≠ 3 ∨ c = dot ∨ c = curly ∨ 2 < c.2.1 then -1
 else if c.2.1 = 2 then (if 0 ≤ findW T c.2.2 false ∧ infB (opW T (findW T c.2.2 false)).2.1 = false then -1 else findW T c.2.2 false)
 else if 0 ≤ findW T c.2.2 true then findW T c.2.2 true
 else if 0 ≤ findW T c.2.2 false ∧ infB (opW T (findW T c.2.2 false)).2.1 = true then -1 else findW T c.2.2 false
def spacedB (xs : List Int) : Bool := (decide (runLen symbolB xs ≠ xs.length) || !plainB xs) && (decide (xs ≠ [44]) && (decide (xs ≠ [59]) && decide (xs ≠ [33])))
def lastI (a : List Int) : Int := a.getD (a.length - 1) 0
def gapW (a b : List Int) : List Int := if a = [] ∨ b = [] then [] else if (alnumB (lastI a) = true ∧ alnumB (b.getD 0 0) = true) ∨ (symbolB (lastI a) = true ∧ symbolB (b.getD 0 0) = true) then [32] else []
def parW (s : List Int) : List Int := 40 :: (s ++ [41])
def operandW (rec : Tr → Int → List Int) (T : List Cel) (t : Tr) (p : Int) (left : Bool) (op : Cel) : List Int :=
 if t.1.1 = 2 ∧ (0 ≤ findW T t.1.2.2 true ∨ 0 ≤ findW T t.1.2.2 false) then parW (rec t p)
 else if left = true ∧ 0 ≤ topI T t.1 ∧ (opW T (topI T t.1)).1 = op.1 ∧ p = op.1 ∧ ((opW T (topI T t.1)).2.1 = 1 ∨ (opW T (topI T t.1)).2.1 = 3) then parW (rec t p)
 else rec t p
def joinW : List (List Int) → List Int
 | [] => []
 | [a] => a
 | a :: b :: r => a ++ (44 :: joinW (b :: r))
def headW (q : Bool) (xs : List Int) : List Int := if q = true ∧ (atomW q xs = [91, 93] ∨ atomW q xs = [123, 125]) then 39 :: (atomW q xs ++ [39]) else atomW q xs
def plainW (rec : Tr → Int → List Int) (q : Bool) (t : Tr) : List Int := headW q t.1.2.2 ++ [40] ++ joinW ((trs t.2).map (rec · 999)) ++ [41]
def nameW (q : Bool) (op : Cel) : List Int := if op.2.2 = [44] then [44] else atomW q op.2.2
def preGap (q : Bool) (op : Cel) (arg : List Int) : List Int :=
 if spacedB op.2.2 = true then [32] else if arg ≠ [] ∧ (arg.getD 0 0 = 40 ∨ (op.2.2 = [45] ∧ digitB (arg.getD 0 0) = true)) then [32] else gapW (nameW q op) arg
def midGap (op : Cel) (a b : List Int) : List Int := if spacedB op.2.2 = true then [32] else gapW a b
def kidW (t : Tr) (i : Nat) : Tr := (trs t.2).getD i (Cel.none, .nil)
def operW (rec : Tr → Int → List Int) (T : List Cel) (q : Bool) (t : Tr) (op : Cel) : List Int :=
 if preB op.2.1 = true then nameW q op ++ preGap q op (operandW rec T (kidW t 0) (rightP op) false op) ++ operandW rec T (kidW t 0) (rightP op) false op
 else
  let l := operandW rec T (kidW t 0) (leftP op) true op
  let s := l ++ midGap op l (nameW q op) ++ nameW q op
  if infB op.2.1 = true then
   let r := operandW rec T (kidW t 1) (rightP op) false op
   s ++ (midGap op (nameW q op) r ++ r)
  else s
def compW (rec : Tr → Int → List Int) (T : List Cel) (q : Bool) (t : Tr) (p : Int) : List Int :=
 if topI T t.1 < 0 then plainW rec q t
 else if p < (opW T (topI T t.1)).1 then parW (operW rec T q t (opW T (topI T t.1))) else operW rec T q t (opW T (topI T t.1))
def listW (rec : Tr → Int → List Int) (t : Tr) : List Int :=
 91 :: (joinW ((splitF t.1 t.2).1.map (rec · 999)) ++ ((if (splitF t.1 t.2).2.1 = nilC then [] else 124 :: rec (splitF t.1 t.2).2 999) ++ [93]))
def varW (N : List (List Int)) (n : Int) : List Int := if n < N.length ∧ 0 < (N.getD n.toNat []).length then N.getD n.toNat [] else 95 :: decW n
def textF (T : List Cel) (N : List (List Int)) (q : Bool) : Nat → Tr → Int → List Int
 | 0, _, _ => []
 | f + 1, t, p =>
   if t.1.1 = 0 then varW N t.1.2.1 else if t.1.1 = 1 then decW t.1.2.1 else if t.1.1 = 2 then atomW q t.1.2.2
   else if t.1 = dot then listW (textF T N q f) t
   else if t.1 = curly then 123 :: (textF T N q f (kidW t 0) 1200 ++ [125])
   else compW (textF T N q f) T q t p
end Go.Proofs.YtfgmenkoeflhaaaGreatDoor
