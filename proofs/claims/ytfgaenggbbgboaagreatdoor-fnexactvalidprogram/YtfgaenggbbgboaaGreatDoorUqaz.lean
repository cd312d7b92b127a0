/- Texts of SpK, SpC, NbS1, NbS2, NbS3. Own work of the verifier. -/
import Derived.Test.YtfgaenggbbgboaaGreatDoorUqau
import Derived.Test.YtfgaenggbbgboaaGreatDoorUqan
import Derived.Test.YtfgaenggbbgboaaGreatDoorUqap
import Derived.Test.YtfgaenggbbgboaaGreatDoorUqay
import Derived.Test.YtfgaenggbbgboaaGreatDoorUqaq
import Derived.Test.YtfgaenggbbgboaaGreatDoorUqaf
namespace Go.Proofs.YtfgaenggbbgboaaGreatDoor
open Go Go.RowKit
set_option linter.unusedVariables false
def con7 (s : ByteArray) (k n : Int) : Bool := isB s ⟨#[44]⟩ k n 2 || isB s ⟨#[59]⟩ k n 2 || isB s ⟨#[45, 62]⟩ k n 2 || isB s ⟨#[92, 43]⟩ k n 1 || isB s ⟨#[111, 110, 99, 101]⟩ k n 1 || isB s ⟨#[102, 111, 114, 97, 108, 108]⟩ k n 2 || isB s ⟨#[33]⟩ k n 0
set_option maxRecDepth 100000 in
set_option maxHeartbeats 400000 in
theorem l8construct_any (s : ByteArray) (k n : Int) (b o : Nat) (q : Option Addr) (m qc len cap : Nat) (w : World) (hlen : 0 < len)
    (d0 : w.cell? ⟨b, o, none⟩ = some (.int .i64 k)) (d1 : w.cell? ⟨b, o + 1, none⟩ = some (.int .i64 n)) (d2 : w.cell? ⟨b, o + 2, none⟩ = some (.slice q m qc))
    (hcv : (convert 37 9 (.slice q m qc)).run Tryz.prog w = .ok (.string s) w) :
    Calls Tryz.prog 31 #[.slice (some ⟨b, o, none⟩) len cap] w fun e w' => e = .returned (.bool (con7 s k n)) ∧ w' = w := by
  have HL := fun nm ar => l2isG_any s nm k n ar b o q m qc len cap w hlen d0 d1 d2 hcv
  have HF : Hid (∀ b, b = con7 s k n → Ending.returned (.bool b) = .returned (.bool (con7 s k n))) := fun b h => ret_bool h
  have HR : Hid (con7 s k n = (isB s ⟨#[44]⟩ k n 2 || isB s ⟨#[59]⟩ k n 2 || isB s ⟨#[45, 62]⟩ k n 2 || isB s ⟨#[92, 43]⟩ k n 1 || isB s ⟨#[111, 110, 99, 101]⟩ k n 1 || isB s ⟨#[102, 111, 114, 97, 108, 108]⟩ k n 2 || isB s ⟨#[33]⟩ k n 0)) := rfl
  have H0 := HL ⟨#[44]⟩ 2
  have H1 := HL ⟨#[59]⟩ 2
  have H2 := HL ⟨#[45, 62]⟩ 2
  have H3 := HL ⟨#[92, 43]⟩ 1
  have H4 := HL ⟨#[111, 110, 99, 101]⟩ 1
  have H5 := HL ⟨#[102, 111, 114, 97, 108, 108]⟩ 2
  have H6 := HL ⟨#[33]⟩ 0
  clear HL d0 d1 d2 hcv hlen
  cases h0 : isB s ⟨#[44]⟩ k n 2
  rotate_left
  · rw [h0] at HR
    rw [h0] at H0
    go_enter Tryz.func31, Tryz.ntmps31
    go_wp2_with fail
    refine H0.mono ?_
    rintro e w0 ⟨rfl, rfl⟩
    go_wp2_with fail
    go_ret
    exact ⟨HF.out _ (by rw [HR.out]; rfl), rfl⟩
  cases h1 : isB s ⟨#[59]⟩ k n 2
  rotate_left
  · rw [h0, h1] at HR
    rw [h0] at H0
    rw [h1] at H1
    go_enter Tryz.func31, Tryz.ntmps31
    go_wp2_with fail
    refine H0.mono ?_
    rintro e w0 ⟨rfl, rfl⟩
    go_wp2_with fail
    refine H1.mono ?_
    rintro e w1 ⟨rfl, rfl⟩
    go_wp2_with fail
    go_ret
    exact ⟨HF.out _ (by rw [HR.out]; rfl), rfl⟩
  cases h2 : isB s ⟨#[45, 62]⟩ k n 2
  rotate_left
  · rw [h0, h1, h2] at HR
    rw [h0] at H0
    rw [h1] at H1
    rw [h2] at H2
    go_enter Tryz.func31, Tryz.ntmps31
    go_wp2_with fail
    refine H0.mono ?_
    rintro e w0 ⟨rfl, rfl⟩
    go_wp2_with fail
    refine H1.mono ?_
    rintro e w1 ⟨rfl, rfl⟩
    go_wp2_with fail
    refine H2.mono ?_
    rintro e w2 ⟨rfl, rfl⟩
    go_wp2_with fail
    go_ret
    exact ⟨HF.out _ (by rw [HR.out]; rfl), rfl⟩
  cases h3 : isB s ⟨#[92, 43]⟩ k n 1
  rotate_left
  · rw [h0, h1, h2, h3] at HR
    rw [h0] at H0
    rw [h1] at H1
    rw [h2] at H2
    rw [h3] at H3
    go_enter Tryz.func31, Tryz.ntmps31
    go_wp2_with fail
    refine H0.mono ?_
    rintro e w0 ⟨rfl, rfl⟩
    go_wp2_with fail
    refine H1.mono ?_
    rintro e w1 ⟨rfl, rfl⟩
    go_wp2_with fail
    refine H2.mono ?_
    rintro e w2 ⟨rfl, rfl⟩
    go_wp2_with fail
    refine H3.mono ?_
    rintro e w3 ⟨rfl, rfl⟩
    go_wp2_with fail
    go_ret
    exact ⟨HF.out _ (by rw [HR.out]; rfl), rfl⟩
  cases h4 : isB s ⟨#[111, 110, 99, 101]⟩ k n 1
  rotate_left
  · rw [h0, h1, h2, h3, h4] at HR
    rw [h0] at H0
    rw [h1] at H1
    rw [h2] at H2
    rw [h3] at H3
    rw [h4] at H4
    go_enter Tryz.func31, Tryz.ntmps31
    go_wp2_with fail
    refine H0.mono ?_
    rintro e w0 ⟨rfl, rfl⟩
    go_wp2_with fail
    refine H1.mono ?_
    rintro e w1 ⟨rfl, rfl⟩
    go_wp2_with fail
    refine H2.mono ?_
    rintro e w2 ⟨rfl, rfl⟩
    go_wp2_with fail
    refine H3.mono ?_
    rintro e w3 ⟨rfl, rfl⟩
    go_wp2_with fail
    refine H4.mono ?_
    rintro e w4 ⟨rfl, rfl⟩
    go_wp2_with fail
    go_ret
    exact ⟨HF.out _ (by rw [HR.out]; rfl), rfl⟩
  cases h5 : isB s ⟨#[102, 111, 114, 97, 108, 108]⟩ k n 2
  rotate_left
  · rw [h0, h1, h2, h3, h4, h5] at HR
    rw [h0] at H0
    rw [h1] at H1
    rw [h2] at H2
    rw [h3] at H3
    rw [h4] at H4
    rw [h5] at H5
    go_enter Tryz.func31, Tryz.ntmps31
    go_wp2_with fail
    refine H0.mono ?_
    rintro e w0 ⟨rfl, rfl⟩
    go_wp2_with fail
    refine H1.mono ?_
    rintro e w1 ⟨rfl, rfl⟩
    go_wp2_with fail
    refine H2.mono ?_
    rintro e w2 ⟨rfl, rfl⟩
    go_wp2_with fail
    refine H3.mono ?_
    rintro e w3 ⟨rfl, rfl⟩
    go_wp2_with fail
    refine H4.mono ?_
    rintro e w4 ⟨rfl, rfl⟩
    go_wp2_with fail
    refine H5.mono ?_
    rintro e w5 ⟨rfl, rfl⟩
    go_wp2_with fail
    go_ret
    exact ⟨HF.out _ (by rw [HR.out]; rfl), rfl⟩
  cases h6 : isB s ⟨#[33]⟩ k n 0
  rotate_left
  · rw [h0, h1, h2, h3, h4, h5, h6] at HR
    rw [h0] at H0
    rw [h1] at H1
    rw [h2] at H2
    rw [h3] at H3
    rw [h4] at H4
    rw [h5] at H5
    rw [h6] at H6
    go_enter Tryz.func31, Tryz.ntmps31
    go_wp2_with fail
    refine H0.mono ?_
    rintro e w0 ⟨rfl, rfl⟩
    go_wp2_with fail
    refine H1.mono ?_
    rintro e w1 ⟨rfl, rfl⟩
    go_wp2_with fail
    refine H2.mono ?_
    rintro e w2 ⟨rfl, rfl⟩
    go_wp2_with fail
    refine H3.mono ?_
    rintro e w3 ⟨rfl, rfl⟩
    go_wp2_with fail
    refine H4.mono ?_
    rintro e w4 ⟨rfl, rfl⟩
    go_wp2_with fail
    refine H5.mono ?_
    rintro e w5 ⟨rfl, rfl⟩
    go_wp2_with fail
    refine H6.mono ?_
    rintro e w6 ⟨rfl, rfl⟩
    go_wp2_with fail
    go_ret
    exact ⟨HF.out _ (by rw [HR.out]; rfl), rfl⟩
  rw [h0, h1, h2, h3, h4, h5, h6] at HR
  rw [h0] at H0
  rw [h1] at H1
  rw [h2] at H2
  rw [h3] at H3
  rw [h4] at H4
  rw [h5] at H5
  rw [h6] at H6
  go_enter Tryz.func31, Tryz.ntmps31
  go_wp2_with fail
  refine H0.mono ?_
  rintro e w0 ⟨rfl, rfl⟩
  go_wp2_with fail
  refine H1.mono ?_
  rintro e w1 ⟨rfl, rfl⟩
  go_wp2_with fail
  refine H2.mono ?_
  rintro e w2 ⟨rfl, rfl⟩
  go_wp2_with fail
  refine H3.mono ?_
  rintro e w3 ⟨rfl, rfl⟩
  go_wp2_with fail
  refine H4.mono ?_
  rintro e w4 ⟨rfl, rfl⟩
  go_wp2_with fail
  refine H5.mono ?_
  rintro e w5 ⟨rfl, rfl⟩
  go_wp2_with fail
  refine H6.mono ?_
  rintro e w6 ⟨rfl, rfl⟩
  go_wp2_with fail
  go_ret
  exact ⟨HF.out _ (by rw [HR.out]; rfl), rfl⟩
end Go.Proofs.YtfgaenggbbgboaaGreatDoor

namespace Go.Proofs.YtfgaenggbbgboaaGreatDoor
open Go Go.RowKit
set_option linter.unusedVariables false
theorem l8dollar_any (p : Option Addr) (m cap : Nat) (xs : List Int) (w : World) (hm : m = xs.length) (hl : m ≤ 2000000) (hb : Byte xs) (hin : BIn w p xs) : Calls Tryz.prog 35 #[.slice p m cap] w fun e w' => e = .returned (.bool (dolL xs)) ∧ w' = w := by
  have HF : Hid (∀ b, b = dolL xs → Ending.returned (.bool b) = .returned (.bool (dolL xs))) := fun b h => ret_bool h
  cases xs with
  | nil =>
    have hm0 : m = 0 := by simpa using hm
    subst hm0
    have HZ : Hid (dolL [] = false) := rfl
    clear hin hm hb
    go_enter Tryz.func35, Tryz.ntmps35
    go_wp2_with fail
    go_ret
    exact ⟨HF.out _ HZ.out.symm, rfl⟩
  | cons x r =>
    obtain ⟨b, o, rfl, hcs⟩ := hin (by simp)
    have h0 := hcs 0 (by simp)
    simp only [List.getD_cons_zero, Nat.add_zero] at h0
    have hx := hb x (by simp)
    have hm1 : 1 ≤ m := by simp at hm; omega
    have h1 : decide ((0 : Int) < (m : Int)) = true := by simp; omega
    have h1' : (0 : Int) < (m : Int) := by omega
    have HZ : Hid (dolL (x :: r) = (x == 36)) := by show _ = _; simp [dolL]
    clear hin hm hb hcs
    cases h2 : (x == 36)
    all_goals
      rw [h2] at HZ
      go_enter Tryz.func35, Tryz.ntmps35
      go_wp2_with fail
      go_ret
      exact ⟨HF.out _ HZ.out.symm, rfl⟩
end Go.Proofs.YtfgaenggbbgboaaGreatDoor

namespace Go.Proofs.YtfgaenggbbgboaaGreatDoor
open Go Go.RowKit
set_option linter.unusedVariables false
theorem lit_list (l : List UInt8) : (ByteArray.mk l.toArray).toList = l := by rw [ByteArray.toList_eq]
theorem con7_comp {s : List Int} (hb : Byte s) (n : Int) (hn : 1 ≤ n) : con7 (strOfNums s) 3 n = conC (3, n, s) := by
  unfold con7 isB
  simp only [str_is hb [44] [44] rfl, str_is hb [59] [59] rfl, str_is hb [45, 62] [45, 62] rfl, str_is hb [102, 111, 114, 97, 108, 108] nAll rfl, str_is hb [92, 43] [92, 43] rfl, str_is hb [111, 110, 99, 101] nOnce rfl, str_is hb [33] [33] rfl, lit_list]
  unfold conC
  simp
  cases (s == [44]) <;> cases (s == [59]) <;> cases (s == [45, 62]) <;> cases (s == [92, 43]) <;> cases (s == nOnce) <;> cases (s == nAll) <;> cases (n == 2) <;> cases (n == 1) <;> rfl
end Go.Proofs.YtfgaenggbbgboaaGreatDoor

namespace Go.Proofs.YtfgaenggbbgboaaGreatDoor
open Go Go.RowKit
set_option linter.unusedVariables false
def SbOut (w : World) (G : Option Fo) (e : Ending) (w' : World) : Prop :=
  Below w.heap.size w w' ∧ match G with
    | none => e = .returned (.tuple #[.slice none 0 0, .int .i64 4])
    | some G => ∃ q m c2, e = .returned (.tuple #[.slice q m c2, .int .i64 0]) ∧ OwnC w' w.heap.size q m c2 G.cells
theorem sbOut_none {w w' : World} {G : Option Fo} (hG : G = none) (hb : Below w.heap.size w w') : SbOut w G (.returned (.tuple #[.slice none 0 0, .int .i64 4])) w' := by
  subst hG
  exact ⟨hb, rfl⟩
theorem sbOut_some {w w' : World} {G : Option Fo} {F : Fo} {cs : List Cel} {q : Option Addr} {m c2 : Nat} (hG : G = some F) (hF : F.cells = cs) (hb : Below w.heap.size w w') (ho : OwnC w' w.heap.size q m c2 cs) : SbOut w G (.returned (.tuple #[.slice q m c2, .int .i64 0])) w' := by
  subst hG
  subst hF
  exact ⟨hb, q, m, c2, rfl, ho⟩
theorem tl_append : ∀ (a b : List Cel), tl (a ++ b) = tl a + tl b
  | [], b => by simp [tl]
  | c :: r, b => by simp [tl, tl_append r b]; omega
theorem tl_ok : ∀ F : Fo, F.ok → tl F.cells ≤ 100 * F.cells.length
  | .nil, _ => by simp [Fo.cells, tl]
  | .node c k r, h => by
    have h1 := tl_ok k h.2.2.2.2.1
    have h2 := tl_ok r h.2.2.2.2.2
    have h3 : c.2.2.length ≤ 100 := by have h0 := h.1; simp only [cellB, decide_eq_true_eq] at h0; omega
    simp only [Fo.cells, tl, tl_append, List.length_cons, List.length_append]
    omega
def SbOk (M : Nat) : Prop := ∀ (c : Cel) (k : Fo) (p : Option Addr) (n cap : Nat) (w : World), k.cells.length ≤ M → (Fo.node c k .nil).ok → n = 1 + k.cells.length → n ≤ 2000 → n ≤ cap → cap ≤ 1000000000 → CIn w p (c :: k.cells) →
  Calls Tryz.prog 42 #[.slice p n cap] w (SbOut w (normT c k))
set_option maxRecDepth 100000 in
theorem l8body_var (x : Int) (p : Option Addr) (cap : Nat) (w : World) (hin : CIn w p [(0, x, [])]) : Calls Tryz.prog 42 #[.slice p 1 cap] w (SbOut w (normT (0, x, []) .nil)) := by
  have HN : Hid (normT (0, x, []) .nil = some (.node (3, 1, nCall) (.node (0, x, []) .nil .nil) .nil)) := rfl
  have HX := l2oneO_any nCall (byte_of rfl) p 1 cap [(0, x, [])] w rfl hin (by simp) (by simp [tl])
  rw [sCall] at HX
  obtain ⟨b, o, rfl, hcs⟩ := hin (by simp)
  obtain ⟨p0, q0, d0, d1, d2, d3⟩ := hcs 0 (by simp)
  simp only [List.getD_cons_zero, Nat.zero_mul, Nat.add_zero] at d0 d1 d2 d3
  clear hcs d3
  go_enter Tryz.func42, Tryz.ntmps42
  go_wp2_with fail
  refine HX.mono ?_
  rintro e w1 ⟨q, m, c2, rfl, ho, hb⟩
  have HF : Hid (SbOut w (normT (0, x, []) .nil) (.returned (.tuple #[.slice q m c2, .int .i64 0])) w1) := sbOut_some HN.out (by simp [Fo.cells]) hb ho
  clear ho hb HX
  go_wp2_with fail
  go_ret2
  exact HF.out
set_option maxRecDepth 100000 in
theorem l8body_num (x : Int) (p : Option Addr) (cap : Nat) (w : World) (hin : CIn w p [(1, x, [])]) : Calls Tryz.prog 42 #[.slice p 1 cap] w (SbOut w (normT (1, x, []) .nil)) := by
  have HN : Hid (normT (1, x, []) .nil = none) := rfl
  obtain ⟨b, o, rfl, hcs⟩ := hin (by simp)
  obtain ⟨p0, q0, d0, d1, d2, d3⟩ := hcs 0 (by simp)
  simp only [List.getD_cons_zero, Nat.zero_mul, Nat.add_zero] at d0 d1 d2 d3
  clear hcs d3
  go_enter Tryz.func42, Tryz.ntmps42
  go_wp2_with fail
  go_ret2
  exact sbOut_none HN.out (Below.refl _ _)
theorem l8body_dol (c : Cel) (k : Fo) (p : Option Addr) (n cap : Nat) (w : World) (hk : c.1 = 2 ∨ c.1 = 3) (hd : dolL c.2.2 = true) (hok : (Fo.node c k .nil).ok) (hn : n = 1 + k.cells.length) (hin : CIn w p (c :: k.cells)) : Calls Tryz.prog 42 #[.slice p n cap] w (SbOut w (normT c k)) := by
  have HN : Hid (normT c k = none) := by
    show _ = _
    unfold normT normH
    rw [if_neg (by omega), if_pos (.inr hd)]
  obtain ⟨b, o, rfl, hcs⟩ := hin (by simp)
  obtain ⟨p0, q0, d0, d1, d2, d3⟩ := hcs 0 (by simp)
  simp only [List.getD_cons_zero, Nat.zero_mul, Nat.add_zero] at d0 d1 d2 d3
  have hl : c.2.2.length ≤ 100 := by have h0 := hok.1; simp only [cellB, decide_eq_true_eq] at h0; omega
  have HD := l8dollar_any p0 c.2.2.length q0 c.2.2 w rfl (by omega) hok.2.1 d3
  rw [hd] at HD
  obtain ⟨x, ex⟩ : ∃ x, x = c.1 := ⟨_, rfl⟩
  rw [← ex] at d0 hk
  obtain ⟨m, em⟩ : ∃ m, m = c.2.2.length := ⟨_, rfl⟩
  rw [← em] at d2 HD
  have hn0 : (0 : Int) < (n : Int) := by omega
  clear hcs d3 d1 hin hok hn hd hl ex em
  rcases hk with rfl | rfl
  all_goals
    go_enter Tryz.func42, Tryz.ntmps42
    go_wp2_with fail
    refine HD.mono ?_
    rintro e w1 ⟨rfl, rfl⟩
    go_wp2_with fail
    go_ret2
    exact sbOut_none HN.out (Below.refl _ _)
theorem l8body_same (c : Cel) (k : Fo) (p : Option Addr) (n cap : Nat) (w : World) (hk : c.1 = 2 ∨ (c.1 = 3 ∧ conC c = false)) (hd : dolL c.2.2 = false) (hok : (Fo.node c k .nil).ok) (hn : n = 1 + k.cells.length) (hnl : n ≤ 2000) (hin : CIn w p (c :: k.cells)) : Calls Tryz.prog 42 #[.slice p n cap] w (SbOut w (normT c k)) := by
  have hcc : conC c = false := by
    rcases hk with h | h
    · unfold conC; rw [h]; rfl
    · exact h.2
  have HN : Hid (normT c k = some (.node c k .nil)) := by
    show _ = _
    unfold normT normH
    rw [if_neg (by omega), if_neg (by rw [hd]; simp; omega), if_neg (by rw [hcc]; decide)]
  have htl : (c :: k.cells).length + tl (c :: k.cells) ≤ 10000000 := by
    have := tl_ok _ hok
    simp only [Fo.cells, List.append_nil] at this
    simp only [List.length_cons] at this ⊢
    omega
  have HCP := l2copy_any p n cap (c :: k.cells) w (by rw [hn]; simp; omega) htl hin
  obtain ⟨b, o, rfl, hcs⟩ := hin (by simp)
  obtain ⟨p0, q0, d0, d1, d2, d3⟩ := hcs 0 (by simp)
  simp only [List.getD_cons_zero, Nat.zero_mul, Nat.add_zero] at d0 d1 d2 d3
  have hl : c.2.2.length ≤ 100 := by have h0 := hok.1; simp only [cellB, decide_eq_true_eq] at h0; omega
  have HD := l8dollar_any p0 c.2.2.length q0 c.2.2 w rfl (by omega) hok.2.1 d3
  rw [hd] at HD
  have hcv := conv_str d3 c.2.2.length q0 rfl 9 Tryz.underlying9
  have HC := l8construct_any (strOfNums c.2.2) c.1 c.2.1 b o p0 c.2.2.length q0 n cap w (by omega) d0 d1 d2 hcv
  have hcon : c.1 = 2 ∨ (c.1 = 3 ∧ con7 (strOfNums c.2.2) c.1 c.2.1 = false) := by
    rcases hk with h | h
    · exact .inl h
    · have h0 := hok.1
      rw [h.1] at h0
      have := cellB_comp h0
      have h2 := h.2
      rw [show c = (3, c.2.1, c.2.2) by rw [← h.1]] at h2
      exact .inr ⟨h.1, by rw [h.1, con7_comp hok.2.1 _ this.1]; exact h2⟩
  obtain ⟨z, ez⟩ : ∃ z, z = con7 (strOfNums c.2.2) c.1 c.2.1 := ⟨_, rfl⟩
  rw [← ez] at HC hcon
  have HX : Hid ((Fo.node c k .nil).cells = c :: k.cells) := by show _ = _; simp [Fo.cells]
  obtain ⟨cs, ecs⟩ : ∃ cs, cs = c :: k.cells := ⟨_, rfl⟩
  rw [← ecs] at HCP HX
  obtain ⟨x, ex⟩ : ∃ x, x = c.1 := ⟨_, rfl⟩
  rw [← ex] at d0 hcon
  obtain ⟨m, em⟩ : ∃ m, m = c.2.2.length := ⟨_, rfl⟩
  rw [← em] at d2 HD
  have hn0 : (0 : Int) < (n : Int) := by omega
  clear hcs d3 d1 hin hok hn hd hl em htl hcv ez ecs ex hcc hk
  rcases hcon with rfl | ⟨rfl, rfl⟩
  · cases z
    all_goals
      go_enter Tryz.func42, Tryz.ntmps42
      go_wp2_with fail
      refine HD.mono ?_
      rintro e w1 ⟨rfl, rfl⟩
      go_wp2_with fail
      refine HC.mono ?_
      rintro e w2 ⟨rfl, rfl⟩
      go_wp2_with fail
      refine HCP.mono ?_
      rintro e w3 ⟨q, m3, c3, rfl, ho, hb⟩
      have HF : Hid (SbOut w2 (normT c k) (.returned (.tuple #[.slice q m3 c3, .int .i64 0])) w3) := sbOut_some HN.out HX.out hb ho
      clear ho hb HCP
      go_wp2_with fail
      go_ret2
      exact HF.out
  · go_enter Tryz.func42, Tryz.ntmps42
    go_wp2_with fail
    refine HD.mono ?_
    rintro e w1 ⟨rfl, rfl⟩
    go_wp2_with fail
    refine HC.mono ?_
    rintro e w2 ⟨rfl, rfl⟩
    go_wp2_with fail
    refine HCP.mono ?_
    rintro e w3 ⟨q, m3, c3, rfl, ho, hb⟩
    have HF : Hid (SbOut w2 (normT c k) (.returned (.tuple #[.slice q m3 c3, .int .i64 0])) w3) := sbOut_some HN.out HX.out hb ho
    clear ho hb HCP
    go_wp2_with fail
    go_ret2
    exact HF.out
end Go.Proofs.YtfgaenggbbgboaaGreatDoor

namespace Go.Proofs.YtfgaenggbbgboaaGreatDoor
open Go Go.RowKit
set_option linter.unusedVariables false
def celF : Fo → List (List Cel)
  | .nil => []
  | .node c k r => (c :: k.cells) :: celF r
theorem celF_cat : ∀ a b : Fo, celF (a.cat b) = celF a ++ celF b
  | .nil, b => rfl
  | .node c k r, b => by simp [Fo.cat, celF, celF_cat r b]
theorem celF_flat : ∀ F : Fo, (celF F).flatten = F.cells
  | .nil => rfl
  | .node c k r => by simp [celF, Fo.cells, celF_flat r]
theorem trsF_cat : ∀ a b : Fo, trsF (a.cat b) = trsF a ++ trsF b
  | .nil, b => rfl
  | .node c k r, b => by simp [Fo.cat, trsF, trsF_cat r b]
theorem celF_small {N : Nat} : ∀ F : Fo, F.ok → F.cells.length ≤ N → ∀ j, j < (celF F).length → 0 < ((celF F).getD j []).length ∧ ((celF F).getD j []).length + tl ((celF F).getD j []) ≤ 101 * N
  | .nil, _, _, j, h => by simp [celF] at h
  | .node c k r, hok, hN, 0, _ => by
    have h1 := tl_ok (.node c k .nil) ⟨hok.1, hok.2.1, hok.2.2.1, hok.2.2.2.1, hok.2.2.2.2.1, trivial⟩
    simp only [Fo.cells, List.append_nil, List.length_cons, List.length_append] at h1 hN
    simp only [celF, List.getD_cons_zero, List.length_cons]
    omega
  | .node c k r, hok, hN, j + 1, h => by
    have := celF_small r hok.2.2.2.2.2 (N := N) (by simp only [Fo.cells, List.length_cons, List.length_append] at hN; omega) j (by simpa [celF] using h)
    simpa [celF] using this
theorem arg_at {w : World} : ∀ {rs : List (Option Addr × Nat × Nat)} {ts : List Tr} {j : Nat} {t : Tr}, ArgRow w rs ts → ts[j]? = some t → ∃ r, rs[j]? = some r ∧ r.2.1 = 1 + t.2.cells.length ∧ r.2.1 ≤ r.2.2 ∧ r.2.2 ≤ 1000000000 ∧ CIn w r.1 (t.1 :: t.2.cells)
  | [], [], j, t, _, h => by simp at h
  | r :: rs, u :: ts, 0, t, ha, h => by
    simp only [List.getElem?_cons_zero, Option.some.injEq] at h
    subst h
    exact ⟨r, rfl, ha.1, ha.2.1, ha.2.2.1, ha.2.2.2.1⟩
  | r :: rs, u :: ts, j + 1, t, ha, h => by
    simp only [List.getElem?_cons_succ] at h ⊢
    exact arg_at ha.2.2.2.2 h
  | [], _ :: _, j, t, ha, h => ha.elim
  | _ :: _, [], j, t, ha, h => ha.elim
theorem OwnCC.rows {w : World} {B U : Nat} {p : Option Addr} {n c : Nat} {css : List (List Cel)} (h : OwnCC w B U p n c css) (hn : 0 < n) (hs : ∀ j, j < css.length → 0 < (css.getD j []).length ∧ (css.getD j []).length + tl (css.getD j []) ≤ 1000000) : ∃ g, p = some ⟨g, 0, none⟩ ∧ n ≤ c ∧ n = css.length ∧ RowsO w g 0 css := by
  obtain ⟨ds, h⟩ := h
  have hl := h.len
  have hrow := h.row
  rcases hrow.2 with ⟨e, _⟩ | ⟨g, cap, cur, hv, hB, hg, hle, _⟩
  · simp only [Value.slice.injEq] at e
    omega
  · simp only [Value.slice.injEq, true_and] at hv
    obtain ⟨rfl, rfl⟩ := hv
    refine ⟨g, rfl, hle, hl, fun j hj => ?_⟩
    have hs1 := hs j hj
    refine ⟨(ds.getD j It.zero).1, (ds.getD j It.zero).2.1, ?_, (h.item j hj).toC.cin, hs1.1, by have := hs1.2; omega⟩
    rw [Nat.zero_add, h.row.cellAt j (by omega)]
    exact vals_at ds css j hj
set_option maxRecDepth 100000 in
set_option maxHeartbeats 4000000 in
theorem l8body_con (s : List Int) (k : Fo) (p : Option Addr) (n cap : Nat) (w : World) (M : Nat) (ih : ∀ m, m < k.cells.length → SbOk m) (hcc : conC (3, (M : Int), s) = true) (hd : dolL s = false) (hok : (Fo.node (3, (M : Int), s) k .nil).ok) (hn : n = 1 + k.cells.length) (hnl : n ≤ 2000) (hcap : n ≤ cap) (hcm : cap ≤ 1000000000) (hin : CIn w p ((3, (M : Int), s) :: k.cells)) :
    Calls Tryz.prog 42 #[.slice p n cap] w (SbOut w (normT (3, (M : Int), s) k)) := by
  have hby := hok.2.1
  have hcb : cellB 3 (M : Int) s.length = true := hok.1
  simp only [cellB, decide_eq_true_eq] at hcb
  have hM1 : 1 ≤ M := by omega
  have hM20 : M ≤ 20 := by omega
  have hsl : s.length ≤ 100 := by omega
  have hMk : M = k.count := by have := hok.2.2.1 rfl; simp only at this; omega
  have HN : Hid (normT (3, (M : Int), s) k = (normF k).map (normK (3, (M : Int), s))) := by
    show _ = _
    unfold normT normH
    rw [if_neg (show ¬ (3 : Int) = 0 by decide), if_neg (by simp [hd]), if_pos hcc]
  have HAR := l2args_any (3, (M : Int), s) k p n cap w rfl hok (by rw [hn]; simp; omega) hnl hcap hcm hin
  have HIH : Hid (∀ m, m < k.cells.length → SbOk m) := ih
  have HK : Hid (k.ok ∧ M = k.count ∧ k.cells.length ≤ 2000) := ⟨hok.2.2.2.2.1, hMk, by omega⟩
  have HCC : Hid (conC (3, (M : Int), s) = true) := hcc
  have HBY : Hid (Byte s) := hby
  obtain ⟨b, o, rfl, hcs⟩ := hin (by simp)
  obtain ⟨p0, q0, d0, d1, d2, d3⟩ := hcs 0 (by simp)
  simp only [List.getD_cons_zero, Nat.zero_mul, Nat.add_zero] at d0 d1 d2 d3
  have HFC : Hid (∀ W, Below w.heap.size w W → W.cell? ⟨b, o, none⟩ = some (.int .i64 3) ∧ W.cell? ⟨b, o + 1, none⟩ = some (.int .i64 M) ∧ W.cell? ⟨b, o + 2, none⟩ = some (.slice p0 s.length q0) ∧ BIn W p0 s) := fun W hW => ⟨(hW.cell (World.block_lt_of_cell? _ _ d0)).trans d0, (hW.cell (World.block_lt_of_cell? _ _ d1)).trans d1, (hW.cell (World.block_lt_of_cell? _ _ d2)).trans d2, d3.below hW⟩
  have HIS : Hid (∀ W, Below w.heap.size w W → ∀ nm ar, Calls Tryz.prog 37 #[.slice (some ⟨b, o, none⟩) n cap, .string nm, .int .i64 ar] W fun e w' => e = .returned (.bool (isB (strOfNums s) nm 3 M ar)) ∧ w' = W) := fun W hW nm ar => by
    obtain ⟨f0, f1, f2, f3⟩ := HFC.out W hW
    exact l2isG_any (strOfNums s) nm 3 M ar b o p0 s.length q0 n cap W (by omega) f0 f1 f2 (conv_str f3 s.length q0 rfl 9 Tryz.underlying9)
  have HD := l8dollar_any p0 s.length q0 s w rfl (by omega) hby d3
  rw [hd] at HD
  have hcv := conv_str d3 s.length q0 rfl 9 Tryz.underlying9
  have HC := l8construct_any (strOfNums s) 3 M b o p0 s.length q0 n cap w (by omega) d0 d1 d2 hcv
  rw [con7_comp hby _ (by omega), hcc] at HC
  obtain ⟨sl, esl⟩ : ∃ m, m = s.length := ⟨_, rfl⟩
  rw [← esl] at d2 HD
  have hn0 : (0 : Int) < (n : Int) := by omega
  clear hcs d3 d1 hin hok hn hd esl hcv hcc hby ih hcb hMk
  go_enter Tryz.func42, Tryz.ntmps42
  go_wp2_with fail
  refine HD.mono ?_
  rintro e w1 ⟨rfl, rfl⟩
  go_wp2_with fail
  refine HC.mono ?_
  rintro e w2 ⟨rfl, rfl⟩
  go_wp2_with fail
  refine HAR.mono ?_
  rintro e w1 ⟨qa, ma, mac, rs, rfl, hma, hrow, harg, hb1⟩
  have hmaM : ma = M := by have := HK.out.2.1; omega
  subst hmaM
  obtain ⟨g, hqa⟩ : ∃ g, qa = some ⟨g, 0, none⟩ := by
    obtain ⟨g, cap', hv, _⟩ := hrow.form (by omega)
    simp only [Value.slice.injEq, true_and] at hv
    exact ⟨g, hv.1⟩
  subst hqa
  have HROW : Hid (w1.ownsRow w2.heap.size 43 1 (.slice (some ⟨g, 0, none⟩) ma mac) ma (rs.map slV)) := hrow
  have HARG : Hid (ArgRow w2 rs (trsF k)) := harg
  have HB1 : Hid (Below w2.heap.size w2 w1) := hb1
  clear hma hrow harg hb1 HAR HC HD d0 d2
  go_wp2_with fail
  go_loopw [4, 6] (fun s4 s6 wr => ∃ (D R GD : Fo) (j : Nat) (pt : Option Addr) (ct : Nat), j ≤ ma ∧ s6 = .int .i64 j ∧ s4 = .slice pt j ct ∧ Hid (k = D.cat R ∧ D.count = j) ∧ Hid (normF D = some GD) ∧ Hid (OwnCC wr w1.heap.size wr.heap.size pt j ct (celF GD)) ∧ Hid (Below w1.heap.size w1 wr)) (fun _ i _ => ma - (intOf i).toNat)
  case atStart => exact ⟨.nil, k, .nil, 0, none, 0, Nat.zero_le _, rfl, rfl, ⟨rfl, rfl⟩, rfl, OwnCC.nil _ _ _, Below.refl _ _⟩
  case round =>
    obtain ⟨D, R, GD, j, pt, ct, hj, rfl, rfl, HF, HND, HO, HG⟩ := hrel
    have hwr : Below w2.heap.size w2 wr := Below.on HB1.out HG.out
    by_cases hlt : j < ma
    · obtain ⟨c', k', r', rfl⟩ : ∃ c' k' r', R = .node c' k' r' := by
        cases R with
        | nil =>
          have h1 := HF.out
          have h2 := HK.out.2.1
          rw [h1.1, Fo.cat_nil] at h2
          omega
        | node c' k' r' => exact ⟨c', k', r', rfl⟩
      have hok2 := (Fo.ok_cat D (.node c' k' r')).1 (HF.out.1 ▸ HK.out.1)
      have hl2 : D.cells.length + (k'.cells.length + r'.cells.length + 1) = k.cells.length := by
        rw [HF.out.1, Fo.cells_cat]; simp [Fo.cells]
      obtain ⟨r, hr0, hr1, hr2, hr3, hr4⟩ := arg_at (j := j) (t := (c', k')) HARG.out (by rw [HF.out.1, trsF_cat, List.getElem?_append_right (by rw [trsF_len]; have := HF.out.2; omega), trsF_len, HF.out.2]; simp [trsF])
      have hcell : w1.cell? ⟨g, j, none⟩ = some (slV r) := by
        have := HROW.out.cellAt j (by omega)
        rw [this, List.getElem?_map, hr0]; rfl
      have c5 : wr.cell? ⟨g, j, none⟩ = some (.slice r.1 r.2.1 r.2.2) := (HG.out.cell (World.block_lt_of_cell? _ _ hcell)).trans hcell
      have HOK2 : Hid ((Fo.node c' k' .nil).ok) := ⟨hok2.2.1, hok2.2.2.1, hok2.2.2.2.1, hok2.2.2.2.2.1, hok2.2.2.2.2.2.1, trivial⟩
      have HRC := HIH.out k'.cells.length (by omega) c' k' r.1 r.2.1 r.2.2 wr (Nat.le_refl _) HOK2.out hr1 (by have := HK.out.2.2; simp only at hr1; omega) hr2 hr3 (hr4.below hwr)
      obtain ⟨r1, r2, r3⟩ := r
      simp only at c5 HRC
      clear hok2 hl2 hcell hwr HIH hr0 hr1 hr2 hr3 hr4
      cases hnt : normT c' k' with
      | none =>
        rw [hnt] at HRC
        have HNN : Hid (normT (3, (ma : Int), s) k = none) := by
          show _ = _
          rw [HN.out, HF.out.1, normF_cat, HND.out, normF, show normH c' k' (normF k') = none from hnt]; rfl
        clear hnt
        go_wp2_with fail
        refine HRC.mono ?_
        rintro e w7 hout
        obtain ⟨hg7, rfl⟩ := hout
        have HB7 : Hid (Below w2.heap.size w2 w7) := Below.on (Below.on HB1.out HG.out) hg7
        clear hg7 HRC
        go_wp2_with fail
        go_ret2
        exact sbOut_none HNN.out HB7.out
      | some G =>
        rw [hnt] at HRC
        obtain ⟨c7, k7, rfl, _, _⟩ := normT_ok hnt HOK2.out
        have HNS : Hid (normF (D.cat (.node c' k' .nil)) = some (GD.cat (.node c7 k7 .nil))) := by show _ = _; rw [normF_cat, HND.out, normF_one, hnt]; rfl
        have HCL : Hid ((Fo.node c7 k7 .nil).cells = c7 :: k7.cells) := by show _ = _; simp [Fo.cells]
        clear hnt
        go_wp2_with fail
        refine HRC.mono ?_
        rintro e w7 hout
        obtain ⟨hg7, q7, m7, c2, rfl, ho7⟩ := hout
        have HO7 : Hid (OwnC w7 wr.heap.size q7 m7 c2 (c7 :: k7.cells)) := by rw [HCL.out] at ho7; exact ho7
        have HG7 : Hid (Below wr.heap.size wr w7) := hg7
        clear hg7 ho7 HRC
        go_wp2_with (at_builtin; refine app_item wr w7 rfl _ _ rfl w1.heap.size pt j ct (celF GD) rfl HO.out HG7.out HG.out.size q7 m7 c2 (c7 :: k7.cells) HO7.out rfl (by omega) ?_; intro g8 n8 cap8 w8 hown8 hb8 hn8)
        have hn8' : n8 = j + 1 := hn8.out
        subst hn8'
        have HO8 : Hid (OwnCC w8 w1.heap.size w8.heap.size (some ⟨g8, 0, none⟩) (j + 1) cap8 (celF (GD.cat (.node c7 k7 .nil)))) := by rw [celF_cat]; exact hown8
        have HB8 : Hid (Below w1.heap.size w1 w8) := ((Below.on HG.out HG7.out).alloc (Below.on HG.out HG7.out).size _).trans hb8
        have HF8 : Hid (k = (D.cat (.node c' k' .nil)).cat r' ∧ (D.cat (.node c' k' .nil)).count = j + 1) := ⟨by rw [Fo.cat_assoc]; exact HF.out.1, by rw [Fo.count_cat, HF.out.2]; rfl⟩
        clear hown8 hb8
        go_roundw
        case rel => exact ⟨D.cat (.node c' k' .nil), r', GD.cat (.node c7 k7 .nil), j + 1, _, cap8, by omega, by go_num, by go_num, HF8, HNS, HO8, HB8⟩
        case measure => simp [intOf]; omega
    · obtain rfl : j = ma := by omega
      obtain rfl : R = .nil := by
        have h2 := HK.out.2.1
        rw [HF.out.1, Fo.count_cat, HF.out.2] at h2
        cases R with
        | nil => rfl
        | node a b d => simp [Fo.count] at h2
      have hD : D = k := by have := HF.out.1; rw [Fo.cat_nil] at this; exact this.symm
      subst hD
      have HGD := normF_ok _ _ HND.out HK.out.1
      have HNF : Hid (normT (3, (j : Int), s) D = some (normK (3, (j : Int), s) GD)) := by show _ = _; rw [HN.out, HND.out]; rfl
      have HSM := celF_small GD HGD.1 (N := 6000) (by have := HGD.2.2; have := HK.out.2.2; omega)
      have HTL : Hid (GD.cells.length + tl GD.cells ≤ 606000) := by have h1 := tl_ok GD HGD.1; have h2 := HGD.2.2; have h3 := HK.out.2.2; show _ ≤ _; omega
      have HCT : Hid (GD.count = j) := by have := HGD.2.1; have := HK.out.2.1; show _ = _; omega
      obtain ⟨gp, rfl, hjc, hjl, hrows⟩ := HO.out.rows (by omega) (fun i hi => ⟨(HSM i hi).1, by have := (HSM i hi).2; omega⟩)
      have HRW : Hid (∀ W, Below wr.heap.size wr W → RowsO W gp 0 (celF GD)) := fun W hW => hrows.below hW
      have HSM2 : Hid (∀ i, i < (celF GD).length → 0 < ((celF GD).getD i []).length ∧ ((celF GD).getD i []).length + tl ((celF GD).getD i []) ≤ 606000) := fun i hi => by have := HSM i hi; omega
      have HJL : Hid (j = (celF GD).length) := hjl
      have HBR : Hid (Below w2.heap.size w2 wr) := hwr
      have HI1 := HIS.out wr hwr ⟨#[111, 110, 99, 101]⟩ 1
      have HI2 := HIS.out wr hwr ⟨#[102, 111, 114, 97, 108, 108]⟩ 2
      obtain ⟨f0, f1, f2, f3⟩ := HFC.out wr hwr
      have hcvr := conv_str f3 s.length q0 rfl 9 Tryz.underlying9
      have ei1 : isB (strOfNums s) ⟨#[111, 110, 99, 101]⟩ 3 (j : Int) 1 = (s == nOnce) := by
        unfold isB
        rw [lit_list [111, 110, 99, 101], str_is HBY.out [111, 110, 99, 101] nOnce rfl]
        cases ho : (s == nOnce)
        · rfl
        · have hse : s = nOnce := by simpa using ho
          have h := HCC.out
          rw [hse] at h
          simp [conC] at h
          simp [h]
      have ei2 : isB (strOfNums s) ⟨#[102, 111, 114, 97, 108, 108]⟩ 3 (j : Int) 2 = (s == nAll) := by
        unfold isB
        rw [lit_list [102, 111, 114, 97, 108, 108], str_is HBY.out [102, 111, 114, 97, 108, 108] nAll rfl]
        cases ho : (s == nAll)
        · rfl
        · have hse : s = nAll := by simpa using ho
          have h := HCC.out
          rw [hse] at h
          simp [conC] at h
          simp [h]
      rw [ei1] at HI1
      rw [ei2] at HI2
      clear HGD HSM hrows hwr HIS HFC f0 f1 ei1 ei2 HO HROW HARG HIH HF HN HND hjl f3
      cases ho : (s == nOnce) with
      | true =>
        rw [ho] at HI1
        have hse : s = nOnce := by simpa using ho
        have hj1 : j = 1 := by
          have h := HCC.out
          rw [hse] at h
          simp [conC] at h
          omega
        subst hj1
        obtain ⟨c8, k8, rfl⟩ := count_one HCT.out
        obtain ⟨x0, x1, x2, x3, x4, x5⟩ := HRW.out wr (Below.refl _ _) 0 (by simp [celF])
        simp only [celF, List.getD_cons_zero, Nat.add_zero] at x2 x3 x4 x5
        obtain ⟨L0, eL0⟩ : ∃ L, L = (c8 :: k8.cells).length := ⟨_, rfl⟩
        rw [← eL0] at x2
        have HAT : Hid (∀ W, Calls Tryz.prog 65 #[.string ⟨#[116, 114, 117, 101]⟩] W fun e w' => ∃ p, e = .returned (.slice p 1 1) ∧ CIn w' p [(2, 0, nTrue)] ∧ Below W.heap.size W w') := fun W => by have := l2atomO_any nTrue (byte_of rfl) W; rw [sTrue] at this; exact this
        have HPR : Hid (∀ W (pa : Option Addr), Below wr.heap.size wr W → CIn W pa [(2, 0, nTrue)] → Calls Tryz.prog 64 #[.string ⟨#[45, 62]⟩, .slice x0 L0 x1, .slice pa 1 1] W fun e w' => ∃ q m c2, e = .returned (.slice q m c2) ∧ OwnC w' W.heap.size q m c2 ((3, 2, [45, 62]) :: ((c8 :: k8.cells) ++ [(2, 0, nTrue)])) ∧ Below W.heap.size W w') := fun W pa hW hp => by
          have h := l2pairO_any [45, 62] (byte_of rfl) x0 pa L0 1 x1 1 (c8 :: k8.cells) [(2, 0, nTrue)] W eL0 rfl (x3.below hW) hp (by simp) (by simp) x5 (by simp [tl])
          rw [sThen] at h
          exact h
        have HFIN : Hid (∀ W W' q m c2, Below wr.heap.size wr W → OwnC W' W.heap.size q m c2 ((3, 2, [45, 62]) :: ((c8 :: k8.cells) ++ [(2, 0, nTrue)])) → Below W.heap.size W W' → SbOut w2 (normT (3, ((1 : Nat) : Int), s) D) (.returned (.tuple #[.slice q m c2, .int .i64 0])) W') := fun W W' q m c2 hW ho hb =>
          sbOut_some HNF.out (by rw [normK_once (c := (3, ((1 : Nat) : Int), s)) hse]; simp [Fo.cells, Fo.cat]) (Below.on (Below.on HBR.out hW) hb) (ho.mono (Below.on HBR.out hW).size)
        have HS0 : Hid (∀ W, Below wr.heap.size wr W → W.cell? ⟨gp, 0, none⟩ = some (.slice x0 L0 x1)) := fun W hW => (hW.cell (World.block_lt_of_cell? _ _ x2)).trans x2
        clear x2 x3 x4 x5 eL0 ho hse HI2 hcvr f2 HRW HSM2 HJL HCT HNF HCC
        go_wp2_with fail
        refine HI1.mono ?_
        rintro e wr ⟨rfl, rfl⟩
        clear HI1
        go_wp2_with fail
        refine wp_region_held_drew (S := fun W => W.cell? ⟨gp, 0, none⟩ = some (.slice x0 L0 x1)) (by kernel_rfl) ?_ (fun hHeld => ?_)
        · exact HS0.out _ (Below.refl _ _).drew
        refine hTake (i := 0) (v := .slice (some ⟨gp, 0, none⟩) 1 ct) (some 66) (by kernel_rfl) (by kernel_rfl) (by kernel_rfl) (by kernel_rfl) (by kernel_rfl) (fun _ _ _ h => h) (fun o ho W hSw => ?y0) (by assumption) ?_
        case y0 =>
          cases ho
          simp [execOp, go_sem, Act.eval]
        simp only [Act.put, List.setIfInBounds_toArray, List.set_cons_zero, List.set_cons_succ]
        refine hTake (i := 1) (v := .pointer (some ⟨gp, 0, none⟩)) (some 67) (by kernel_rfl) (by kernel_rfl) (by kernel_rfl) (by kernel_rfl) (by kernel_rfl) (fun _ _ _ h => h) (fun o ho W hSw => ?y1) (by assumption) ?_
        case y1 =>
          cases ho
          simp [execOp, go_sem, Act.eval]
        simp only [Act.put, List.setIfInBounds_toArray, List.set_cons_zero, List.set_cons_succ]
        refine hTake (i := 2) (v := .slice x0 L0 x1) (some 68) (by kernel_rfl) (by kernel_rfl) (by kernel_rfl) (by kernel_rfl) (by kernel_rfl) (fun _ _ _ h => h) (fun o ho W hSw => ?y2) (by assumption) ?_
        case y2 =>
          cases ho
          simp [execOp, go_sem, Act.eval, hSw]
        simp only [Act.put, List.setIfInBounds_toArray, List.set_cons_zero, List.set_cons_succ]
        refine hCallE (i := 3) (some 69) (by kernel_rfl) (by kernel_rfl) (by kernel_rfl) (fun o ho => ?y3) (HAT.out _) ?_ (fun ch w' h => by obtain ⟨_, h⟩ := h; simp at h) (fun w' h => by obtain ⟨_, h⟩ := h; simp at h)
        case y3 =>
          cases ho
          simp [execOp, go_sem, Act.eval]
        rintro u w10 ⟨pa, hu, hpa, hb10⟩
        cases hu
        have HX10 : Hid (Below wr.heap.size wr w10) := (Below.refl _ _).drew.trans hb10
        have HPA : Hid (CIn w10 pa [(2, 0, nTrue)]) := hpa
        refine ⟨HS0.out _ HX10.out, ?_⟩
        have hS10 := HS0.out _ HX10.out
        clear hb10 hpa
        simp only [Act.put, List.setIfInBounds_toArray, List.set_cons_zero, List.set_cons_succ]
        refine hCallE (i := 4) (some 70) (by kernel_rfl) (by kernel_rfl) (by kernel_rfl) (fun o ho => ?y4) (HPR.out _ pa HX10.out HPA.out) ?_ (fun ch w' h => by obtain ⟨_, h⟩ := h; simp at h) (fun w' h => by obtain ⟨_, h⟩ := h; simp at h)
        case y4 =>
          cases ho
          simp [execOp, go_sem, Act.eval]
        rintro u w11 ⟨q11, m11, c11, hu, ho11, hb11⟩
        cases hu
        have HX11 : Hid (Below wr.heap.size wr w11) := Below.on HX10.out hb11
        have HFF := HFIN.out w10 w11 q11 m11 c11 HX10.out ho11 hb11
        have HFH : Hid (SbOut w2 (normT (3, ((1 : Nat) : Int), s) D) (.returned (.tuple #[.slice q11 m11 c11, .int .i64 0])) w11) := HFF
        refine ⟨HS0.out _ HX11.out, ?_⟩
        have hS11 := HS0.out _ HX11.out
        clear ho11 hb11 HFF hS10
        simp only [Act.put, List.setIfInBounds_toArray, List.set_cons_zero, List.set_cons_succ]
        refine hTake (i := 5) (v := .slice q11 m11 c11) (some 2) (by kernel_rfl) (by kernel_rfl) (by kernel_rfl) (by kernel_rfl) (by kernel_rfl) (fun _ _ _ h => h) (fun o ho W hSw => ?y5) (by assumption) ?_
        case y5 =>
          cases ho
          simp [execOp, go_sem, Act.eval]
        simp only [Act.put, List.setIfInBounds_toArray, List.set_cons_zero, List.set_cons_succ]
        refine hTake (i := 6) (v := .int .i64 0) (some 3) (by kernel_rfl) (by kernel_rfl) (by kernel_rfl) (by kernel_rfl) (by kernel_rfl) (fun _ _ _ h => h) (fun o ho W hSw => ?y6) (by assumption) ?_
        case y6 =>
          cases ho
          simp [execOp, go_sem, Act.eval]
        simp only [Act.put, List.setIfInBounds_toArray, List.set_cons_zero, List.set_cons_succ]
        refine wpAnyH_done (by kernel_rfl) ?_ _
        change Exit.then _ _ _ _ _
        go_wp2_with fail
        go_ret2
        exact HFH.out
      | false =>
        rw [ho] at HI1
        have hse : ¬ s = nOnce := by simpa using ho
        cases ha : (s == nAll) with
        | true =>
          rw [ha] at HI2
          have hsa : s = nAll := by simpa using ha
          have hj2 : j = 2 := by
            have h := HCC.out
            rw [hsa] at h
            simp [conC] at h
            omega
          subst hj2
          obtain ⟨c8, k8, c9, k9, rfl⟩ := count_two HCT.out
          obtain ⟨x0, x1, x2, x3, x4, x5⟩ := HRW.out wr (Below.refl _ _) 0 (by simp [celF])
          obtain ⟨y0, y1, y2, y3, y4, y5⟩ := HRW.out wr (Below.refl _ _) 1 (by simp [celF])
          simp only [celF, List.getD_cons_zero, List.getD_cons_succ, Nat.add_zero, Nat.zero_add] at x2 x3 x4 x5 y2 y3 y4 y5
          have HS1 := HSM2.out 0 (by simp [celF])
          have HS2 := HSM2.out 1 (by simp [celF])
          simp only [celF, List.getD_cons_zero, List.getD_cons_succ] at HS1 HS2
          obtain ⟨L0, eL0⟩ : ∃ L, L = (c8 :: k8.cells).length := ⟨_, rfl⟩
          rw [← eL0] at x2
          have HC1 : Hid (∀ W, Below wr.heap.size wr W → Calls Tryz.prog 62 #[.string ⟨#[92, 43]⟩, .slice (some ⟨gp, 1, none⟩) 1 (ct - 1)] W fun e w' => ∃ q m c2, e = .returned (.slice q m c2) ∧ OwnC w' W.heap.size q m c2 ((3, 1, [92, 43]) :: (c9 :: k9.cells)) ∧ Below W.heap.size W w') := fun W hW => by
            have hr : RowsO W gp 1 [c9 :: k9.cells] := fun i hi => by
              have hi0 : i = 0 := by simp at hi; omega
              subst hi0
              exact ⟨y0, y1, (hW.cell (World.block_lt_of_cell? _ _ y2)).trans y2, y3.below hW, y4, y5⟩
            have h := l2compO_any [92, 43] (byte_of rfl) gp 1 1 (ct - 1) [c9 :: k9.cells] W rfl (by decide) hr
            rw [sNot] at h
            simpa using h
          have HPR : Hid (∀ W (pa : Option Addr) (ma ca : Nat), Below wr.heap.size wr W → OwnC W wr.heap.size pa ma ca ((3, 1, [92, 43]) :: (c9 :: k9.cells)) → Calls Tryz.prog 64 #[.string ⟨#[44]⟩, .slice x0 L0 x1, .slice pa ma ca] W fun e w' => ∃ q m c2, e = .returned (.slice q m c2) ∧ OwnC w' W.heap.size q m c2 ((3, 2, [44]) :: ((c8 :: k8.cells) ++ ((3, 1, [92, 43]) :: (c9 :: k9.cells)))) ∧ Below W.heap.size W w') := fun W pa ma ca hW hp => by
            have h := l2pairO_any [44] (byte_of rfl) x0 pa L0 ma x1 ca (c8 :: k8.cells) ((3, 1, [92, 43]) :: (c9 :: k9.cells)) W eL0 hp.1 (x3.below hW) hp.cin (by simp) (by simp) x5 (by have := HS2.2; simp only [tl, List.length_cons] at this ⊢; simp; omega)
            rw [sComma] at h
            exact h
          have HBND : Hid (((3, 2, [44]) :: ((c8 :: k8.cells) ++ ((3, 1, [92, 43]) :: (c9 :: k9.cells)))).length + tl ((3, 2, [44]) :: ((c8 :: k8.cells) ++ ((3, 1, [92, 43]) :: (c9 :: k9.cells)))) ≤ 1000000) := by
            have ht := HTL.out
            simp [Fo.cells, tl, tl_append] at ht
            show _ ≤ _
            simp [tl, tl_append]
            omega
          have HC2 : Hid (∀ W (pa : Option Addr) (ma ca B : Nat), OwnC W B pa ma ca ((3, 2, [44]) :: ((c8 :: k8.cells) ++ ((3, 1, [92, 43]) :: (c9 :: k9.cells)))) → Calls Tryz.prog 62 #[.string ⟨#[92, 43]⟩, .slice (some ⟨W.heap.size, 0, none⟩) 1 1] (W.alloc (.cells #[.slice pa ma ca] 43)) fun e w' => ∃ q m c2, e = .returned (.slice q m c2) ∧ OwnC w' W.heap.size q m c2 ((3, 1, [92, 43]) :: ((3, 2, [44]) :: ((c8 :: k8.cells) ++ ((3, 1, [92, 43]) :: (c9 :: k9.cells))))) ∧ Below W.heap.size W w') := fun W pa ma ca B hp => by
            have hbnd : ((3, 2, [44]) :: ((c8 :: k8.cells) ++ ((3, 1, [92, 43]) :: (c9 :: k9.cells)))).length + tl ((3, 2, [44]) :: ((c8 :: k8.cells) ++ ((3, 1, [92, 43]) :: (c9 :: k9.cells)))) ≤ 1000000 := HBND.out
            have h := l2oneO_any [92, 43] (byte_of rfl) pa ma ca _ W hp.1 hp.cin (by simp) (Nat.le_trans hbnd (by decide))
            rw [sNot] at h
            exact h
          have HFIN : Hid (∀ W W' q m c2, Below wr.heap.size wr W → OwnC W' W.heap.size q m c2 ((3, 1, [92, 43]) :: ((3, 2, [44]) :: ((c8 :: k8.cells) ++ ((3, 1, [92, 43]) :: (c9 :: k9.cells))))) → Below W.heap.size W W' → SbOut w2 (normT (3, ((2 : Nat) : Int), s) D) (.returned (.tuple #[.slice q m c2, .int .i64 0])) W') := fun W W' q m c2 hW ho hb =>
            sbOut_some HNF.out (by rw [normK_all (c := (3, ((2 : Nat) : Int), s)) hsa]; simp [Fo.cells]) (Below.on (Below.on HBR.out hW) hb) (ho.mono (Below.on HBR.out hW).size)
          have HS0 : Hid (∀ W, Below wr.heap.size wr W → W.cell? ⟨gp, 0, none⟩ = some (.slice x0 L0 x1)) := fun W hW => (hW.cell (World.block_lt_of_cell? _ _ x2)).trans x2
          have hct1 : ¬ ct = 1 := by omega
          have hct2 : (2 : Int) ≤ (ct : Int) := by omega
          have hct3 : ¬ ct - 1 = 0 := by omega
          clear x2 x3 x4 x5 y2 y3 y4 y5 eL0 ho ha hse hsa hcvr f2 HRW HSM2 HJL HCT HNF HCC HS1 HS2
          go_wp2_with fail
          refine HI1.mono ?_
          rintro e wr ⟨rfl, rfl⟩
          clear HI1
          go_wp2_with fail
          refine HI2.mono ?_
          rintro e wr ⟨rfl, rfl⟩
          clear HI2
          go_wp2_with fail
          refine wp_region_held_drew (S := fun W => W.cell? ⟨gp, 0, none⟩ = some (.slice x0 L0 x1)) (by kernel_rfl) ?_ (fun hHeld => ?_)
          · exact HS0.out _ (Below.refl _ _).drew
          refine hTake (i := 0) (v := .slice (some ⟨gp, 0, none⟩) 2 ct) (some 73) (by kernel_rfl) (by kernel_rfl) (by kernel_rfl) (by kernel_rfl) (by kernel_rfl) (fun _ _ _ h => h) (fun o ho W hSw => ?y0) (by assumption) ?_
          case y0 =>
            cases ho
            simp [execOp, go_sem, Act.eval]
          simp only [Act.put, List.setIfInBounds_toArray, List.set_cons_zero, List.set_cons_succ]
          refine hTake (i := 1) (v := .pointer (some ⟨gp, 0, none⟩)) (some 74) (by kernel_rfl) (by kernel_rfl) (by kernel_rfl) (by kernel_rfl) (by kernel_rfl) (fun _ _ _ h => h) (fun o ho W hSw => ?y1) (by assumption) ?_
          case y1 =>
            cases ho
            simp [execOp, go_sem, Act.eval]
          simp only [Act.put, List.setIfInBounds_toArray, List.set_cons_zero, List.set_cons_succ]
          refine hTake (i := 2) (v := .slice x0 L0 x1) (some 75) (by kernel_rfl) (by kernel_rfl) (by kernel_rfl) (by kernel_rfl) (by kernel_rfl) (fun _ _ _ h => h) (fun o ho W hSw => ?y2) (by assumption) ?_
          case y2 =>
            cases ho
            simp [execOp, go_sem, Act.eval, hSw]
          simp only [Act.put, List.setIfInBounds_toArray, List.set_cons_zero, List.set_cons_succ]
          refine hTake (i := 3) (v := .slice (some ⟨gp, 0, none⟩) 2 ct) (some 76) (by kernel_rfl) (by kernel_rfl) (by kernel_rfl) (by kernel_rfl) (by kernel_rfl) (fun _ _ _ h => h) (fun o ho W hSw => ?y3) (by assumption) ?_
          case y3 =>
            cases ho
            simp [execOp, go_sem, Act.eval]
          simp only [Act.put, List.setIfInBounds_toArray, List.set_cons_zero, List.set_cons_succ]
          refine hTake (i := 4) (v := .slice (some ⟨gp, 1, none⟩) 1 (ct - 1)) (some 77) (by kernel_rfl) (by kernel_rfl) (by kernel_rfl) (by kernel_rfl) (by kernel_rfl) (fun _ _ _ h => h) (fun o ho W hSw => ?y4) (by assumption) ?_
          case y4 =>
            cases ho
            simp [execOp, go_sem, Act.eval, hct1]
          simp only [Act.put, List.setIfInBounds_toArray, List.set_cons_zero, List.set_cons_succ]
          refine hCallE (i := 5) (some 78) (by kernel_rfl) (by kernel_rfl) (by kernel_rfl) (fun o ho => ?y5) (HC1.out _ (Below.refl _ _).drew) ?_ (fun ch w' h => by obtain ⟨_, h⟩ := h; simp at h) (fun w' h => by obtain ⟨_, h⟩ := h; simp at h)
          case y5 =>
            cases ho
            simp [execOp, go_sem, Act.eval]
          rintro u w10 ⟨q10, m10, c10, hu, ho10, hb10⟩
          cases hu
          have HX10 : Hid (Below wr.heap.size wr w10) := (Below.refl _ _).drew.trans hb10
          have HO10 : Hid (OwnC w10 wr.heap.size q10 m10 c10 ((3, 1, [92, 43]) :: (c9 :: k9.cells))) := ho10
          refine ⟨HS0.out _ HX10.out, ?_⟩
          have hS10 := HS0.out _ HX10.out
          clear hb10 ho10
          simp only [Act.put, List.setIfInBounds_toArray, List.set_cons_zero, List.set_cons_succ]
          refine hCallE (i := 6) (some 79) (by kernel_rfl) (by kernel_rfl) (by kernel_rfl) (fun o ho => ?y6) (HPR.out _ q10 m10 c10 HX10.out HO10.out) ?_ (fun ch w' h => by obtain ⟨_, h⟩ := h; simp at h) (fun w' h => by obtain ⟨_, h⟩ := h; simp at h)
          case y6 =>
            cases ho
            simp [execOp, go_sem, Act.eval]
          rintro u w11 ⟨q11, m11, c11, hu, ho11, hb11⟩
          cases hu
          have HX11 : Hid (Below wr.heap.size wr w11) := Below.on HX10.out hb11
          have HCC2 := HC2.out w11 q11 m11 c11 _ ho11
          have HX12 : Hid (Below wr.heap.size wr (w11.alloc (.cells #[.slice q11 m11 c11] 43))) := HX11.out.alloc HX11.out.size _
          refine ⟨HS0.out _ HX11.out, ?_⟩
          have hS11 := HS0.out _ HX11.out
          clear ho11 hb11 hS10
          simp only [Act.put, List.setIfInBounds_toArray, List.set_cons_zero, List.set_cons_succ]
          refine hStep (i := 7) (v := .slice (some ⟨w11.heap.size, 0, none⟩) 1 1) (w' := w11.alloc (.cells #[.slice q11 m11 c11] 43)) (some 80) (by kernel_rfl) (by kernel_rfl) (by kernel_rfl) (fun o ho => ?y7) (HS0.out _ HX12.out) ?_
          case y7 =>
            cases ho
            simp [execOp, go_sem, Act.eval]
          simp only [Act.put, List.setIfInBounds_toArray, List.set_cons_zero, List.set_cons_succ]
          refine hCallE (i := 8) (some 81) (by kernel_rfl) (by kernel_rfl) (by kernel_rfl) (fun o ho => ?y8) (HCC2) ?_ (fun ch w' h => by obtain ⟨_, h⟩ := h; simp at h) (fun w' h => by obtain ⟨_, h⟩ := h; simp at h)
          case y8 =>
            cases ho
            simp [execOp, go_sem, Act.eval]
          rintro u w13 ⟨q13, m13, c13, hu, ho13, hb13⟩
          cases hu
          have HX13 : Hid (Below wr.heap.size wr w13) := Below.on HX11.out hb13
          have HFH : Hid (SbOut w2 (normT (3, ((2 : Nat) : Int), s) D) (.returned (.tuple #[.slice q13 m13 c13, .int .i64 0])) w13) := HFIN.out w11 w13 q13 m13 c13 HX11.out ho13 hb13
          refine ⟨HS0.out _ HX13.out, ?_⟩
          have hS13 := HS0.out _ HX13.out
          clear ho13 hb13 HCC2
          simp only [Act.put, List.setIfInBounds_toArray, List.set_cons_zero, List.set_cons_succ]
          refine hTake (i := 9) (v := .slice q13 m13 c13) (some 2) (by kernel_rfl) (by kernel_rfl) (by kernel_rfl) (by kernel_rfl) (by kernel_rfl) (fun _ _ _ h => h) (fun o ho W hSw => ?y9) (by assumption) ?_
          case y9 =>
            cases ho
            simp [execOp, go_sem, Act.eval]
          simp only [Act.put, List.setIfInBounds_toArray, List.set_cons_zero, List.set_cons_succ]
          refine hTake (i := 10) (v := .int .i64 0) (some 3) (by kernel_rfl) (by kernel_rfl) (by kernel_rfl) (by kernel_rfl) (by kernel_rfl) (fun _ _ _ h => h) (fun o ho W hSw => ?y10) (by assumption) ?_
          case y10 =>
            cases ho
            simp [execOp, go_sem, Act.eval]
          simp only [Act.put, List.setIfInBounds_toArray, List.set_cons_zero, List.set_cons_succ]
          refine wpAnyH_done (by kernel_rfl) ?_ _
          change Exit.then _ _ _ _ _
          go_wp2_with fail
          go_ret2
          exact HFH.out
        | false =>
          rw [ha] at HI2
          have hsa : ¬ s = nAll := by simpa using ha
          have HCM := l2compO_any s HBY.out gp 0 j ct (celF GD) wr HJL.out hM20 (HRW.out wr (Below.refl _ _))
          rw [celF_flat] at HCM
          have HX : Hid ((normK (3, (j : Int), s) GD).cells = (3, (j : Int), s) :: GD.cells) := by show _ = _; rw [normK_else (c := (3, (j : Int), s)) hse hsa]; simp [Fo.cells]
          obtain ⟨sl2, esl2⟩ : ∃ m, m = s.length := ⟨_, rfl⟩
          rw [← esl2] at f2 hcvr
          obtain ⟨str, estr⟩ : ∃ x, x = strOfNums s := ⟨_, rfl⟩
          rw [← estr] at hcvr HCM
          clear ho ha hse hsa HRW HSM2 HJL HCT HCC esl2 estr
          go_wp2_with fail
          refine HI1.mono ?_
          rintro e wr ⟨rfl, rfl⟩
          clear HI1
          go_wp2_with fail
          refine HI2.mono ?_
          rintro e wr ⟨rfl, rfl⟩
          clear HI2
          go_wp2_with fail
          refine HCM.mono ?_
          rintro e w10 ⟨q10, m10, c10, rfl, ho10, hb10⟩
          have HFH : Hid (SbOut w2 (normT (3, (j : Int), s) D) (.returned (.tuple #[.slice q10 m10 c10, .int .i64 0])) w10) := sbOut_some HNF.out HX.out (Below.on HBR.out hb10) (ho10.mono HBR.out.size)
          clear ho10 hb10 HCM hcvr f2
          go_wp2_with fail
          go_ret2
          exact HFH.out
end Go.Proofs.YtfgaenggbbgboaaGreatDoor

