/- Texts of NbS1, NbN, SSO. Own work of the verifier. -/
import Derived.Test.YtemohfhblpejmaaDoorUqam
import Derived.Deep.RegionHeld3
import Derived.Test.YtemohfhblpejmaaDoorUqaj
import Derived.Test.YtemohfhblpejmaaDoorUqag
import Derived.Maps.AppendAt
namespace Go.Proofs.YtemohfhblpejmaaDoor
open Go Go.RowKit
set_option linter.unusedVariables false

theorem l8dollar_any (p : Option Addr) (m cap : Nat) (xs : List Int) (w : World) (hm : m = xs.length) (hl : m ≤ 1000000) (hb : Byte xs) (hin : BIn w p xs) : Calls Tryd.prog 39 #[.slice p m cap] w fun e w' => e = .returned (.bool (dolL xs)) ∧ w' = w := by
  have HF : Hid (∀ b, b = dolL xs → Ending.returned (.bool b) = .returned (.bool (dolL xs))) := fun b h => ret_bool h
  cases xs with
  | nil =>
    have hm0 : m = 0 := by simpa using hm
    subst hm0
    have HZ : Hid (dolL [] = false) := rfl
    clear hin hm hb
    go_enter Tryd.func39, Tryd.ntmps39
    go_wp2_with fail
    go_ret
    exact ⟨HF.out _ HZ.out.symm, rfl⟩
  | cons x r =>
    obtain ⟨b, o, rfl, hcs⟩ := hin (by simp)
    have h0 := hcs 0 (by simp)
    simp only [List.getD_cons_zero, Nat.add_zero] at h0
    have hx := hb x (by simp)
    have hm1 : 1 ≤ m := by simp at hm; omega
    have h1 : decide ((0 : Int) < (m : Int)) = true := by simp; omega
    have h1' : (0 : Int) < (m : Int) := by omega
    have HZ : Hid (dolL (x :: r) = (x == 36)) := by show _ = _; simp [dolL]
    clear hin hm hb hcs
    cases h2 : (x == 36)
    all_goals
      rw [h2] at HZ
      go_enter Tryd.func39, Tryd.ntmps39
      go_wp2_with fail
      go_ret
      exact ⟨HF.out _ HZ.out.symm, rfl⟩

/-- Whether a first cell is that of a construct, as the model asks. -/
def con7 (s : ByteArray) (k n : Int) : Bool := isB s ⟨#[44]⟩ k n 2 || isB s ⟨#[59]⟩ k n 2 || isB s ⟨#[45, 62]⟩ k n 2 || isB s ⟨#[92, 43]⟩ k n 1 || isB s ⟨#[111, 110, 99, 101]⟩ k n 1 || isB s ⟨#[102, 111, 114, 97, 108, 108]⟩ k n 2 || isB s ⟨#[33]⟩ k n 0
set_option maxRecDepth 100000 in
set_option maxHeartbeats 400000 in
theorem l8construct_any (s : ByteArray) (k n : Int) (b o : Nat) (q : Option Addr) (m qc len cap : Nat) (w : World) (hlen : 0 < len)
    (d0 : w.cell? ⟨b, o, none⟩ = some (.int .i64 k)) (d1 : w.cell? ⟨b, o + 1, none⟩ = some (.int .i64 n)) (d2 : w.cell? ⟨b, o + 2, none⟩ = some (.slice q m qc))
    (hcv : (convert 32 9 (.slice q m qc)).run Tryd.prog w = .ok (.string s) w) :
    Calls Tryd.prog 40 #[.slice (some ⟨b, o, none⟩) len cap] w fun e w' => e = .returned (.bool (con7 s k n)) ∧ w' = w := by
  have HL := fun nm ar => l2isG_any s nm k n ar b o q m qc len cap w hlen d0 d1 d2 hcv
  have HF : Hid (∀ b, b = con7 s k n → Ending.returned (.bool b) = .returned (.bool (con7 s k n))) := fun b h => ret_bool h
  have HR : Hid (con7 s k n = (isB s ⟨#[44]⟩ k n 2 || isB s ⟨#[59]⟩ k n 2 || isB s ⟨#[45, 62]⟩ k n 2 || isB s ⟨#[92, 43]⟩ k n 1 || isB s ⟨#[111, 110, 99, 101]⟩ k n 1 || isB s ⟨#[102, 111, 114, 97, 108, 108]⟩ k n 2 || isB s ⟨#[33]⟩ k n 0)) := rfl
  have H0 := HL ⟨#[44]⟩ 2
  have H1 := HL ⟨#[59]⟩ 2
  have H2 := HL ⟨#[45, 62]⟩ 2
  have H3 := HL ⟨#[92, 43]⟩ 1
  have H4 := HL ⟨#[111, 110, 99, 101]⟩ 1
  have H5 := HL ⟨#[102, 111, 114, 97, 108, 108]⟩ 2
  have H6 := HL ⟨#[33]⟩ 0
  clear HL d0 d1 d2 hcv hlen
  cases h0 : isB s ⟨#[44]⟩ k n 2
  rotate_left
  · rw [h0] at HR
    rw [h0] at H0
    go_enter Tryd.func40, Tryd.ntmps40
    go_wp2_with fail
    refine H0.mono ?_
    rintro e w0 ⟨rfl, rfl⟩
    go_wp2_with fail
    go_ret
    exact ⟨HF.out _ (by rw [HR.out]; rfl), rfl⟩
  cases h1 : isB s ⟨#[59]⟩ k n 2
  rotate_left
  · rw [h0, h1] at HR
    rw [h0] at H0
    rw [h1] at H1
    go_enter Tryd.func40, Tryd.ntmps40
    go_wp2_with fail
    refine H0.mono ?_
    rintro e w0 ⟨rfl, rfl⟩
    go_wp2_with fail
    refine H1.mono ?_
    rintro e w1 ⟨rfl, rfl⟩
    go_wp2_with fail
    go_ret
    exact ⟨HF.out _ (by rw [HR.out]; rfl), rfl⟩
  cases h2 : isB s ⟨#[45, 62]⟩ k n 2
  rotate_left
  · rw [h0, h1, h2] at HR
    rw [h0] at H0
    rw [h1] at H1
    rw [h2] at H2
    go_enter Tryd.func40, Tryd.ntmps40
    go_wp2_with fail
    refine H0.mono ?_
    rintro e w0 ⟨rfl, rfl⟩
    go_wp2_with fail
    refine H1.mono ?_
    rintro e w1 ⟨rfl, rfl⟩
    go_wp2_with fail
    refine H2.mono ?_
    rintro e w2 ⟨rfl, rfl⟩
    go_wp2_with fail
    go_ret
    exact ⟨HF.out _ (by rw [HR.out]; rfl), rfl⟩
  cases h3 : isB s ⟨#[92, 43]⟩ k n 1
  rotate_left
  · rw [h0, h1, h2, h3] at HR
    rw [h0] at H0
    rw [h1] at H1
    rw [h2] at H2
    rw [h3] at H3
    go_enter Tryd.func40, Tryd.ntmps40
    go_wp2_with fail
    refine H0.mono ?_
    rintro e w0 ⟨rfl, rfl⟩
    go_wp2_with fail
    refine H1.mono ?_
    rintro e w1 ⟨rfl, rfl⟩
    go_wp2_with fail
    refine H2.mono ?_
    rintro e w2 ⟨rfl, rfl⟩
    go_wp2_with fail
    refine H3.mono ?_
    rintro e w3 ⟨rfl, rfl⟩
    go_wp2_with fail
    go_ret
    exact ⟨HF.out _ (by rw [HR.out]; rfl), rfl⟩
  cases h4 : isB s ⟨#[111, 110, 99, 101]⟩ k n 1
  rotate_left
  · rw [h0, h1, h2, h3, h4] at HR
    rw [h0] at H0
    rw [h1] at H1
    rw [h2] at H2
    rw [h3] at H3
    rw [h4] at H4
    go_enter Tryd.func40, Tryd.ntmps40
    go_wp2_with fail
    refine H0.mono ?_
    rintro e w0 ⟨rfl, rfl⟩
    go_wp2_with fail
    refine H1.mono ?_
    rintro e w1 ⟨rfl, rfl⟩
    go_wp2_with fail
    refine H2.mono ?_
    rintro e w2 ⟨rfl, rfl⟩
    go_wp2_with fail
    refine H3.mono ?_
    rintro e w3 ⟨rfl, rfl⟩
    go_wp2_with fail
    refine H4.mono ?_
    rintro e w4 ⟨rfl, rfl⟩
    go_wp2_with fail
    go_ret
    exact ⟨HF.out _ (by rw [HR.out]; rfl), rfl⟩
  cases h5 : isB s ⟨#[102, 111, 114, 97, 108, 108]⟩ k n 2
  rotate_left
  · rw [h0, h1, h2, h3, h4, h5] at HR
    rw [h0] at H0
    rw [h1] at H1
    rw [h2] at H2
    rw [h3] at H3
    rw [h4] at H4
    rw [h5] at H5
    go_enter Tryd.func40, Tryd.ntmps40
    go_wp2_with fail
    refine H0.mono ?_
    rintro e w0 ⟨rfl, rfl⟩
    go_wp2_with fail
    refine H1.mono ?_
    rintro e w1 ⟨rfl, rfl⟩
    go_wp2_with fail
    refine H2.mono ?_
    rintro e w2 ⟨rfl, rfl⟩
    go_wp2_with fail
    refine H3.mono ?_
    rintro e w3 ⟨rfl, rfl⟩
    go_wp2_with fail
    refine H4.mono ?_
    rintro e w4 ⟨rfl, rfl⟩
    go_wp2_with fail
    refine H5.mono ?_
    rintro e w5 ⟨rfl, rfl⟩
    go_wp2_with fail
    go_ret
    exact ⟨HF.out _ (by rw [HR.out]; rfl), rfl⟩
  cases h6 : isB s ⟨#[33]⟩ k n 0
  rotate_left
  · rw [h0, h1, h2, h3, h4, h5, h6] at HR
    rw [h0] at H0
    rw [h1] at H1
    rw [h2] at H2
    rw [h3] at H3
    rw [h4] at H4
    rw [h5] at H5
    rw [h6] at H6
    go_enter Tryd.func40, Tryd.ntmps40
    go_wp2_with fail
    refine H0.mono ?_
    rintro e w0 ⟨rfl, rfl⟩
    go_wp2_with fail
    refine H1.mono ?_
    rintro e w1 ⟨rfl, rfl⟩
    go_wp2_with fail
    refine H2.mono ?_
    rintro e w2 ⟨rfl, rfl⟩
    go_wp2_with fail
    refine H3.mono ?_
    rintro e w3 ⟨rfl, rfl⟩
    go_wp2_with fail
    refine H4.mono ?_
    rintro e w4 ⟨rfl, rfl⟩
    go_wp2_with fail
    refine H5.mono ?_
    rintro e w5 ⟨rfl, rfl⟩
    go_wp2_with fail
    refine H6.mono ?_
    rintro e w6 ⟨rfl, rfl⟩
    go_wp2_with fail
    go_ret
    exact ⟨HF.out _ (by rw [HR.out]; rfl), rfl⟩
  rw [h0, h1, h2, h3, h4, h5, h6] at HR
  rw [h0] at H0
  rw [h1] at H1
  rw [h2] at H2
  rw [h3] at H3
  rw [h4] at H4
  rw [h5] at H5
  rw [h6] at H6
  go_enter Tryd.func40, Tryd.ntmps40
  go_wp2_with fail
  refine H0.mono ?_
  rintro e w0 ⟨rfl, rfl⟩
  go_wp2_with fail
  refine H1.mono ?_
  rintro e w1 ⟨rfl, rfl⟩
  go_wp2_with fail
  refine H2.mono ?_
  rintro e w2 ⟨rfl, rfl⟩
  go_wp2_with fail
  refine H3.mono ?_
  rintro e w3 ⟨rfl, rfl⟩
  go_wp2_with fail
  refine H4.mono ?_
  rintro e w4 ⟨rfl, rfl⟩
  go_wp2_with fail
  refine H5.mono ?_
  rintro e w5 ⟨rfl, rfl⟩
  go_wp2_with fail
  refine H6.mono ?_
  rintro e w6 ⟨rfl, rfl⟩
  go_wp2_with fail
  go_ret
  exact ⟨HF.out _ (by rw [HR.out]; rfl), rfl⟩
theorem lit_list (l : List UInt8) : (ByteArray.mk l.toArray).toList = l := by rw [ByteArray.toList_eq]
theorem con7_comp {s : List Int} (hb : Byte s) (n : Int) (hn : 1 ≤ n) : con7 (strOfNums s) 3 n = conC (3, n, s) := by
  unfold con7 isB
  simp only [str_is hb [44] [44] rfl, str_is hb [59] [59] rfl, str_is hb [45, 62] [45, 62] rfl, str_is hb [102, 111, 114, 97, 108, 108] nAll rfl, str_is hb [92, 43] [92, 43] rfl, str_is hb [111, 110, 99, 101] nOnce rfl, str_is hb [33] [33] rfl, lit_list]
  unfold conC
  simp
  cases (s == [44]) <;> cases (s == [59]) <;> cases (s == [45, 62]) <;> cases (s == [92, 43]) <;> cases (s == nOnce) <;> cases (s == nAll) <;> cases (n == 2) <;> cases (n == 1) <;> rfl

end Go.Proofs.YtemohfhblpejmaaDoor

namespace Go.Proofs.YtemohfhblpejmaaDoor
open Go Go.RowKit
set_option linter.unusedVariables false

/-- The error that says that nothing holds. -/
abbrev efV (a : Addr) : Value := .iface 142 (.pointer (some a))
/-- What normal answers: a tree that keeps clear of what was made between w0 and w, or the error. -/
def NmOut (w0 w : World) (a : Addr) (G : Option Fo) (e : Ending) (w' : World) : Prop :=
  Below w.heap.size w w' ∧ match G with
    | none => e = .returned (.tuple #[.nilIface, efV a])
    | some G => ∃ v, e = .returned (.tuple #[v, .nilIface]) ∧ FoA (fun b => w0.heap.size ≤ b ∧ b < w.heap.size) w' G [v]
theorem nmOut_none {w0 w w' : World} {a : Addr} {G : Option Fo} (hG : G = none) (hb : Below w.heap.size w w') : NmOut w0 w a G (.returned (.tuple #[.nilIface, efV a])) w' := by
  subst hG
  exact ⟨hb, rfl⟩
theorem nmOut_some {w0 w w' : World} {a : Addr} {G : Option Fo} {F : Fo} {v : Value} (hG : G = some F) (hb : Below w.heap.size w w') (hF : FoA (fun b => w0.heap.size ≤ b ∧ b < w.heap.size) w' F [v]) : NmOut w0 w a G (.returned (.tuple #[v, .nilIface])) w' := by
  subst hG
  exact ⟨hb, v, rfl, hF⟩
theorem sCall : strOfNums nCall = ⟨#[99, 97, 108, 108]⟩ := rfl
theorem sTrue : strOfNums nTrue = ⟨#[116, 114, 117, 101]⟩ := rfl
theorem sNot : strOfNums [92, 43] = ⟨#[92, 43]⟩ := rfl
theorem sThen : strOfNums [45, 62] = ⟨#[45, 62]⟩ := rfl
theorem sComma : strOfNums [44] = ⟨#[44]⟩ := rfl
theorem nbArgs_atom (x : Value) (w : World) : Calls Tryd.prog 34 #[.iface 82 x] w fun e w' => e = .returned (.slice none 0 0) ∧ w' = w := by
  have n1 := nbA_atom_comp
  go_enter Tryd.func34, Tryd.ntmps34
  go_wp2_with fail
  go_ret
  exact ⟨rfl, rfl⟩
theorem nbArgs_comp (b g q : Nat) (w : World) (h : w.cell? ⟨b, 1, none⟩ = some (.slice (some ⟨g, 0, none⟩) q q)) :
    Calls Tryd.prog 34 #[.iface 84 (.pointer (some ⟨b, 0, none⟩))] w fun e w' => e = .returned (.slice (some ⟨g, 0, none⟩) q q) ∧ w' = w := by
  have n1 := nbA_comp_comp
  go_enter Tryd.func34, Tryd.ntmps34
  go_wp2_with fail
  go_ret
  exact ⟨rfl, rfl⟩

set_option maxRecDepth 100000 in
theorem normal_var (n : Int) (a : Addr) (w0 w : World) (hw : w0.heap.size ≤ w.heap.size) : Calls Tryd.prog 48 #[.iface 90 (.int .i64 n)] w (NmOut w0 w a (normT (0, n, []) .nil)) := by
  have HN : Hid (normT (0, n, []) .nil = some (.node (3, 1, nCall) (.node (0, n, []) .nil .nil) .nil)) := rfl
  have HW : Hid (w0.heap.size ≤ w.heap.size) := hw
  have HFO := fun W => nbFO_var (.int .i64 n) W
  have HIV := fun W => nbIsVar_var (.int .i64 n) W
  clear hw
  go_enter Tryd.func48, Tryd.ntmps48
  go_wp2_with fail
  refine (HFO _).mono ?_
  rintro e w1 ⟨rfl, hb1⟩
  have HB1 : Hid (Below w.heap.size w w1) := hb1
  clear hb1 HFO
  go_wp2_with fail
  refine (HIV _).mono ?_
  rintro e w2 ⟨rfl, rfl⟩
  go_wp2_with fail
  refine (callableN_any _ _ 1 _ (by decide) (by decide)).mono ?_
  rintro e w3 ⟨rfl, rfl⟩
  go_wp2_with fail
  go_ret2
  have hs := HB1.out.size
  have hb2 := HB1.out.alloc hs (.cells #[.string ⟨#[]⟩, .int .i64 0] 59)
  refine nmOut_some HN.out ((hb2.alloc hb2.size _).alloc (hb2.alloc hb2.size _).size _) ?_
  have h := comp_row (A := fun b => w0.heap.size ≤ b ∧ b < w.heap.size) (W := w1.alloc (.cells #[.string ⟨#[]⟩, .int .i64 0] 59)) (n := 1) (nm := nCall) (k := .node (0, n, []) .nil .nil) (vs := [.iface 90 (.int .i64 n)]) (fun b hb h => by simp at hb; omega) ⟨_, [], rfl, .inl ⟨rfl, rfl⟩, rfl⟩
  rw [sCall] at h
  simpa using h
set_option maxRecDepth 100000 in
theorem normal_num (n : Int) (a : Addr) (w0 w : World) (hg : w.cell? ⟨1, 0, none⟩ = some (efV a)) : Calls Tryd.prog 48 #[.iface 101 (.int .i64 n)] w (NmOut w0 w a (normT (1, n, []) .nil)) := by
  have HN : Hid (normT (1, n, []) .nil = none) := rfl
  have HFO := fun W => nbFO_num (.int .i64 n) W
  have HIV := fun W => nbIsVar_num (.int .i64 n) W
  have HG : Hid (w.cell? ⟨1, 0, none⟩ = some (efV a)) := hg
  clear hg
  go_enter Tryd.func48, Tryd.ntmps48
  go_wp2_with fail
  refine (HFO _).mono ?_
  rintro e w1 ⟨rfl, hb1⟩
  have HB1 : Hid (Below w.heap.size w w1) := hb1
  have hg1 := (hb1.cell (World.block_lt_of_cell? _ _ HG.out)).trans HG.out
  have hg2 := fun o => Lib.cell?_alloc_marked (W := w1) o hg1
  clear hb1 HFO
  go_wp2_with fail
  refine (HIV _).mono ?_
  rintro e w2 ⟨rfl, rfl⟩
  go_wp2_with fail
  go_region
  all_goals go_wp2_with fail
  all_goals go_ret2
  all_goals exact nmOut_none HN.out ((HB1.out.alloc HB1.out.size _).drew)

set_option maxRecDepth 100000 in
theorem normal_atom (s : List Int) (hby : Byte s) (hl : s.length ≤ 1000) (a : Addr) (w0 w : World) (hg : w.cell? ⟨1, 0, none⟩ = some (efV a)) : Calls Tryd.prog 48 #[.iface 82 (.string (strOfNums s))] w (NmOut w0 w a (normT (2, 0, s) .nil)) := by
  have HN : Hid (normT (2, 0, s) .nil = if dolL s = true then none else some (.node (2, 0, s) .nil .nil)) := by
    show _ = _
    unfold normT normH
    rw [if_neg (show ¬ (2 : Int) = 0 by decide)]
    by_cases h : dolL s = true
    · rw [if_pos (.inr h), if_pos h]
    · rw [if_neg (by simp [h]), if_neg h, if_neg (by simp [conC])]
  have HT : Hid (∀ W, FoA (fun b => w0.heap.size ≤ b ∧ b < w.heap.size) W (.node (2, 0, s) .nil .nil) [.iface 82 (.string (strOfNums s))]) := fun W => foA_atom
  have hsz : (strOfNums s).size ≤ 1000000000 := by rw [size_str]; omega
  have HNW := fun W => isNew_any (strOfNums s) 0 W hsz
  have HCN := fun W => isConstruct_any (strOfNums s) 0 W
  have HFO := fun W => nbFO_atom (strOfNums s) W
  have HIV := fun W => nbIsVar_atom (.string (strOfNums s)) W
  have HAR := fun W => nbArgs_atom (.string (strOfNums s)) W
  rw [dol_str hby] at HNW
  rw [con_str0 hby] at HCN
  have HG : Hid (w.cell? ⟨1, 0, none⟩ = some (efV a)) := hg
  have HS : Hid (s = [33] → ((strOfNums s).toList == [111, 110, 99, 101]) = false ∧ ((strOfNums s).toList == [102, 111, 114, 97, 108, 108]) = false) := fun h => by rw [str_is hby [111, 110, 99, 101] nOnce rfl, str_is hby [102, 111, 114, 97, 108, 108] nAll rfl, h]; exact ⟨rfl, rfl⟩
  obtain ⟨str, es⟩ : ∃ str, str = strOfNums s := ⟨_, rfl⟩
  rw [← es] at HNW HCN HFO HIV HAR HT HS ⊢
  obtain ⟨i0, hi, hz0, hz1, hz2⟩ := info_parts infoTerm
  have hmx : 0 ≤ maxLen := Nat.zero_le _
  clear hg hby hl es hsz
  cases hd : dolL s with
  | true =>
    rw [hd] at HNW HN
    clear hd HCN HAR HS
    go_enter Tryd.func48, Tryd.ntmps48
    go_wp2_with fail
    refine (HFO _).mono ?_
    rintro e w1 ⟨rfl, hb1⟩
    have HB1 : Hid (Below w.heap.size w w1) := hb1
    clear hb1 HFO
    go_wp2_with fail
    refine (HIV _).mono ?_
    rintro e w2 ⟨rfl, rfl⟩
    go_wp2_with fail
    refine (HNW _).mono ?_
    rintro e w3 ⟨rfl, hb3⟩
    have HB3 : Hid (Below w.heap.size w w3) := (HB1.out.alloc HB1.out.size _).trans (hb3.mono (by have := HB1.out.size; simp; omega))
    have hg1 := (HB3.out.cell (World.block_lt_of_cell? _ _ HG.out)).trans HG.out
    clear hb3
    go_wp2_with fail
    go_region
    all_goals go_wp2_with fail
    all_goals go_ret2
    all_goals exact nmOut_none HN.out HB3.out.drew
  | false =>
    rw [hd] at HNW HN
    have HN2 : Hid (normT (2, 0, s) .nil = some (.node (2, 0, s) .nil .nil)) := HN.out
    clear hd HN
    cases hc : (s == [33]) with
    | false =>
      rw [hc] at HCN
      clear hc HS HAR
      go_enter Tryd.func48, Tryd.ntmps48
      go_wp2_with fail
      refine (HFO _).mono ?_
      rintro e w1 ⟨rfl, hb1⟩
      have HB1 : Hid (Below w.heap.size w w1) := hb1
      clear hb1 HFO
      go_wp2_with fail
      refine (HIV _).mono ?_
      rintro e w2 ⟨rfl, rfl⟩
      go_wp2_with fail
      refine (HNW _).mono ?_
      rintro e w3 ⟨rfl, hb3⟩
      have HB3 : Hid (Below w.heap.size w w3) := (HB1.out.alloc HB1.out.size _).trans (hb3.mono (by have := HB1.out.size; simp; omega))
      have k := hb3.block w1.heap.size (by simp)
      rw [heap_alloc_new] at k
      obtain ⟨c0, c1, _, _⟩ := two_cells k
      clear hb3 k
      go_wp2_with fail
      refine (HCN _).mono ?_
      rintro e w4 ⟨rfl, hb4⟩
      have HB4 : Hid (Below w.heap.size w w4) := Below.on HB3.out hb4
      clear hb4
      go_wp2_with fail
      go_ret2
      exact nmOut_some HN2.out HB4.out (HT.out _)
    | true =>
      rw [hc] at HCN
      obtain ⟨hs1, hs2⟩ := HS.out (by simpa using hc)
      clear hc HS
      go_enter Tryd.func48, Tryd.ntmps48
      go_wp2_with fail
      refine (HFO _).mono ?_
      rintro e w1 ⟨rfl, hb1⟩
      have HB1 : Hid (Below w.heap.size w w1) := hb1
      clear hb1 HFO
      go_wp2_with fail
      refine (HIV _).mono ?_
      rintro e w2 ⟨rfl, rfl⟩
      go_wp2_with fail
      refine (HNW _).mono ?_
      rintro e w3 ⟨rfl, hb3⟩
      have HB3 : Hid (Below w.heap.size w w3) := (HB1.out.alloc HB1.out.size _).trans (hb3.mono (by have := HB1.out.size; simp; omega))
      have k := hb3.block w1.heap.size (by simp)
      rw [heap_alloc_new] at k
      have HK3 : Hid (w3.heap[w1.heap.size]? = some (.cells #[.string str, .int .i64 0] 59)) := k
      have HL3 : Hid (w1.heap.size < w3.heap.size) := by have := hb3.size; simp at this; show _ < _; omega
      obtain ⟨c0, c1, _, _⟩ := two_cells k
      clear hb3 k
      go_wp2_with fail
      refine (HCN _).mono ?_
      rintro e w4 ⟨rfl, hb4⟩
      have HB4 : Hid (Below w.heap.size w w4) := Below.on HB3.out hb4
      have HK4 : Hid (w4.heap[w1.heap.size]? = some (.cells #[.string str, .int .i64 0] 59)) := (hb4.block _ HL3.out).trans HK3.out
      have HL4 : Hid (w1.heap.size < w4.heap.size) := Nat.lt_of_lt_of_le HL3.out hb4.size
      obtain ⟨d0, d1, _, _⟩ := two_cells HK4.out
      clear hb4 c0 c1
      go_wp2_with (at_make; refine wpList_make_full _ rfl _ _ 62 rfl w4.heap.size 40 i0 .nilIface 1 Tryd.underlying62 hi hz0 hz1 _ _ _ _ 0 rfl rfl rfl rfl (by rw [hz2]; omega) hmx (Nat.le_refl _) ?_; intro w5 hown hgrow; have d0' := ((World.cell?_of_block (w := w4) (a := ⟨w1.heap.size, 0, none⟩) (hgrow.block w1.heap.size HL4.out (fun h => by cases h)))).trans d0)
      have HB5 : Hid (Below w.heap.size w w5) := HB4.out.grown hgrow HB4.out.size (fun k h => by cases h)
      clear hown hgrow
      refine (HAR _).mono ?_
      rintro e w6 ⟨rfl, rfl⟩
      go_wp2_with fail
      refine wp_loop_rounds 1 ?_
      rw [rounds_succ]
      go_wp2_with fail
      refine (callable0_any _ _ _ _).mono ?_
      rintro e w7 ⟨rfl, rfl⟩
      go_wp2_with fail
      go_ret2
      exact nmOut_some HN2.out HB5.out (HT.out _)

end Go.Proofs.YtemohfhblpejmaaDoor

namespace Go.Proofs.YtemohfhblpejmaaDoor
open Go Go.RowKit
set_option linter.unusedVariables false



/-- How a slice of slices of cells lies. -/
def CCIn (w : World) (p : Option Addr) (css : List (List Cel)) : Prop :=
  0 < css.length → ∃ b o, p = some ⟨b, o, none⟩ ∧ ∀ i, i < css.length → ∃ q c, w.cell? ⟨b, o + i, none⟩ = some (.slice q (css.getD i []).length c) ∧ CIn w q (css.getD i [])
theorem CCIn.below {W W' : World} {p : Option Addr} {css : List (List Cel)} (h : CCIn W p css) (hb : Below W.heap.size W W') : CCIn W' p css := fun hn => by
  obtain ⟨b, o, rfl, hc⟩ := h hn
  refine ⟨b, o, rfl, fun i hi => ?_⟩
  obtain ⟨q, c, h1, h2⟩ := hc i hi
  exact ⟨q, c, (hb.cell (World.block_lt_of_cell? _ _ h1)).trans h1, h2.below hb⟩



def vals (ds : List It) (css : List (List Cel)) : List Value := (List.range css.length).map fun i => .slice (ds.getD i It.zero).1 (css.getD i []).length (ds.getD i It.zero).2.1
theorem vals_at (ds : List It) (css : List (List Cel)) (i : Nat) (h : i < css.length) : (vals ds css)[i]? = some (.slice (ds.getD i It.zero).1 (css.getD i []).length (ds.getD i It.zero).2.1) := by simp [vals, h]
/-- A slice of slices of cells that a call owns, all of it in blocks from B on and below U. -/
structure OwnSS (w : World) (B U : Nat) (p : Option Addr) (n c : Nat) (css : List (List Cel)) (ds : List It) : Prop where
  len : n = css.length
  dlen : ds.length = css.length
  row : w.ownsRow B 24 1 (.slice p n c) n (vals ds css)
  item : ∀ i, i < css.length → OwnCU w (ds.getD i It.zero).2.2.1 (ds.getD i It.zero).2.2.2 (ds.getD i It.zero).1 (css.getD i []).length (ds.getD i It.zero).2.1 (css.getD i [])
  low : ∀ i, i < css.length → B ≤ (ds.getD i It.zero).2.2.1 ∧ (ds.getD i It.zero).2.2.2 ≤ U
  away : ∀ i, i < css.length → ∀ g, Value.ownBlock (.slice p n c) = some g → g < (ds.getD i It.zero).2.2.1 ∨ (ds.getD i It.zero).2.2.2 ≤ g
  apart : ∀ i j, i < j → j < css.length → (ds.getD i It.zero).2.2.2 ≤ (ds.getD j It.zero).2.2.1
  top : ∀ g, Value.ownBlock (.slice p n c) = some g → g < U
def OwnCC (w : World) (B U : Nat) (p : Option Addr) (n c : Nat) (css : List (List Cel)) : Prop := ∃ ds, OwnSS w B U p n c css ds
theorem OwnCC.nil (w : World) (B U : Nat) : OwnCC w B U none 0 0 [] := ⟨[], rfl, rfl, World.ownsRow_nil _ _ _ _, fun i h => by simp at h, fun i h => by simp at h, fun i h => by simp at h, fun i j _ h => by simp at h, fun g h => by cases h⟩
theorem OwnCC.ccin {w : World} {B U : Nat} {p : Option Addr} {n c : Nat} {css : List (List Cel)} (h : OwnCC w B U p n c css) : CCIn w p css := fun hn => by
  obtain ⟨ds, h⟩ := h
  have hl := h.len
  obtain ⟨g, cap, hv, hb, hg⟩ := h.row.form (by omega)
  simp only [Value.slice.injEq, true_and] at hv
  obtain ⟨rfl, rfl⟩ := hv
  refine ⟨g, 0, rfl, fun i hi => ⟨(ds.getD i It.zero).1, (ds.getD i It.zero).2.1, ?_, (h.item i hi).toC.cin⟩⟩
  rw [Nat.zero_add, h.row.cellAt i (by omega)]
  exact vals_at ds css i hi
theorem OwnSS.other {w w' : World} {B U : Nat} {p : Option Addr} {n c : Nat} {css : List (List Cel)} {ds : List It} (h : OwnSS w B U p n c css ds) (hs : w.heap.size ≤ w'.heap.size) (hb : ∀ k, k < w.heap.size → B ≤ k → k < U → w'.heap[k]? = w.heap[k]?) : OwnSS w' B U p n c css ds := by
  refine ⟨h.len, h.dlen, ⟨h.row.1, ?_⟩, fun i hi => (h.item i hi).other hs (fun k h1 h2 h3 => hb k h1 (by have := h.low i hi; omega) (by have := h.low i hi; omega)), h.low, h.away, h.apart, h.top⟩
  rcases h.row.2 with h' | ⟨g, cap, cur, hv, hB, hg, r⟩
  · exact .inl h'
  · refine .inr ⟨g, cap, cur, hv, hB, (hb g (Array.getElem?_eq_some_iff.1 hg).1 hB (h.top g ?_)).trans hg, r⟩
    simp only [Value.slice.injEq] at hv
    rw [hv.1]; rfl
theorem OwnCC.below {w w' : World} {B U : Nat} {p : Option Addr} {n c : Nat} {css : List (List Cel)} (h : OwnCC w B U p n c css) (hb : Below w.heap.size w w') : OwnCC w' B U p n c css := by
  obtain ⟨ds, h⟩ := h
  exact ⟨ds, h.other hb.size (fun k hk _ _ => hb.block k hk)⟩
theorem OwnCC.keep {w w' : World} {B U B' U' : Nat} {p : Option Addr} {n c : Nat} {css : List (List Cel)} (h : OwnCC w B U p n c css) (hk : Keep B' U' w w') (ho : U ≤ B' ∨ U' ≤ B) : OwnCC w' B U p n c css := by
  obtain ⟨ds, h⟩ := h
  exact ⟨ds, h.other hk.size (fun k h1 h2 h3 => hk.block k h1 (by omega))⟩
theorem OwnCC.up {w : World} {B U U' : Nat} {p : Option Addr} {n c : Nat} {css : List (List Cel)} (h : OwnCC w B U p n c css) (hU : U ≤ U') : OwnCC w B U' p n c css := by
  obtain ⟨ds, h⟩ := h
  exact ⟨ds, h.len, h.dlen, h.row, h.item, fun i hi => ⟨(h.low i hi).1, Nat.le_trans (h.low i hi).2 hU⟩, h.away, h.apart, fun g hg => Nat.lt_of_lt_of_le (h.top g hg) hU⟩
theorem OwnCC.down {w : World} {B B' U : Nat} {p : Option Addr} {n c : Nat} {css : List (List Cel)} (h : OwnCC w B U p n c css) (hB : B' ≤ B) : OwnCC w B' U p n c css := by
  obtain ⟨ds, h⟩ := h
  exact ⟨ds, h.len, h.dlen, ownsRow_down h.row hB, h.item, fun i hi => ⟨Nat.le_trans hB (h.low i hi).1, (h.low i hi).2⟩, h.away, h.apart, h.top⟩


theorem css_append_at (cs : List (List Cel)) (c : List Cel) (i : Nat) (h : i ≤ cs.length) : (cs ++ [c]).getD i [] = if i = cs.length then c else cs.getD i [] := by
  by_cases e : i = cs.length
  · subst e; simp [List.getD]
  · rw [if_neg e, List.getD, List.getD, List.getElem?_append_left (by omega)]
theorem vals_append (ds : List It) (css : List (List Cel)) (d : It) (c : List Cel) (h : ds.length = css.length) : vals (ds ++ [d]) (css ++ [c]) = vals ds css ++ [.slice d.1 c.length d.2.1] := by
  apply List.ext_getElem?
  intro i
  rcases Nat.lt_trichotomy i css.length with hi | hi | hi
  · rw [vals_at _ _ _ (by simp; omega), List.getElem?_append_left (by simpa [vals] using hi), vals_at _ _ _ hi, ds_append_at _ _ _ (by omega), css_append_at _ _ _ (by omega), if_neg (by omega), if_neg (by omega)]
  · subst hi
    rw [vals_at _ _ _ (by simp), List.getElem?_append_right (by simp [vals]), ds_append_at _ _ _ (by omega), css_append_at _ _ _ (by omega), if_pos h.symm, if_pos rfl]
    simp [vals]
  · rw [List.getElem?_eq_none (by simp [vals]; omega), List.getElem?_eq_none (by simp [vals]; omega)]

/-- append of an item onto items of the call's own. -/
theorem app_item (W0 w : World) {ops : Array Oper} {rest : List Oper} {o : Oper} {a : Act} {Q : Exit → Act → World → Prop} (hgd : o.guard = none) (s x : Operand)
    (ho : o.op = .call { callee := .builtin .append, args := #[s, x], argTypes := #[53, 53] }) (B : Nat) (p : Option Addr) (n c : Nat) (css : List (List Cel))
    (hs : a.eval s = .slice p n c) (hown : OwnCC W0 B W0.heap.size p n c css) (hb0 : Below W0.heap.size W0 w) (hB : B ≤ W0.heap.size) (q : Option Addr) (m cq : Nat) (cs : List Cel) (hit : OwnC w W0.heap.size q m cq cs)
    (hx : a.eval x = .slice (some ⟨w.heap.size, 0, none⟩) 1 1) (hlen : n + 1 ≤ 1000000)
    (h : ∀ g n' cap w', OwnCC w' B w'.heap.size (some ⟨g, 0, none⟩) n' cap (css ++ [cs]) → Below B (w.alloc (.cells #[.slice q m cq] 24)) w' → Hid (n' = n + 1) → wpList Tryd.prog ops Q rest (a.put o.dst (.slice (some ⟨g, 0, none⟩) n' cap)) w') : wpList Tryd.prog ops Q (o :: rest) a (w.alloc (.cells #[.slice q m cq] 24)) := by
  obtain ⟨i0, hi, hz0, hz1, hz2⟩ := info_parts infoCells
  obtain ⟨ds, hss⟩ := hown
  have hal : Below w.heap.size w (w.alloc (.cells #[.slice q m cq] 24)) := (Below.refl _ _).alloc (Nat.le_refl _) _
  have hb1 := Below.on hb0 hal
  refine wpList_append_lies _ hgd s x 53 ho B 24 i0 (.slice none 0 0) 1 24 Tryd.underlying53 hi hz0 hz1 hz2 rfl (by decide) (.slice p n c) n (vals ds css) hs (row_below hss.row hb1) ⟨w.heap.size, 0, none⟩ 1 1 [.slice q m cq] hx rfl (cell_one_new _ _ _) (fun u hu => by simp at hu; rw [hu]; rfl) (by decide) (by unfold maxLen; omega) (by omega) (Nat.le_trans hB hb1.size) _ rfl ?_
  intro g cap w' hown' hgrow hat hlt
  have hown : ∀ k, Value.ownBlock (.slice p n c) = some k → B ≤ k ∧ k < W0.heap.size := fun k hk => hss.row.lt k hk
  have hm := hit.1
  have hg2 : g < W0.heap.size ∨ w.heap.size ≤ g := by
    rcases hat with h' | h'
    · exact .inl (hown g h').2
    · right; rw [h']; simp
  have hws := hb0.size
  have keepS : ∀ k, k < w.heap.size → (∀ j, Value.ownBlock (.slice p n c) = some j → k ≠ j) → w'.heap[k]? = w.heap[k]? := fun k hk hne =>
    (hgrow.block k (by simp; omega) (fun e => hne k e.symm rfl)).trans (Below.heap_alloc _ _ _ hk)
  have hitU := hit.up
  refine h g _ cap w' ⟨ds ++ [(q, cq, W0.heap.size, w.heap.size)], ?_⟩ ((Below.refl _ _).grown hgrow (Nat.le_trans hB hb1.size) (fun k hk => (hown k hk).1)) rfl
  have hdl := hss.dlen
  have hln := hss.len
  refine ⟨by simp; omega, by simp; omega, by rw [vals_append _ _ _ _ hdl, ← hm]; exact hown', fun i hi => ?_, fun i hi => ?_, fun i hi k hk => ?_, fun i j hij hj => ?_, fun k hk => ?_⟩
  · have hi' : i ≤ css.length := by simp at hi; omega
    rw [ds_append_at _ _ _ (by omega), css_append_at _ _ _ hi']
    by_cases e : i = css.length
    · rw [if_pos (by omega), if_pos e, ← hm]
      exact hitU.other (by have := hgrow.size; simp at this; omega) (fun k h1 h2 h3 => keepS k h1 (fun j hj => by have := (hown j hj).2; omega))
    · rw [if_neg (by omega), if_neg e]
      refine ((hss.item i (by omega)).below hb0).other (by have := hgrow.size; simp at this; omega) (fun k h1 h2 h3 => keepS k h1 (fun j hj => ?_))
      have := hss.away i (by omega) j hj
      omega
  · have hi' : i ≤ css.length := by simp at hi; omega
    rw [ds_append_at _ _ _ (by omega)]
    have hwl : w.heap.size ≤ w'.heap.size := by have := hgrow.size; simp at this; omega
    by_cases e : i = css.length
    · rw [if_pos (by omega)]; exact ⟨hB, hwl⟩
    · rw [if_neg (by omega)]
      have := hss.low i (by omega)
      exact ⟨this.1, by omega⟩
  · have hi' : i ≤ css.length := by simp at hi; omega
    have hk' : k = g := (Option.some.inj hk).symm
    subst hk'
    rw [ds_append_at _ _ _ (by omega)]
    by_cases e : i = css.length
    · rw [if_pos (by omega)]; exact hg2
    · rw [if_neg (by omega)]
      rcases hat with h' | h'
      · exact hss.away i (by omega) _ h'
      · right
        have := (hss.low i (by omega)).2
        have hsz : (w.alloc (.cells #[.slice q m cq] 24)).heap.size = w.heap.size + 1 := by simp
        rw [h', hsz]; omega
  · have hj' : j ≤ css.length := by simp at hj; omega
    rw [ds_append_at _ _ _ (by omega), ds_append_at _ _ _ (by omega), if_neg (by omega)]
    by_cases e : j = css.length
    · rw [if_pos (by omega)]
      exact (hss.low i (by omega)).2
    · rw [if_neg (by omega)]
      exact hss.apart i j hij (by omega)
  · have hk' : k = g := (Option.some.inj hk).symm
    omega

end Go.Proofs.YtemohfhblpejmaaDoor

