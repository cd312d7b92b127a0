/- Texts of ItP, L1c, NbI1, NbFO, IsG, SpK, WiC, TreeI. Own work of the verifier. -/
import Derived.Deep.Upon
import Derived.Test.YtickbkcpcgmlmaaGreatDoorUqad
import Derived.Test.YtickbkcpcgmlmaaGreatDoorUqae
import Derived.Lib.AppendStr
import Derived.Test.YtickbkcpcgmlmaaGreatDoorUqac
namespace Go.Proofs.YtickbkcpcgmlmaaGreatDoor
set_option maxRecDepth 100000
open Go Go.RowKit
set_option linter.unusedVariables false
def itsF : List (Cel × Fo) → Fo
 | [] => .nil
 | x :: r => .node x.1 x.2 (itsF r)
theorem itsF_snoc : ∀ (a : List (Cel × Fo)) (x : Cel × Fo), itsF (a ++ [x]) = (itsF a).cat (.node x.1 x.2 .nil)
 | [], x => rfl
 | y :: r, x => by simp only [List.cons_append, itsF, Fo.cat, itsF_snoc r x]
theorem two_of {k : Fo} (h : k.count = 2) : ∃ c1 k1 c2 k2, k = .node c1 k1 (.node c2 k2 .nil) := by
 cases k with
 | nil => simp [Fo.count] at h
 | node c1 k1 r =>
   cases r with
   | nil => simp [Fo.count] at h
   | node c2 k2 r =>
     cases r with
     | nil => exact ⟨c1, k1, c2, k2, rfl⟩
     | node a b d => simp [Fo.count] at h
theorem itsF_ok_at : ∀ (its : List (Cel × Fo)), (itsF its).ok → ∀ i (h : i < its.length), (Fo.node its[i].1 its[i].2 .nil).ok
 | [], _, i, h => by simp at h
 | a :: r, ⟨h1, h2, h3, h4, h5, h6⟩, 0, _ => ⟨h1, h2, h3, h4, h5, trivial⟩
 | a :: r, ⟨h1, h2, h3, h4, h5, h6⟩, i + 1, h => by simpa using itsF_ok_at r h6 i (by simpa using h)
theorem itsF_count : ∀ its : List (Cel × Fo), (itsF its).count = its.length
 | [] => rfl
 | a :: r => by simp [itsF, Fo.count, itsF_count r]
def itC (x : Cel × Fo) : List Cel := x.1 :: x.2.cells
def lenOf : Value → Nat
 | .slice _ n _ => n
 | _ => 0
theorem news_of {w : World} {b o : Nat} {xs : List Int} (hc : ∀ i, i < xs.length → w.cell? ⟨b, o + i, none⟩ = some (.int .u8 (xs.getD i 0))) : ∀ j u, (xs.map (Value.int .u8))[j]? = some u → w.cell? ((⟨b, o, none⟩ : Addr).add j) = some u := fun j u hu => by
 have hj : j < xs.length := by
  rcases Nat.lt_or_ge j xs.length with h | h
  ·exact h
  ·simp [List.getElem?_eq_none h] at hu
 have e : (⟨b, o, none⟩ : Addr).add j = ⟨b, o + j, none⟩ := by unfold Addr.add; split <;> simp_all
 rw [e, hc j hj, ← hu]
 simp [List.getD, hj]
theorem app_nothing (w : World) {ops : Array Oper} {rest : List Oper} {o : Oper} {a : Act} {Q : Exit → Act → World → Prop} (hgd : o.guard = none) (s x : Operand)
  (ho : o.op = .call { callee := .builtin .append, args := #[s, x], argTypes := #[35, 35] }) (p : Option Addr) (n c : Nat) (hnc : n ≤ c) (hs : a.eval s = .slice p n c) (q : Option Addr) (c' : Nat) (hx : a.eval x = .slice q 0 c')
  (h : wpList Tryz.prog ops Q rest (a.put o.dst (.slice p n c)) w) : wpList Tryz.prog ops Q (o :: rest) a w := by
 obtain ⟨i0, hi, hz0, hz1, hz2⟩ := info_parts infoByte
 refine wpList_plain hgd fun K hK => ?_
 have hsrc : Src Tryz.prog i0.size 35 (.slice q 0 c') 0 [] w := by
  cases q with
  | none => exact Src.ofNil w Tryz.underlying35 c'
  | some ad => exact Src.ofSlice w Tryz.underlying35 ad 0 c' [] (by simp) (fun j u h => by simp at h) (fun u h => by cases h)
 have hr := fun ty => run_append_nothing (P := Tryz.prog) w 35 35 ty 5 i0 Tryz.underlying35 hi p n c hnc _ hsrc
 unfold Oper.wp
 simp [execOp, ho, resolve, invoke, builtin, hs, hx, hr, Result.andThen]
 exact hK _ _ h
theorem l1copy_all (p : Option Addr) (n c : Nat) (xs : List Int) (w : World) (hn : n = xs.length) (hm : n ≤ 10000000) (hc : BIn w p xs) :
  Calls Tryz.prog 51 #[.slice p n c] w fun e w' => ∃ p' n' c', e = .returned (.slice p' n' c') ∧ OwnS w' w.heap.size p' n' c' xs ∧ Below w.heap.size w w' := by
 by_cases h0 : 0 < n
 ·obtain ⟨b, o, rfl, hcc⟩ := hc (by omega)
  have HC : Hid (∀ i, i < xs.length → w.cell? ⟨b, o + i, none⟩ = some (.int .u8 (xs.getD i 0))) := hcc; have HN : Hid (n = xs.length) := hn; clear hc hn hcc
  go_enter Tryz.func51, Tryz.ntmps51
  go_wp2_with (at_builtin; refine app_bytes _ rfl _ _ rfl w.heap.size none 0 0 [] xs n HN.out rfl (OwnS.nil _ _) _ c rfl (news_of HC.out) h0 (by omega) (Nat.le_refl _) ?_; intro g n' cap w1 hown1 hb1 hn1); go_ret; exact ⟨_, _, _, rfl, hown1, hb1⟩
 ·obtain rfl : n = 0 := by omega
  obtain rfl : xs = [] := List.length_eq_zero_iff.1 hn.symm; clear hc hn
  go_enter Tryz.func51, Tryz.ntmps51
  go_wp2_with (at_builtin; refine app_nothing _ rfl _ _ rfl none 0 0 (Nat.le_refl _) rfl p c rfl ?_); go_ret; exact ⟨_, _, _, rfl, OwnS.nil _ _, Below.refl _ _⟩
theorem nbA_var_var (w : World) (x : Value) : (Instr.typeAssert (.iface 94 x) 56 94 true).run Tryz.prog w = .ok (.tuple #[x, .bool true]) w := by kernel_rfl
theorem nbA_var_num (w : World) (x : Value) : (Instr.typeAssert (.iface 94 x) 56 149 true).run Tryz.prog w = .ok (.tuple #[.int .i64 0, .bool false]) w := by kernel_rfl
theorem nbA_var_atom (w : World) (x : Value) : (Instr.typeAssert (.iface 94 x) 56 143 true).run Tryz.prog w = .ok (.tuple #[.string ⟨#[]⟩, .bool false]) w := by kernel_rfl
theorem nbA_var_comp (w : World) (x : Value) : (Instr.typeAssert (.iface 94 x) 56 156 true).run Tryz.prog w = .ok (.tuple #[.pointer none, .bool false]) w := by kernel_rfl
theorem nbA_num_var (w : World) (x : Value) : (Instr.typeAssert (.iface 149 x) 56 94 true).run Tryz.prog w = .ok (.tuple #[.int .i64 0, .bool false]) w := by kernel_rfl
theorem nbA_num_num (w : World) (x : Value) : (Instr.typeAssert (.iface 149 x) 56 149 true).run Tryz.prog w = .ok (.tuple #[x, .bool true]) w := by kernel_rfl
theorem nbA_num_atom (w : World) (x : Value) : (Instr.typeAssert (.iface 149 x) 56 143 true).run Tryz.prog w = .ok (.tuple #[.string ⟨#[]⟩, .bool false]) w := by kernel_rfl
theorem nbA_num_comp (w : World) (x : Value) : (Instr.typeAssert (.iface 149 x) 56 156 true).run Tryz.prog w = .ok (.tuple #[.pointer none, .bool false]) w := by kernel_rfl
theorem nbA_atom_var (w : World) (x : Value) : (Instr.typeAssert (.iface 143 x) 56 94 true).run Tryz.prog w = .ok (.tuple #[.int .i64 0, .bool false]) w := by kernel_rfl
theorem nbA_atom_num (w : World) (x : Value) : (Instr.typeAssert (.iface 143 x) 56 149 true).run Tryz.prog w = .ok (.tuple #[.int .i64 0, .bool false]) w := by kernel_rfl
theorem nbA_atom_atom (w : World) (x : Value) : (Instr.typeAssert (.iface 143 x) 56 143 true).run Tryz.prog w = .ok (.tuple #[x, .bool true]) w := by kernel_rfl
theorem nbA_atom_comp (w : World) (x : Value) : (Instr.typeAssert (.iface 143 x) 56 156 true).run Tryz.prog w = .ok (.tuple #[.pointer none, .bool false]) w := by kernel_rfl
theorem nbA_comp_var (w : World) (x : Value) : (Instr.typeAssert (.iface 156 x) 56 94 true).run Tryz.prog w = .ok (.tuple #[.int .i64 0, .bool false]) w := by kernel_rfl
theorem nbA_comp_num (w : World) (x : Value) : (Instr.typeAssert (.iface 156 x) 56 149 true).run Tryz.prog w = .ok (.tuple #[.int .i64 0, .bool false]) w := by kernel_rfl
theorem nbA_comp_atom (w : World) (x : Value) : (Instr.typeAssert (.iface 156 x) 56 143 true).run Tryz.prog w = .ok (.tuple #[.string ⟨#[]⟩, .bool false]) w := by kernel_rfl
theorem nbA_comp_comp (w : World) (x : Value) : (Instr.typeAssert (.iface 156 x) 56 156 true).run Tryz.prog w = .ok (.tuple #[x, .bool true]) w := by kernel_rfl
theorem nbKind_var (x : Value) (w : World) : Calls Tryz.prog 190 #[.iface 94 x] w fun e w' => e = .returned (.int .i64 0) ∧ w' = w := by
 have n_var := nbA_var_var; have n_num := nbA_var_num; have n_atom := nbA_var_atom
 go_enter Tryz.func190, Tryz.ntmps190
 go_wp2_with fail; go_ret; exact ⟨rfl, rfl⟩
theorem nbIsVar_var (x : Value) (w : World) : Calls Tryz.prog 148 #[.iface 94 x] w fun e w' => e = .returned (.bool true) ∧ w' = w := by
 have hk := nbKind_var x w
 go_enter Tryz.func148, Tryz.ntmps148
 go_wp2_with (go_at_call 190; refine hk.mono ?_; rintro e w' ⟨rfl, rfl⟩); go_ret; exact ⟨rfl, rfl⟩
theorem nbKind_num (x : Value) (w : World) : Calls Tryz.prog 190 #[.iface 149 x] w fun e w' => e = .returned (.int .i64 1) ∧ w' = w := by
 have n_var := nbA_num_var; have n_num := nbA_num_num; have n_atom := nbA_num_atom
 go_enter Tryz.func190, Tryz.ntmps190
 go_wp2_with fail; go_ret; exact ⟨rfl, rfl⟩
theorem nbIsVar_num (x : Value) (w : World) : Calls Tryz.prog 148 #[.iface 149 x] w fun e w' => e = .returned (.bool false) ∧ w' = w := by
 have hk := nbKind_num x w
 go_enter Tryz.func148, Tryz.ntmps148
 go_wp2_with (go_at_call 190; refine hk.mono ?_; rintro e w' ⟨rfl, rfl⟩); go_ret; exact ⟨rfl, rfl⟩
theorem nbKind_atom (x : Value) (w : World) : Calls Tryz.prog 190 #[.iface 143 x] w fun e w' => e = .returned (.int .i64 2) ∧ w' = w := by
 have n_var := nbA_atom_var; have n_num := nbA_atom_num; have n_atom := nbA_atom_atom
 go_enter Tryz.func190, Tryz.ntmps190
 go_wp2_with fail; go_ret; exact ⟨rfl, rfl⟩
theorem nbIsVar_atom (x : Value) (w : World) : Calls Tryz.prog 148 #[.iface 143 x] w fun e w' => e = .returned (.bool false) ∧ w' = w := by
 have hk := nbKind_atom x w
 go_enter Tryz.func148, Tryz.ntmps148
 go_wp2_with (go_at_call 190; refine hk.mono ?_; rintro e w' ⟨rfl, rfl⟩); go_ret; exact ⟨rfl, rfl⟩
theorem nbKind_comp (x : Value) (w : World) : Calls Tryz.prog 190 #[.iface 156 x] w fun e w' => e = .returned (.int .i64 3) ∧ w' = w := by
 have n_var := nbA_comp_var; have n_num := nbA_comp_num; have n_atom := nbA_comp_atom
 go_enter Tryz.func190, Tryz.ntmps190
 go_wp2_with fail; go_ret; exact ⟨rfl, rfl⟩
theorem nbIsVar_comp (x : Value) (w : World) : Calls Tryz.prog 148 #[.iface 156 x] w fun e w' => e = .returned (.bool false) ∧ w' = w := by
 have hk := nbKind_comp x w
 go_enter Tryz.func148, Tryz.ntmps148
 go_wp2_with (go_at_call 190; refine hk.mono ?_; rintro e w' ⟨rfl, rfl⟩); go_ret; exact ⟨rfl, rfl⟩
theorem nbFunAtom (s : ByteArray) (w : World) : Calls Tryz.prog 163 #[.string s] w fun e w' => e = .returned (.agg #[.string s, .int .i64 0]) ∧ Below w.heap.size w w' := by
 go_enter Tryz.func163, Tryz.ntmps163
 go_wp2_with fail; exact bodyPost_ret (v := .agg #[.string s, .int .i64 0]) (by simp [results, Tryz.results163, go_sem]) rfl ⟨rfl, (Below.refl _ _).alloc (Nat.le_refl _) _⟩
theorem nbFO_atom (s : ByteArray) (w : World) : Calls Tryz.prog 98 #[.iface 143 (.string s)] w fun e w' => e = .returned (.tuple #[.agg #[.string s, .int .i64 0], .bool true]) ∧ Below w.heap.size w w' := by
 have n1 := nbA_atom_atom
 have HC : Hid (∀ W, Calls Tryz.prog 163 #[.string s] W fun e w' => e = .returned (.agg #[.string s, .int .i64 0]) ∧ Below W.heap.size W w') := fun W => nbFunAtom s W
 go_enter Tryz.func98, Tryz.ntmps98
 go_wp2_with fail; refine (HC.out _).mono ?_; rintro e w1 ⟨rfl, hb⟩; have k := hb.block w.heap.size (by simp); rw [heap_alloc_new] at k; obtain ⟨c0, c1, f0, f1⟩ := two_cells k; have HB : Hid (Below w.heap.size w w1) := ((Below.refl _ _).alloc (Nat.le_refl _) _).trans (hb.mono (by simp)); clear hb k HC; go_wp2_with fail; exact bodyPost_ret (v := .tuple #[.agg #[.string s, .int .i64 0], .bool true]) (by simp [results, Tryz.results98, go_sem, c0, c1]) rfl ⟨rfl, (HB.out.setCell (Nat.le_refl _) _).setCell (Nat.le_refl _) _⟩
theorem nbFO_comp (b g q : Nat) (s : ByteArray) (w : World) (h0 : w.cell? ⟨b, 0, none⟩ = some (.string s)) (h1 : w.cell? ⟨b, 1, none⟩ = some (.slice (some ⟨g, 0, none⟩) q q)) : Calls Tryz.prog 98 #[.iface 156 (.pointer (some ⟨b, 0, none⟩))] w fun e w' => e = .returned (.tuple #[.agg #[.string s, .int .i64 q], .bool true]) ∧ Below w.heap.size w w' := by
 have n1 := nbA_comp_atom; have n2 := nbA_comp_comp
 have HC : Hid (∀ W, Below w.heap.size w W → Calls Tryz.prog 164 #[.pointer (some ⟨b, 0, none⟩)] W fun e w' => e = .returned (.agg #[.string s, .int .i64 q]) ∧ Below W.heap.size W w') := fun W hW => functor_any b g q s W ((hW.cell (World.block_lt_of_cell? _ _ h0)).trans h0) ((hW.cell (World.block_lt_of_cell? _ _ h1)).trans h1)
 clear h0 h1
 go_enter Tryz.func98, Tryz.ntmps98
 go_wp2_with fail; refine (HC.out _ ((Below.refl _ _).alloc (Nat.le_refl _) _)).mono ?_; rintro e w1 ⟨rfl, hb⟩; have k := hb.block w.heap.size (by simp); rw [heap_alloc_new] at k; obtain ⟨c0, c1, f0, f1⟩ := two_cells k; have HB : Hid (Below w.heap.size w w1) := ((Below.refl _ _).alloc (Nat.le_refl _) _).trans (hb.mono (by simp)); clear hb k HC; go_wp2_with fail; exact bodyPost_ret (v := .tuple #[.agg #[.string s, .int .i64 q], .bool true]) (by simp [results, Tryz.results98, go_sem, c0, c1]) rfl ⟨rfl, (HB.out.setCell (Nat.le_refl _) _).setCell (Nat.le_refl _) _⟩
theorem nbFO_var (x : Value) (w : World) : Calls Tryz.prog 98 #[.iface 94 x] w fun e w' => e = .returned (.tuple #[.agg #[.string ⟨#[]⟩, .int .i64 0], .bool false]) ∧ Below w.heap.size w w' := by
 have n1 := nbA_var_atom; have n2 := nbA_var_comp
 go_enter Tryz.func98, Tryz.ntmps98
 go_wp2_with fail; exact bodyPost_ret (v := .tuple #[.agg #[.string ⟨#[]⟩, .int .i64 0], .bool false]) (by simp [results, Tryz.results98, go_sem]) rfl ⟨rfl, (Below.refl _ _).alloc (Nat.le_refl _) _⟩
theorem nbFO_num (x : Value) (w : World) : Calls Tryz.prog 98 #[.iface 149 x] w fun e w' => e = .returned (.tuple #[.agg #[.string ⟨#[]⟩, .int .i64 0], .bool false]) ∧ Below w.heap.size w w' := by
 have n1 := nbA_num_atom; have n2 := nbA_num_comp
 go_enter Tryz.func98, Tryz.ntmps98
 go_wp2_with fail; exact bodyPost_ret (v := .tuple #[.agg #[.string ⟨#[]⟩, .int .i64 0], .bool false]) (by simp [results, Tryz.results98, go_sem]) rfl ⟨rfl, (Below.refl _ _).alloc (Nat.le_refl _) _⟩
def isB (s nm : ByteArray) (k n ar : Int) : Bool := (s.toList == nm.toList) && (if ar == 0 then k == 2 else (k == 3 && n == ar))
theorem l2isG_any (s nm : ByteArray) (k n ar : Int) (b o : Nat) (q : Option Addr) (m qc len cap : Nat) (w : World) (hlen : 0 < len)
  (d0 : w.cell? ⟨b, o, none⟩ = some (.int .i64 k)) (d1 : w.cell? ⟨b, o + 1, none⟩ = some (.int .i64 n)) (d2 : w.cell? ⟨b, o + 2, none⟩ = some (.slice q m qc))
  (hcv : (convert 35 9 (.slice q m qc)).run Tryz.prog w = .ok (.string s) w) :
  Calls Tryz.prog 37 #[.slice (some ⟨b, o, none⟩) len cap, .string nm, .int .i64 ar] w fun e w' => e = .returned (.bool (isB s nm k n ar)) ∧ w' = w := by
 have hlt : (0 : Int) < len := by omega
 have HF : Hid (∀ b, b = isB s nm k n ar → Ending.returned (.bool b) = .returned (.bool (isB s nm k n ar))) := fun b h => ret_bool h
 have HR : Hid (isB s nm k n ar = ((s.toList == nm.toList) && (if ar == 0 then k == 2 else (k == 3 && n == ar)))) := rfl; clear hlen
 cases h1 : (s.toList == nm.toList)
 ·rw [h1] at HR
  go_enter Tryz.func37, Tryz.ntmps37
  go_wp2_with fail; go_ret; exact ⟨HF.out _ (by rw [HR.out]; rfl), rfl⟩
 ·rw [h1] at HR
  cases h2 : (ar == 0)
  ·rw [h2] at HR
   have h2' : ¬ ar = 0 := by simpa using h2
   cases h3 : (k == 3)
   ·rw [h3] at HR
    go_enter Tryz.func37, Tryz.ntmps37
    go_wp2_with fail; go_ret; exact ⟨HF.out _ (by rw [HR.out]; rfl), rfl⟩
   ·rw [h3] at HR
    cases h4 : (n == ar)
    ·rw [h4] at HR
     have h4' : ¬ n = ar := by simpa using h4
     go_enter Tryz.func37, Tryz.ntmps37
     go_wp2_with fail; go_ret; exact ⟨HF.out _ (by rw [HR.out]; rfl), rfl⟩
    ·rw [h4] at HR
     go_enter Tryz.func37, Tryz.ntmps37
     go_wp2_with fail; go_ret; exact ⟨HF.out _ (by rw [HR.out]; rfl), rfl⟩
  ·rw [h2] at HR
   cases h3 : (k == 2)
   ·rw [h3] at HR
    go_enter Tryz.func37, Tryz.ntmps37
    go_wp2_with fail; go_ret; exact ⟨HF.out _ (by rw [HR.out]; rfl), rfl⟩
   ·rw [h3] at HR
    go_enter Tryz.func37, Tryz.ntmps37
    go_wp2_with fail; go_ret; exact ⟨HF.out _ (by rw [HR.out]; rfl), rfl⟩
def con7 (s : ByteArray) (k n : Int) : Bool := isB s ⟨#[44]⟩ k n 2 || isB s ⟨#[59]⟩ k n 2 || isB s ⟨#[45, 62]⟩ k n 2 || isB s ⟨#[92, 43]⟩ k n 1 || isB s ⟨#[111, 110, 99, 101]⟩ k n 1 || isB s ⟨#[102, 111, 114, 97, 108, 108]⟩ k n 2 || isB s ⟨#[33]⟩ k n 0
set_option maxHeartbeats 400000 in
theorem l8construct_any (s : ByteArray) (k n : Int) (b o : Nat) (q : Option Addr) (m qc len cap : Nat) (w : World) (hlen : 0 < len)
  (d0 : w.cell? ⟨b, o, none⟩ = some (.int .i64 k)) (d1 : w.cell? ⟨b, o + 1, none⟩ = some (.int .i64 n)) (d2 : w.cell? ⟨b, o + 2, none⟩ = some (.slice q m qc))
  (hcv : (convert 35 9 (.slice q m qc)).run Tryz.prog w = .ok (.string s) w) :
  Calls Tryz.prog 120 #[.slice (some ⟨b, o, none⟩) len cap] w fun e w' => e = .returned (.bool (con7 s k n)) ∧ w' = w := by
 have HL := fun nm ar => l2isG_any s nm k n ar b o q m qc len cap w hlen d0 d1 d2 hcv
 have HF : Hid (∀ b, b = con7 s k n → Ending.returned (.bool b) = .returned (.bool (con7 s k n))) := fun b h => ret_bool h
 have HR : Hid (con7 s k n = (isB s ⟨#[44]⟩ k n 2 || isB s ⟨#[59]⟩ k n 2 || isB s ⟨#[45, 62]⟩ k n 2 || isB s ⟨#[92, 43]⟩ k n 1 || isB s ⟨#[111, 110, 99, 101]⟩ k n 1 || isB s ⟨#[102, 111, 114, 97, 108, 108]⟩ k n 2 || isB s ⟨#[33]⟩ k n 0)) := rfl; have H0 := HL ⟨#[44]⟩ 2; have H1 := HL ⟨#[59]⟩ 2; have H2 := HL ⟨#[45, 62]⟩ 2; have H3 := HL ⟨#[92, 43]⟩ 1; have H4 := HL ⟨#[111, 110, 99, 101]⟩ 1; have H5 := HL ⟨#[102, 111, 114, 97, 108, 108]⟩ 2; have H6 := HL ⟨#[33]⟩ 0; clear HL d0 d1 d2 hcv hlen
 cases h0 : isB s ⟨#[44]⟩ k n 2
 rotate_left
 ·rw [h0] at HR
  rw [h0] at H0
  go_enter Tryz.func120, Tryz.ntmps120
  go_wp2_with fail; refine H0.mono ?_; rintro e w0 ⟨rfl, rfl⟩; go_wp2_with fail; go_ret; exact ⟨HF.out _ (by rw [HR.out]; rfl), rfl⟩
 cases h1 : isB s ⟨#[59]⟩ k n 2
 rotate_left
 ·rw [h0, h1] at HR
  rw [h0] at H0; rw [h1] at H1
  go_enter Tryz.func120, Tryz.ntmps120
  go_wp2_with fail; refine H0.mono ?_; rintro e w0 ⟨rfl, rfl⟩; go_wp2_with fail; refine H1.mono ?_; rintro e w1 ⟨rfl, rfl⟩; go_wp2_with fail; go_ret; exact ⟨HF.out _ (by rw [HR.out]; rfl), rfl⟩
 cases h2 : isB s ⟨#[45, 62]⟩ k n 2
 rotate_left
 ·rw [h0, h1, h2] at HR
  rw [h0] at H0; rw [h1] at H1; rw [h2] at H2
  go_enter Tryz.func120, Tryz.ntmps120
  go_wp2_with fail; refine H0.mono ?_; rintro e w0 ⟨rfl, rfl⟩; go_wp2_with fail; refine H1.mono ?_; rintro e w1 ⟨rfl, rfl⟩; go_wp2_with fail; refine H2.mono ?_; rintro e w2 ⟨rfl, rfl⟩; go_wp2_with fail; go_ret; exact ⟨HF.out _ (by rw [HR.out]; rfl), rfl⟩
 cases h3 : isB s ⟨#[92, 43]⟩ k n 1
 rotate_left
 ·rw [h0, h1, h2, h3] at HR
  rw [h0] at H0; rw [h1] at H1; rw [h2] at H2; rw [h3] at H3
  go_enter Tryz.func120, Tryz.ntmps120
  go_wp2_with fail; refine H0.mono ?_; rintro e w0 ⟨rfl, rfl⟩; go_wp2_with fail; refine H1.mono ?_; rintro e w1 ⟨rfl, rfl⟩; go_wp2_with fail; refine H2.mono ?_; rintro e w2 ⟨rfl, rfl⟩; go_wp2_with fail; refine H3.mono ?_; rintro e w3 ⟨rfl, rfl⟩; go_wp2_with fail; go_ret; exact ⟨HF.out _ (by rw [HR.out]; rfl), rfl⟩
 cases h4 : isB s ⟨#[111, 110, 99, 101]⟩ k n 1
 rotate_left
 ·rw [h0, h1, h2, h3, h4] at HR
  rw [h0] at H0; rw [h1] at H1; rw [h2] at H2; rw [h3] at H3; rw [h4] at H4
  go_enter Tryz.func120, Tryz.ntmps120
  go_wp2_with fail; refine H0.mono ?_; rintro e w0 ⟨rfl, rfl⟩; go_wp2_with fail; refine H1.mono ?_; rintro e w1 ⟨rfl, rfl⟩; go_wp2_with fail; refine H2.mono ?_; rintro e w2 ⟨rfl, rfl⟩; go_wp2_with fail; refine H3.mono ?_; rintro e w3 ⟨rfl, rfl⟩; go_wp2_with fail; refine H4.mono ?_; rintro e w4 ⟨rfl, rfl⟩; go_wp2_with fail; go_ret; exact ⟨HF.out _ (by rw [HR.out]; rfl), rfl⟩
 cases h5 : isB s ⟨#[102, 111, 114, 97, 108, 108]⟩ k n 2
 rotate_left
 ·rw [h0, h1, h2, h3, h4, h5] at HR
  rw [h0] at H0; rw [h1] at H1; rw [h2] at H2; rw [h3] at H3; rw [h4] at H4; rw [h5] at H5
  go_enter Tryz.func120, Tryz.ntmps120
  go_wp2_with fail; refine H0.mono ?_; rintro e w0 ⟨rfl, rfl⟩; go_wp2_with fail; refine H1.mono ?_; rintro e w1 ⟨rfl, rfl⟩; go_wp2_with fail; refine H2.mono ?_; rintro e w2 ⟨rfl, rfl⟩; go_wp2_with fail; refine H3.mono ?_; rintro e w3 ⟨rfl, rfl⟩; go_wp2_with fail; refine H4.mono ?_; rintro e w4 ⟨rfl, rfl⟩; go_wp2_with fail; refine H5.mono ?_; rintro e w5 ⟨rfl, rfl⟩; go_wp2_with fail; go_ret; exact ⟨HF.out _ (by rw [HR.out]; rfl), rfl⟩
 cases h6 : isB s ⟨#[33]⟩ k n 0
 rotate_left
 ·rw [h0, h1, h2, h3, h4, h5, h6] at HR
  rw [h0] at H0; rw [h1] at H1; rw [h2] at H2; rw [h3] at H3; rw [h4] at H4; rw [h5] at H5; rw [h6] at H6
  go_enter Tryz.func120, Tryz.ntmps120
  go_wp2_with fail; refine H0.mono ?_; rintro e w0 ⟨rfl, rfl⟩; go_wp2_with fail; refine H1.mono ?_; rintro e w1 ⟨rfl, rfl⟩; go_wp2_with fail; refine H2.mono ?_; rintro e w2 ⟨rfl, rfl⟩; go_wp2_with fail; refine H3.mono ?_; rintro e w3 ⟨rfl, rfl⟩; go_wp2_with fail; refine H4.mono ?_; rintro e w4 ⟨rfl, rfl⟩; go_wp2_with fail; refine H5.mono ?_; rintro e w5 ⟨rfl, rfl⟩; go_wp2_with fail; refine H6.mono ?_; rintro e w6 ⟨rfl, rfl⟩; go_wp2_with fail; go_ret; exact ⟨HF.out _ (by rw [HR.out]; rfl), rfl⟩
 rw [h0, h1, h2, h3, h4, h5, h6] at HR; rw [h0] at H0; rw [h1] at H1; rw [h2] at H2; rw [h3] at H3; rw [h4] at H4; rw [h5] at H5; rw [h6] at H6
 go_enter Tryz.func120, Tryz.ntmps120
 go_wp2_with fail; refine H0.mono ?_; rintro e w0 ⟨rfl, rfl⟩; go_wp2_with fail; refine H1.mono ?_; rintro e w1 ⟨rfl, rfl⟩; go_wp2_with fail; refine H2.mono ?_; rintro e w2 ⟨rfl, rfl⟩; go_wp2_with fail; refine H3.mono ?_; rintro e w3 ⟨rfl, rfl⟩; go_wp2_with fail; refine H4.mono ?_; rintro e w4 ⟨rfl, rfl⟩; go_wp2_with fail; refine H5.mono ?_; rintro e w5 ⟨rfl, rfl⟩; go_wp2_with fail; refine H6.mono ?_; rintro e w6 ⟨rfl, rfl⟩; go_wp2_with fail; go_ret; exact ⟨HF.out _ (by rw [HR.out]; rfl), rfl⟩
def TI (w : World) (q : Option Addr) (n c : Nat) (t : Tr) : Prop := n = t.2.cells.length + 1 ∧ n ≤ c ∧ c ≤ 9223372036854775807 ∧ CIn w q (t.1 :: t.2.cells)
theorem TI.below {w w' : World} {q : Option Addr} {n c : Nat} {t : Tr} (h : TI w q n c t) (hb : Below w.heap.size w w') : TI w' q n c t := ⟨h.1, h.2.1, h.2.2.1, h.2.2.2.below hb⟩
theorem TI.head {w : World} {q : Option Addr} {n c : Nat} {t : Tr} (h : TI w q n c t) : ∃ b o q1 qc, q = some ⟨b, o, none⟩ ∧ w.cell? ⟨b, o, none⟩ = some (.int .i64 t.1.1) ∧ w.cell? ⟨b, o + 1, none⟩ = some (.int .i64 t.1.2.1) ∧ w.cell? ⟨b, o + 2, none⟩ = some (.slice q1 t.1.2.2.length qc) ∧ BIn w q1 t.1.2.2 := by
 obtain ⟨b, o, rfl, hc⟩ := h.2.2.2 (by simp); obtain ⟨q1, qc, d0, d1, d2, d3⟩ := hc 0 (by simp); simp only [Nat.zero_mul, Nat.add_zero, List.getD_cons_zero] at d0 d1 d2 d3; exact ⟨b, o, q1, qc, rfl, d0, d1, d2, d3⟩
theorem isT_any {w : World} {q : Option Addr} {n c : Nat} {t : Tr} (h : TI w q n c t) (nm : ByteArray) (ar : Int) :
  Calls Tryz.prog 37 #[.slice q n c, .string nm, .int .i64 ar] w fun e w' => e = .returned (.bool (isB (strOfNums t.1.2.2) nm t.1.1 t.1.2.1 ar)) ∧ w' = w := by
 obtain ⟨b, o, q1, qc, rfl, d0, d1, d2, d3⟩ := h.head; exact l2isG_any (strOfNums t.1.2.2) nm t.1.1 t.1.2.1 ar b o q1 _ qc n c w (by have := h.1; omega) d0 d1 d2 (conv_str d3 _ qc rfl 9 Tryz.underlying9)
theorem isB_pos {c : Cel} (hb : Byte c.2.2) (l : List UInt8) (a : Int) (ha : 0 < a) : isB (strOfNums c.2.2) ⟨l.toArray⟩ c.1 c.2.1 a = decide (c = (3, a, l.map fun u => (u.toNat : Int))) := by
 unfold isB
 have e1 : (ByteArray.mk l.toArray).toList = l := by rw [ByteArray.toList_eq]
 have e2 : (a == 0) = false := by rw [beq_eq_false_iff_ne]; omega
 rw [e1, e2, Bool.eq_iff_iff]; simp only [Bool.false_eq_true, if_false, Bool.and_eq_true, beq_iff_eq, decide_eq_true_eq]
 constructor
 ·rintro ⟨h1, h2, h3⟩
  exact Prod.ext h2 (Prod.ext h3 ((str_eq hb l).1 h1))
 ·intro h
  refine ⟨(str_eq hb l).2 (by rw [h]), by rw [h], by rw [h]⟩
theorem isB_zero {c : Cel} (hb : Byte c.2.2) (hc : cellB c.1 c.2.1 c.2.2.length = true) (l : List UInt8) : isB (strOfNums c.2.2) ⟨l.toArray⟩ c.1 c.2.1 0 = decide (c = (2, 0, l.map fun u => (u.toNat : Int))) := by
 simp only [cellB, decide_eq_true_eq] at hc
 unfold isB
 have e1 : (ByteArray.mk l.toArray).toList = l := by rw [ByteArray.toList_eq]
 rw [e1, Bool.eq_iff_iff]; simp only [beq_self_eq_true, if_true, Bool.and_eq_true, beq_iff_eq, decide_eq_true_eq]
 constructor
 ·rintro ⟨h1, h2⟩
  exact Prod.ext h2 (Prod.ext (by show c.2.1 = 0; omega) ((str_eq hb l).1 h1))
 ·intro h
  exact ⟨(str_eq hb l).2 (by rw [h]), by rw [h]⟩
end Go.Proofs.YtickbkcpcgmlmaaGreatDoor
