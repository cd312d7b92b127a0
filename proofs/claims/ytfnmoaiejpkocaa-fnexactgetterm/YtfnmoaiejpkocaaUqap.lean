/- Texts of GtP, Tree2, GtI. Own work of the verifier. -/
import Derived.Test.YtfnmoaiejpkocaaUqan
import Derived.Test.YtfnmoaiejpkocaaUqao
import Derived.Lib.SlBytesConst
import Derived.Test.YtfnmoaiejpkocaaUqam
namespace Go.Proofs.Ytfnmoaiejpkocaa
open Go Go.RowKit
set_option linter.unusedVariables false

theorem supF_le (f : Nat → Nat) (m : Nat) : ∀ n : Nat, (∀ i, i < n → f i ≤ m) → supF f n ≤ m
  | 0, _ => Nat.zero_le _
  | n + 1, h => by
    simp only [supF]
    have h1 := supF_le f m n (fun i hi => h i (by omega))
    have h2 := h n (by omega)
    omega
/-- How deep a word that was followed leads. -/
noncomputable def dW (xs : List Cel) (d : Cel) : Nat := if d.1 = 4 then 1 + supF (fun i => rk xs (d.2.1.toNat + (i + 1))) (numA xs d.2.1.toNat).toNat else 0
theorem dW_at {xs : List Cel} (g : Good xs) : ∀ (N a : Nat), rk xs a ≤ N → a < xs.length → kndA xs a ≠ 3 → dW xs (drf xs (xs.getD a Cel.none)) ≤ rk xs a := by
  intro N
  induction N with
  | zero =>
    intro a hr ha h3
    cases ho : onB xs (xs.getD a Cel.none)
    · rw [drf_stop ho]
      unfold dW
      by_cases h4 : (xs.getD a Cel.none).1 = 4
      · exfalso
        obtain ⟨s0, s1, s2⟩ := g.shp.stru a ha h4
        obtain ⟨f1, f2, f3⟩ := g.shp.funs (numA xs a).toNat (by omega) s2
        have hk : Kid xs ((numA xs a).toNat + 1) a := by
          have h40 : kndA xs a = 4 := h4
          refine ⟨?_, ?_, ?_⟩
          · simp [varB, h40]
          · unfold firstK; rw [if_neg (by omega), if_pos h40]; exact Nat.le_refl _
          · unfold endK; rw [if_neg (by omega), if_pos h40]; omega
        have := rk_lt (g.acyc a ha) hk
        omega
      · rw [if_neg h4]; exact Nat.zero_le _
    · exfalso
      obtain ⟨h0, hv⟩ := on_ref ho
      have h00 : kndA xs a = 0 := h0
      have hva : varB xs a = false := by
        cases hv2 : varB xs (a : Int)
        · rfl
        · simp [varB] at hv2
          have e : (xs.getD a Cel.none).2.1 = (a : Int) := hv2.2.2
          rw [e] at hv
          simp [varB] at hv
          have := hv hv2.1 hv2.2.1
          exact absurd hv2.2.2 this
      have hk : Kid xs (numA xs a).toNat a := by
        refine ⟨hva, ?_, ?_⟩
        · unfold firstK; rw [if_pos h00]; exact Nat.le_refl _
        · unfold endK; rw [if_pos h00]; omega
      have := rk_lt (g.acyc a ha) hk
      omega
  | succ N ih =>
    intro a hr ha h3
    cases ho : onB xs (xs.getD a Cel.none)
    · rw [drf_stop ho]
      unfold dW
      by_cases h4 : (xs.getD a Cel.none).1 = 4
      · rw [if_pos h4]
        have h40 : kndA xs a = 4 := h4
        obtain ⟨s0, s1, s2⟩ := g.shp.stru a ha h4
        obtain ⟨f1, f2, f3⟩ := g.shp.funs (numA xs a).toNat (by omega) s2
        have hk : ∀ i, i < (numA xs (numA xs a).toNat).toNat → rk xs ((numA xs a).toNat + (i + 1)) < rk xs a := fun i hi => by
          refine rk_lt (g.acyc a ha) ⟨?_, ?_, ?_⟩
          · simp [varB, h40]
          · unfold firstK; rw [if_neg (by omega), if_pos h40]; omega
          · unfold endK; rw [if_neg (by omega), if_pos h40]; omega
        have h1 := hk 0 (by omega)
        have h2 := supF_le (fun i => rk xs ((numA xs a).toNat + (i + 1))) (rk xs a - 1) (numA xs (numA xs a).toNat).toNat (fun i hi => by have := hk i hi; omega)
        show 1 + supF (fun i => rk xs ((numA xs a).toNat + (i + 1))) (numA xs (numA xs a).toNat).toNat ≤ rk xs a
        omega
      · rw [if_neg h4]; exact Nat.zero_le _
    · obtain ⟨h0, hv⟩ := on_ref ho
      have h00 : kndA xs a = 0 := h0
      obtain ⟨r0, r1, r2⟩ := g.shp.refs a ha h00
      have hva : varB xs a = false := by
        cases hv2 : varB xs (a : Int)
        · rfl
        · simp [varB] at hv2
          have e : (xs.getD a Cel.none).2.1 = (a : Int) := hv2.2.2
          rw [e] at hv
          simp [varB] at hv
          have := hv hv2.1 hv2.2.1
          exact absurd hv2.2.2 this
      have hk : Kid xs (numA xs a).toNat a := by
        refine ⟨hva, ?_, ?_⟩
        · unfold firstK; rw [if_pos h00]; exact Nat.le_refl _
        · unfold endK; rw [if_pos h00]; omega
      have hl := rk_lt (g.acyc a ha) hk
      rw [drf_step g (g.at ha h3) ho]
      have := ih (numA xs a).toNat (by omega) (by omega) r2
      have e : (xs.getD a Cel.none).2.1.toNat = (numA xs a).toNat := rfl
      rw [e]
      omega
theorem dW_arg {xs : List Cel} (g : Good xs) {d : Cel} (hd : WdC xs d) (h4 : d.1 = 4) {i : Nat} (hi : (i : Int) < numA xs d.2.1.toNat) : dW xs (drf xs (xs.getD (d.2.1.toNat + (i + 1)) Cel.none)) < dW xs d := by
  obtain ⟨s0, s1, s2⟩ := hd.2.2 h4
  obtain ⟨f1, f2, f3⟩ := g.shp.funs d.2.1.toNat (by omega) s2
  obtain ⟨f4, f5⟩ := f3 (i + 1) (by omega) (by omega)
  have h1 := dW_at g _ (d.2.1.toNat + (i + 1)) (Nat.le_refl _) f4 f5
  have h2 : dW xs d = 1 + supF (fun i => rk xs (d.2.1.toNat + (i + 1))) (numA xs d.2.1.toNat).toNat := by unfold dW; rw [if_pos h4]
  have h3 := le_supF (fun i => rk xs (d.2.1.toNat + (i + 1))) (numA xs d.2.1.toNat).toNat i (by omega)
  omega

/-- Forests one behind the other. -/
def catF (f : Nat → Fo) : Nat → Fo
  | 0 => .nil
  | n + 1 => (catF f n).cat (f n)
/-- The term at a word, as a tree. -/
noncomputable def gF (xs : List Cel) : Nat → Cel → Fo
  | 0, c => .node (drf xs c) .nil .nil
  | f + 1, c => if (drf xs c).1 = 4 then .node (3, numA xs (drf xs c).2.1.toNat, (xs.getD (drf xs c).2.1.toNat Cel.none).2.2) (catF (fun i => gF xs f (xs.getD ((drf xs c).2.1.toNat + (i + 1)) Cel.none)) (numA xs (drf xs c).2.1.toNat).toNat) .nil else .node (drf xs c) .nil .nil
theorem gF_leaf {xs : List Cel} {f : Nat} {c : Cel} (h : (drf xs c).1 ≠ 4) : gF xs f c = .node (drf xs c) .nil .nil := by
  cases f with
  | zero => rfl
  | succ f => simp only [gF]; rw [if_neg h]
/-- The trees of the first k arguments of the structure at s. -/
noncomputable def argF (xs : List Cel) (f s k : Nat) : Fo := catF (fun i => gF xs f (xs.getD (s + (i + 1)) Cel.none)) k
theorem argF_zero (xs : List Cel) (f s : Nat) : argF xs f s 0 = .nil := rfl
theorem argF_succ (xs : List Cel) (f s k : Nat) : argF xs f s (k + 1) = (argF xs f s k).cat (gF xs f (xs.getD (s + (k + 1)) Cel.none)) := rfl
theorem gF_comp {xs : List Cel} {f : Nat} {c : Cel} (h : (drf xs c).1 = 4) (s n : Nat) (hs : (drf xs c).2.1 = s) (hn : numA xs s = n) : gF xs (f + 1) c = .node (3, (n : Int), (xs.getD s Cel.none).2.2) (argF xs f s n) .nil := by
  simp only [gF]
  rw [if_pos h, hs]
  simp only [Int.toNat_natCast]
  rw [hn]
  rfl
theorem gF_one (xs : List Cel) (f : Nat) (c : Cel) : ∃ d k, gF xs f c = .node d k .nil := by
  cases f with
  | zero => exact ⟨_, _, rfl⟩
  | succ f =>
    by_cases h : (drf xs c).1 = 4
    · simp only [gF]; rw [if_pos h]; exact ⟨_, _, rfl⟩
    · simp only [gF]; rw [if_neg h]; exact ⟨_, _, rfl⟩
theorem gF_count (xs : List Cel) (f : Nat) (c : Cel) : (gF xs f c).count = 1 := by
  obtain ⟨d, k, e⟩ := gF_one xs f c
  rw [e]; rfl
theorem argF_count (xs : List Cel) (f s : Nat) : ∀ k, (argF xs f s k).count = k
  | 0 => rfl
  | k + 1 => by rw [argF_succ, Fo.count_cat, argF_count xs f s k, gF_count]
/-- How many cells the term has. -/
noncomputable def gZ (xs : List Cel) (f : Nat) (c : Cel) : Nat := (gF xs f c).cells.length
noncomputable def aZ (xs : List Cel) (f s k : Nat) : Nat := (argF xs f s k).cells.length
theorem aZ_zero (xs : List Cel) (f s : Nat) : aZ xs f s 0 = 0 := rfl
theorem aZ_succ (xs : List Cel) (f s k : Nat) : aZ xs f s (k + 1) = aZ xs f s k + gZ xs f (xs.getD (s + (k + 1)) Cel.none) := by
  unfold aZ gZ; rw [argF_succ, Fo.cells_cat, List.length_append]
theorem aZ_mono (xs : List Cel) (f s : Nat) {k n : Nat} (h : k ≤ n) : aZ xs f s k ≤ aZ xs f s n := by
  induction n with
  | zero => rw [show k = 0 by omega]; exact Nat.le_refl _
  | succ n ih =>
    by_cases e : k = n + 1
    · rw [e]; exact Nat.le_refl _
    · have := ih (by omega); rw [aZ_succ]; omega
theorem gZ_pos (xs : List Cel) (f : Nat) (c : Cel) : 1 ≤ gZ xs f c := by
  obtain ⟨d, k, e⟩ := gF_one xs f c
  unfold gZ; rw [e]; simp [Fo.cells]
theorem gZ_leaf {xs : List Cel} {f : Nat} {c : Cel} (h : (drf xs c).1 ≠ 4) : gZ xs f c = 1 := by unfold gZ; rw [gF_leaf h]; rfl
theorem gZ_comp {xs : List Cel} {f : Nat} {c : Cel} (h : (drf xs c).1 = 4) (s n : Nat) (hs : (drf xs c).2.1 = s) (hn : numA xs s = n) : gZ xs (f + 1) c = 1 + aZ xs f s n := by
  unfold gZ aZ; rw [gF_comp h s n hs hn]; simp [Fo.cells]; omega
/-- What is asked of the cells of a store. -/
def OkS (xs : List Cel) : Prop := ∀ a, a < xs.length → okW (xs.getD a Cel.none).1 (xs.getD a Cel.none).2.1 (xs.getD a Cel.none).2.2.length = true ∧ Byte (xs.getD a Cel.none).2.2
theorem ok_cell {xs : List Cel} {d : Cel} (g : Shp xs) (hd : WdC xs d) (h4 : d.1 ≠ 4) (ho : okW d.1 d.2.1 d.2.2.length = true) : cellB d.1 d.2.1 d.2.2.length = true := by
  unfold okW at ho; rw [if_neg h4] at ho; exact ho
theorem gF_ok {xs : List Cel} (g : Good xs) (hO : OkS xs) : ∀ (f : Nat) (c : Cel), WdC xs c → okW c.1 c.2.1 c.2.2.length = true → Byte c.2.2 → dW xs (drf xs c) < f → (gF xs f c).ok := by
  intro f
  induction f with
  | zero => intro c _ _ _ h; exact absurd h (Nat.not_lt_zero _)
  | succ f ih =>
    intro c hc ho hb hf
    obtain ⟨⟨h1, h2⟩, hw, _⟩ := drf_ind g (P := fun c => okW c.1 c.2.1 c.2.2.length = true ∧ Byte c.2.2) (fun a ha _ => hO a ha) _ c (Nat.le_refl _) hc ⟨ho, hb⟩
    have hw' := (drf_word g hc).1
    by_cases h4 : (drf xs c).1 = 4
    · obtain ⟨s0, s1, s2⟩ := hw'.2.2 h4
      obtain ⟨s, es⟩ : ∃ s : Nat, (drf xs c).2.1 = s := ⟨(drf xs c).2.1.toNat, by omega⟩
      rw [es] at s0 s1 s2
      simp only [Int.toNat_natCast] at s2
      obtain ⟨f1, f2, f3⟩ := g.shp.funs s (by omega) s2
      obtain ⟨n, en⟩ : ∃ n : Nat, numA xs s = n := ⟨(numA xs s).toNat, by omega⟩
      rw [gF_comp h4 s n es en]
      have hargs : ∀ k, k ≤ n → (argF xs f s k).ok := by
        intro k
        induction k with
        | zero => intro _; exact trivial
        | succ k ihk =>
          intro hk
          rw [argF_succ, Fo.ok_cat]
          obtain ⟨f4, f5⟩ := f3 (k + 1) (by omega) (by omega)
          have hd := dW_arg g hw' h4 (i := k) (by rw [es]; simp only [Int.toNat_natCast]; omega)
          rw [es] at hd
          simp only [Int.toNat_natCast] at hd
          exact ⟨ihk (by omega), ih _ (g.at f4 f5) (hO _ f4).1 (hO _ f4).2 (by omega)⟩
      have hos := (hO s (by omega)).1
      refine ⟨?_, (hO s (by omega)).2, fun _ => by rw [argF_count], fun h => absurd rfl h, hargs n (Nat.le_refl _), trivial⟩
      have e3 : (xs.getD s Cel.none).1 = 3 := s2
      have en' : (xs.getD s Cel.none).2.1 = (n : Int) := en
      rw [e3, en'] at hos
      unfold okW at hos
      simpa using hos
    · rw [gF_leaf h4]
      exact ⟨ok_cell g.shp hw' h4 h1, h2, fun h3 => by have := hw'.1; omega, fun _ => rfl, trivial, trivial⟩

end Go.Proofs.Ytfnmoaiejpkocaa

namespace Go.Proofs.Ytfnmoaiejpkocaa
open Go Go.RowKit
set_option linter.unusedVariables false

theorem infoTerm : (Try.prog.info? 80).map (fun i => (i.zero, i.size, i.bytes)) = some (some .nilIface, 1, 16) := by kernel_rfl



set_option maxRecDepth 20000 in
theorem firstLeaf_any (c : Cel) (p : Option Addr) (cap : Nat) (tail : List Cel) (w0 w : World) (hw : Below w0.heap.size w0 w) (h3 : c.1 ≠ 3) (hcell : cellB c.1 c.2.1 c.2.2.length = true) (hcap : tail.length + 1 ≤ cap) (hn : cap ≤ 1000000000) (hc : CIn w0 p (c :: tail)) :
    Calls Try.prog 97 #[.slice p (tail.length + 1) cap] w fun e w' => ∃ v q, e = .returned (.tuple #[v, .slice q tail.length (cap - 1)]) ∧ CIn w0 q tail ∧ FoIn w' w.heap.size (.node c .nil .nil) [v] ∧ Below w.heap.size w w' := by
  obtain ⟨b, o, rfl, hcs⟩ := hc (by simp)
  obtain ⟨p0, q0, h0, h1, h2, h4⟩ := (hcs 0 (by simp)).below hw
  simp only [List.getD_cons_zero, Nat.zero_mul, Nat.add_zero] at h0 h1 h2 h4
  have HT : Hid (∀ A, (tail.length ≠ 0 → A = some ⟨b, o + 3, none⟩) → CIn w0 A tail) := fun A hA hl => ⟨b, o + 3, hA (by omega), fun i hi => by
    have := hcs (i + 1) (by simpa using hi)
    rw [show o + (i + 1) * 3 = o + 3 + i * 3 by omega] at this
    simpa using this⟩
  clear hcs hw
  obtain ⟨k, n, xs⟩ := c
  simp only at h3 hcell h0 h1 h2 h4
  have hk : k = 0 ∨ k = 1 ∨ k = 2 := by simp [cellB] at hcell; omega
  clear h3
  have HC : Hid _ := hcell
  clear hcell
  obtain ⟨t, et⟩ : ∃ t, t = tail.length := ⟨_, rfl⟩
  rw [← et] at hcap HT ⊢
  obtain ⟨m, hm⟩ : ∃ m, m = xs.length := ⟨_, rfl⟩
  rw [← hm] at h2
  have hle : (1 : Int) ≤ (t : Int) + 1 := by omega
  have hlt : (0 : Int) < (t : Int) + 1 := by omega
  have H4 : Hid (BIn w p0 xs) := h4
  have HM : Hid (m = xs.length) := hm
  clear hc et h4 hm
  rcases hk with rfl | rfl | rfl
  · have a0 : ∀ x, (w.alloc x).cell? ⟨b, o, none⟩ = some (.int .i64 0) := fun x => Lib.cell?_alloc_marked x h0
    have a1 : ∀ x, (w.alloc x).cell? ⟨b, o + 1, none⟩ = some (.int .i64 n) := fun x => Lib.cell?_alloc_marked x h1
    have a2 : ∀ x, (w.alloc x).cell? ⟨b, o + 2, none⟩ = some (.slice p0 m q0) := fun x => Lib.cell?_alloc_marked x h2
    have HB : Hid (Below w.heap.size w (w.alloc (Obj.cells #[Value.int IntKind.i64 0, Value.int IntKind.i64 n, Value.slice p0 m q0] 31)).drew) := ((Below.refl _ _).alloc (Nat.le_refl _) _).drew
    go_enter Try.func97, Try.ntmps97
    go_wp2
    go_region
    all_goals go_wp2
    · refine bodyPost_ret (v := .tuple #[.iface 120 (.int .i64 n), .slice (some ⟨b, o, none⟩) t 0]) (by simp [results, Try.results97, go_sem]) rfl ⟨_, _, rfl, HT.out _ (fun h => by omega), ⟨_, [], rfl, .inl ⟨rfl, rfl⟩, rfl⟩, HB.out⟩
    · refine bodyPost_ret (v := .tuple #[.iface 120 (.int .i64 n), .slice (some ⟨b, o + 3, none⟩) t (cap - 1)]) (by simp [results, Try.results97, go_sem]) rfl ⟨_, _, rfl, HT.out _ (fun h => rfl), ⟨_, [], rfl, .inl ⟨rfl, rfl⟩, rfl⟩, HB.out⟩
  · have a0 : ∀ x, (w.alloc x).cell? ⟨b, o, none⟩ = some (.int .i64 1) := fun x => Lib.cell?_alloc_marked x h0
    have a1 : ∀ x, (w.alloc x).cell? ⟨b, o + 1, none⟩ = some (.int .i64 n) := fun x => Lib.cell?_alloc_marked x h1
    have a2 : ∀ x, (w.alloc x).cell? ⟨b, o + 2, none⟩ = some (.slice p0 m q0) := fun x => Lib.cell?_alloc_marked x h2
    have HB : Hid (Below w.heap.size w (w.alloc (Obj.cells #[Value.int IntKind.i64 1, Value.int IntKind.i64 n, Value.slice p0 m q0] 31)).drew) := ((Below.refl _ _).alloc (Nat.le_refl _) _).drew
    go_enter Try.func97, Try.ntmps97
    go_wp2
    go_region
    all_goals go_wp2
    · refine bodyPost_ret (v := .tuple #[.iface 121 (.int .i64 n), .slice (some ⟨b, o, none⟩) t 0]) (by simp [results, Try.results97, go_sem]) rfl ⟨_, _, rfl, HT.out _ (fun h => by omega), ⟨_, [], rfl, .inr (.inl ⟨rfl, rfl⟩), rfl⟩, HB.out⟩
    · refine bodyPost_ret (v := .tuple #[.iface 121 (.int .i64 n), .slice (some ⟨b, o + 3, none⟩) t (cap - 1)]) (by simp [results, Try.results97, go_sem]) rfl ⟨_, _, rfl, HT.out _ (fun h => rfl), ⟨_, [], rfl, .inr (.inl ⟨rfl, rfl⟩), rfl⟩, HB.out⟩
  · have a0 : ∀ x, (w.alloc x).cell? ⟨b, o, none⟩ = some (.int .i64 2) := fun x => Lib.cell?_alloc_marked x h0
    have a1 : ∀ x, (w.alloc x).cell? ⟨b, o + 1, none⟩ = some (.int .i64 n) := fun x => Lib.cell?_alloc_marked x h1
    have a2 : ∀ x, (w.alloc x).cell? ⟨b, o + 2, none⟩ = some (.slice p0 m q0) := fun x => Lib.cell?_alloc_marked x h2
    have HB : Hid (Below w.heap.size w (w.alloc (Obj.cells #[Value.int IntKind.i64 2, Value.int IntKind.i64 n, Value.slice p0 m q0] 31)).drew) := ((Below.refl _ _).alloc (Nat.le_refl _) _).drew
    have hcv := fun (W : World) (h : Below w.heap.size w W) => conv_str (H4.out.below h) m q0 HM.out 122 Try.underlying122
    have hcv' := hcv _ HB.out
    have hcv2 : (convert 26 122 (.slice p0 m q0)).run Try.prog (w.alloc (Obj.cells #[Value.int IntKind.i64 2, Value.int IntKind.i64 n, Value.slice p0 m q0] 31)).drew = .ok (.string (strOfNums xs)) (w.alloc (Obj.cells #[Value.int IntKind.i64 2, Value.int IntKind.i64 n, Value.slice p0 m q0] 31)).drew := hcv'
    clear hcv hcv'
    obtain ⟨str, es⟩ : ∃ str, str = strOfNums xs := ⟨_, rfl⟩
    rw [← es] at hcv2
    have HS : Hid (str = strOfNums xs) := es
    clear es
    go_enter Try.func97, Try.ntmps97
    go_wp2
    go_region
    all_goals go_wp2
    · refine bodyPost_ret (v := .tuple #[.iface 122 (.string str), .slice (some ⟨b, o, none⟩) t 0]) (by simp [results, Try.results97, go_sem]) rfl ⟨_, _, rfl, HT.out _ (fun h => by omega), ⟨_, [], rfl, .inr (.inr (.inl ⟨rfl, by rw [HS.out]⟩)), rfl⟩, HB.out⟩
    · refine bodyPost_ret (v := .tuple #[.iface 122 (.string str), .slice (some ⟨b, o + 3, none⟩) t (cap - 1)]) (by simp [results, Try.results97, go_sem]) rfl ⟨_, _, rfl, HT.out _ (fun h => rfl), ⟨_, [], rfl, .inr (.inr (.inl ⟨rfl, by rw [HS.out]⟩)), rfl⟩, HB.out⟩




theorem NodeIn.iface {w : World} {B : Nat} {c : Cel} {K : List Value → Prop} {v : Value} (h : NodeIn w B c K v) : ∃ t x, v = .iface t x := by
  rcases h with h | h | h | ⟨h, b, g, vs, hv, _⟩
  · exact ⟨_, _, h.2⟩
  · exact ⟨_, _, h.2⟩
  · exact ⟨_, _, h.2⟩
  · exact ⟨_, _, hv⟩
theorem FoIn.iface {w : World} {B : Nat} {c : Cel} {k r : Fo} {v : Value} {vs : List Value} (h : FoIn w B (.node c k r) (v :: vs)) : ∃ t x, v = .iface t x := by
  obtain ⟨v', vr, e, hn, _⟩ := h
  obtain ⟨rfl, rfl⟩ := List.cons.inj e
  exact hn.iface
/-- What firstTerm answers. -/
def FirstOut (w0 w : World) (c : Cel) (k : Fo) (tail : List Cel) (cap : Nat) (e : Ending) (w' : World) : Prop :=
  ∃ v q l cp, e = .returned (.tuple #[v, .slice q l cp]) ∧ l = tail.length ∧ cp + 1 + k.cells.length = cap ∧ CIn w0 q tail ∧ FoIn w' w.heap.size (.node c k .nil) [v] ∧ Below w.heap.size w w'

theorem row_next {B g n : Nat} {w : World} {vs : List Value} {j : Nat} (h : w.ownsRow B 80 1 (.slice (some ⟨g, 0, none⟩) n n) n (vs ++ List.replicate (n - j) .nilIface)) (hj : vs.length = j) (hlt : j < n) (v : Value) :
    (w.setCell ⟨g, j, none⟩ v).ownsRow B 80 1 (.slice (some ⟨g, 0, none⟩) n n) n ((vs ++ [v]) ++ List.replicate (n - (j + 1)) .nilIface) := by
  have := (h.stored j v).1
  rw [List.set_append_right _ _ (by omega), show j - vs.length = 0 by omega, show n - j = (n - (j + 1)) + 1 by omega, List.replicate_succ, List.set_cons_zero] at this
  rw [List.append_assoc]
  exact this

set_option maxRecDepth 20000 in
set_option maxHeartbeats 1000000 in
theorem firstTerm_any : ∀ (N : Nat) (c : Cel) (k : Fo) (p : Option Addr) (l cap : Nat) (tail : List Cel) (w0 w : World), Below w0.heap.size w0 w → k.cells.length ≤ N → (Fo.node c k .nil).ok → l = k.cells.length + tail.length + 1 → l ≤ cap → cap ≤ 1000000000 → CIn w0 p (c :: (k.cells ++ tail)) →
    Calls Try.prog 97 #[.slice p l cap] w (FirstOut w0 w c k tail cap) := by
  intro N
  induction N with
  | zero =>
    intro c k p l cap tail w0 w hw hN hok hl hcap hn hc
    have hk : k = .nil := by cases k with | nil => rfl | node a b d => simp [Fo.cells] at hN
    subst hk
    have h3 : c.1 ≠ 3 := fun e => by
      have h1 := hok.2.2.1 e
      have h2 := cellB_comp (e ▸ hok.1)
      simp [Fo.count] at h1; omega
    subst hl
    have := firstLeaf_any c p cap tail w0 w hw h3 hok.1 (by simpa [Fo.cells] using hcap) hn hc
    simp only [Fo.cells, List.length_nil, Nat.zero_add]
    refine this.mono fun e w' ⟨v, q, h1, h2, h3, h4⟩ => ⟨v, q, _, _, h1, rfl, by simp [Fo.cells]; simp [Fo.cells] at hcap; omega, h2, h3, h4⟩
  | succ N ih =>
    intro c k p l cap tail w0 w hw hN hok hl hcap hn hc
    by_cases h3 : c.1 = 3
    · obtain ⟨b, o, rfl, hcs⟩ := hc (by simp)
      obtain ⟨p0, q0, h0, h1, h2, h4⟩ := (hcs 0 (by simp)).below hw
      simp only [List.getD_cons_zero, Nat.zero_mul, Nat.add_zero] at h0 h1 h2 h4
      have HW0 : Hid (Below w0.heap.size w0 w) := hw
      have HT : Hid (CIn w0 (some ⟨b, o + 3, none⟩) (k.cells ++ tail)) := fun hl => ⟨b, o + 3, rfl, fun i hi => by
        have := hcs (i + 1) (by simpa using hi)
        rw [show o + (i + 1) * 3 = o + 3 + i * 3 by omega] at this
        simpa using this⟩
      clear hcs hc hw
      have hcnt := hok.2.2.1 h3
      have hc1 := cellB_comp (h3 ▸ hok.1)
      have HOK : Hid k.ok := hok.2.2.2.2.1
      obtain ⟨kd, n0, xs⟩ := c
      simp only at h3 h0 h1 h2 h4 hcnt hc1
      subst h3
      have hcl := Fo.count_le k
      obtain ⟨n, en⟩ : ∃ n, n = k.count := ⟨_, rfl⟩
      have HE : Hid (n = k.count) := en
      rw [← en] at hcnt hcl
      subst hcnt
      have hcap1 : ¬ cap = 1 := by omega
      have hcap2 : (cap = 1) = False := by simpa using hcap1
      obtain ⟨m, hm⟩ : ∃ m, m = xs.length := ⟨_, rfl⟩
      rw [← hm] at h2
      have HM : Hid (m = xs.length) := hm
      have H4 : Hid (BIn w p0 xs) := h4
      have HL : Hid (l = k.cells.length + tail.length + 1) := hl
      have HN : Hid (k.cells.length ≤ N + 1) := hN
      have HCL : Hid (n ≤ k.cells.length) := hcl
      obtain ⟨l', el⟩ : ∃ l', l = l' + 1 := ⟨l - 1, by omega⟩
      subst el
      have HIH : Hid _ := ih
      clear en h4 hm hl hN ih hok hcl
      have a0 : ∀ x, (w.alloc x).cell? ⟨b, o, none⟩ = some (.int .i64 3) := fun x => Lib.cell?_alloc_marked x h0
      have a1 : ∀ x, (w.alloc x).cell? ⟨b, o + 1, none⟩ = some (.int .i64 n) := fun x => Lib.cell?_alloc_marked x h1
      have a2 : ∀ x, (w.alloc x).cell? ⟨b, o + 2, none⟩ = some (.slice p0 m q0) := fun x => Lib.cell?_alloc_marked x h2
      have hle : (1 : Int) ≤ (l' : Int) + 1 := by omega
      have hlt : (0 : Int) < (l' : Int) + 1 := by omega
      obtain ⟨i0, hi, hz0, hz1, hz2⟩ := info_parts infoTerm
      have hmx : n ≤ maxLen := by unfold maxLen; omega
      go_enter Try.func97, Try.ntmps97
      go_wp2_with fail
      go_region
      all_goals go_wp2_with (at_make; refine wpList_make_full _ rfl _ _ 157 rfl (w.heap.size + 1) 80 i0 .nilIface 1 Try.underlying157 hi hz0 hz1 _ _ _ _ n rfl rfl rfl rfl (by rw [hz2]; omega) hmx (by simp) ?_; intro w1 hown hgrow)
      have HO1 : Hid (w1.ownsRow (w.heap.size + 1) 80 1 (.slice (some ⟨w.heap.size + 1, 0, none⟩) n n) n ([] ++ List.replicate (n - 0) .nilIface)) := by
        have := hown
        simp [Value.cells, toList_madeCells_one] at this
        exact this
      have HB1 : Hid (Below (w.heap.size + 1) (w.alloc (Obj.cells #[Value.int IntKind.i64 3, Value.int IntKind.i64 n, Value.slice p0 m q0] 31)).drew w1) := (Below.refl _ _).grown hgrow (by simp) (fun k h => by cases h)
      have HX1 : Hid (Box3 w1 w.heap.size (.int .i64 3) (.int .i64 n) (.slice p0 m q0)) := Box3.of_block (t := 31) ((HB1.out.block _ (by omega)).trans (heap_alloc_new _ _))
      have HW1 : Hid (Below w.heap.size w w1) := ((Below.refl _ _).alloc (Nat.le_refl _) _).drew.trans (HB1.out.mono (by omega))
      have hs1 : w.heap.size + 2 ≤ w1.heap.size := by
        rcases HO1.out.2 with ⟨h', _⟩ | ⟨g', cap', cur, hv, hb', hg', _⟩
        · simp at h'
        · simp only [Value.slice.injEq, Option.some.injEq, Addr.mk.injEq, and_true, true_and] at hv
          have := (Array.getElem?_eq_some_iff.1 hg').1
          omega
      clear hown hgrow hi hz0 hz1 hz2 a0 a1 a2 h0 h1 h2 hle hlt HB1
      go_loopw [5, 39] (fun s i wr => ∃ (D R : Fo) (vs : List Value) (q : Option Addr) (j l2 c2 : Nat), j ≤ n ∧ l2 ≤ c2 ∧ c2 ≤ cap ∧ i = .int .i64 j ∧ s = .slice q l2 c2 ∧ Hid (k = D.cat R ∧ D.count = j ∧ vs.length = j ∧ l2 = R.cells.length + tail.length ∧ c2 + 1 + D.cells.length = cap) ∧
        Hid (CIn w0 q (R.cells ++ tail)) ∧ Hid (FoIn wr (w.heap.size + 2) D vs) ∧ Hid (wr.ownsRow (w.heap.size + 1) 80 1 (.slice (some ⟨w.heap.size + 1, 0, none⟩) n n) n (vs ++ List.replicate (n - j) .nilIface)) ∧
        Hid (Below w.heap.size w wr) ∧ Hid (Box3 wr w.heap.size (.int .i64 3) (.int .i64 n) (.slice p0 m q0)) ∧ w.heap.size + 2 ≤ wr.heap.size) (fun _ i _ => n - (intOf i).toNat)
      case atStart => exact ⟨.nil, k, [], _, 0, l', cap - 1, Nat.zero_le _, by omega, by omega, rfl, rfl, ⟨rfl, rfl, rfl, by have := HL.out; omega, by simp [Fo.cells]; omega⟩, HT.out, rfl, HO1, HW1, HX1, hs1⟩
      case round =>
        obtain ⟨D, R, vs, q, j, l2, c2, hj, hl2, hc2, rfl, rfl, HF, HC, HI, HR, HB, HX, hsz⟩ := hrel
        by_cases hlt : j < n
        · obtain ⟨c', k', r', rfl⟩ : ∃ c' k' r', R = .node c' k' r' := by
            cases R with
            | nil =>
              have := HF.out
              rw [Fo.cat_nil] at this
              have e := HE.out
              rw [this.1, this.2.1] at e
              omega
            | node c' k' r' => exact ⟨c', k', r', rfl⟩
          have hok2 := (Fo.ok_cat D (.node c' k' r')).1 (HF.out.1 ▸ HOK.out)
          have hlen : D.cells.length + (k'.cells.length + r'.cells.length + 1) = k.cells.length := by
            rw [HF.out.1, Fo.cells_cat]; simp [Fo.cells]
          have HS := HIH.out c' k' q l2 c2 (r'.cells ++ tail) w0 wr (Below.on HW0.out HB.out) (by have := HN.out; omega) ⟨hok2.2.1, hok2.2.2.1, hok2.2.2.2.1, hok2.2.2.2.2.1, hok2.2.2.2.2.2.1, trivial⟩ (by rw [HF.out.2.2.2.1]; simp [Fo.cells]; omega) hl2 (by omega)
            (by have := HC.out; simpa [Fo.cells, List.append_assoc] using this)
          have HOK2 : Hid r'.ok := hok2.2.2.2.2.2.2
          have HLEN : Hid _ := hlen
          clear hok2 hlen
          go_wp2_with fail
          refine HS.mono ?_
          rintro e w2 ⟨v, q2, l3, c3, rfl, hl3, hc3, hin3, hfo3, hb3⟩
          obtain ⟨vt, vx, rfl⟩ := hfo3.iface
          have d0 : w2.cell? ⟨w.heap.size + 1, j, none⟩ = some .nilIface := by
            rw [hb3.cell (p := ⟨w.heap.size + 1, j, none⟩) (show w.heap.size + 1 < _ by omega), HR.out.cellAt j (by omega), List.getElem?_append_right (by have := HF.out.2.2.1; omega), List.getElem?_replicate, if_pos (by have := HF.out.2.2.1; omega)]
          have d1 : w2.frozen? ⟨w.heap.size + 1, j, none⟩ = false := (hb3.frozen (p := ⟨w.heap.size + 1, j, none⟩) (show w.heap.size + 1 < _ by omega)).trans (HR.out.frozenAt j)
          have HB3 : Hid (Below wr.heap.size wr w2) := hb3
          have HI3 : Hid (CIn w0 q2 (r'.cells ++ tail)) := hin3
          have HF3 : Hid (FoIn w2 wr.heap.size (.node c' k' .nil) [.iface vt vx]) := hfo3
          have HL3 : Hid (l3 = (r'.cells ++ tail).length ∧ c3 + 1 + k'.cells.length = c2) := ⟨hl3, hc3⟩
          clear hb3 hin3 hfo3 hl3 hc3 HS
          go_wp2
          have HB2 : Hid (Below w.heap.size w w2) := Below.on HB.out HB3.out
          have HR2 : Hid (w2.ownsRow (w.heap.size + 1) 80 1 (.slice (some ⟨w.heap.size + 1, 0, none⟩) n n) n (vs ++ List.replicate (n - j) .nilIface)) := row_below HR.out HB3.out
          have HFI : Hid (FoIn w2 (w.heap.size + 2) (D.cat (.node c' k' .nil)) (vs ++ [.iface vt vx])) := FoIn.cat _ _ _ _ (HI.out.below HB3.out) (HF3.out.mono (by omega))
          have HX2 : Hid (Box3 w2 w.heap.size (.int .i64 3) (.int .i64 n) (.slice p0 m q0)) := HX.out.below HB3.out (by omega)
          have hsz2 : w.heap.size + 2 ≤ w2.heap.size := Nat.le_trans hsz HB3.out.size
          obtain ⟨e1, e2, e3, e4, e5⟩ := HF.out
          have e6 := HLEN.out
          have e7 := HL3.out
          have G1 := HFI.out.setCell (a := ⟨w.heap.size + 1, j, none⟩) (show w.heap.size + 1 < w.heap.size + 2 by omega) (Value.iface vt vx)
          have G2 := row_next HR2.out e3 hlt (Value.iface vt vx)
          have G3 := HX2.out.setCell (a := ⟨w.heap.size + 1, j, none⟩) (show w.heap.size + 1 ≠ w.heap.size by omega) (Value.iface vt vx)
          have G4 := HB2.out.setCell (p := ⟨w.heap.size + 1, j, none⟩) (show w.heap.size ≤ w.heap.size + 1 by omega) (Value.iface vt vx)
          go_roundw
          case rel => exact ⟨D.cat (.node c' k' .nil), r', vs ++ [Value.iface vt vx], q2, j + 1, l3, c3, by omega, by rw [e7.1, List.length_append]; have := HL.out; omega, by omega, by go_num, rfl,
            ⟨by rw [Fo.cat_assoc]; exact e1, by rw [Fo.count_cat, e2]; rfl, by simp [e3], by rw [e7.1, List.length_append], by rw [Fo.cells_cat]; simp [Fo.cells]; omega⟩, HI3, G1, G2, G4, G3, by simpa using hsz2⟩
          case measure => simp [intOf]; omega
        · obtain rfl : j = n := by omega
          obtain ⟨e1, e2, e3, e4, e5⟩ := HF.out
          obtain rfl : R = .nil := by
            have e := HE.out
            rw [e1, Fo.count_cat] at e
            cases R with
            | nil => rfl
            | node a b d => simp [Fo.count] at e; omega
          rw [Fo.cat_nil] at e1
          subst e1
          have hcv := conv_str (H4.out.below HB.out) m q0 HM.out 9 Try.underlying9
          obtain ⟨str, es⟩ : ∃ str, str = strOfNums xs := ⟨_, rfl⟩
          rw [← es] at hcv
          have HS : Hid (str = strOfNums xs) := es
          obtain ⟨x0, x1, x2, _⟩ := HX.out
          have HF' : Hid (l2 = tail.length ∧ c2 + 1 + k.cells.length = cap ∧ vs.length = j) := ⟨by simpa [Fo.cells] using e4, e5, e3⟩
          clear es e2 e3 e4 e5 HF
          have HA : Hid (Below w.heap.size w (wr.alloc (Obj.cells #[Value.string str, Value.slice (some ⟨w.heap.size + 1, 0, none⟩) j j] 161))) := HB.out.alloc HB.out.size _
          go_wp2
          refine bodyPost_ret (v := .tuple #[.iface 158 (.pointer (some ⟨wr.heap.size, 0, none⟩)), .slice q l2 c2]) (by simp [results, Try.results97, go_sem]) rfl ⟨_, q, l2, c2, rfl, HF'.out.1, HF'.out.2.1, HC.out, ?_, HA.out⟩
          have hv := HF'.out.2.2
          subst hv
          have hnew := heap_alloc_new wr (Obj.cells #[Value.string str, Value.slice (some ⟨w.heap.size + 1, 0, none⟩) vs.length vs.length] 161)
          refine ⟨_, [], rfl, .inr (.inr (.inr ⟨rfl, wr.heap.size, w.heap.size + 1, vs, rfl, by omega, by omega, by rw [← HS.out]; exact (cell_of_row _ _ 0 _ _ _ hnew), cell_of_row _ _ 1 _ _ _ hnew, by simp; omega, fun i hi => ?_, ?_⟩)), rfl⟩
          · refine Lib.cell?_alloc_marked _ ?_
            rw [HR.out.cellAt i (by omega), List.getElem?_append_left (by omega)]
            simp [List.getD, hi]
          · exact (HI.out.below ((Below.refl _ _).alloc (Nat.le_refl _) _)).mono (by omega)
    · have hk : k = .nil := hok.2.2.2.1 h3
      subst hk
      subst hl
      have := firstLeaf_any c p cap tail w0 w hw h3 hok.1 (by simpa [Fo.cells] using hcap) hn hc
      simp only [Fo.cells, List.length_nil, Nat.zero_add]
      refine this.mono fun e w' ⟨v, q, h1, h2, h3, h4⟩ => ⟨v, q, _, _, h1, rfl, by simp [Fo.cells]; simp [Fo.cells] at hcap; omega, h2, h3, h4⟩

end Go.Proofs.Ytfnmoaiejpkocaa

namespace Go.Proofs.Ytfnmoaiejpkocaa
open Go Go.RowKit
set_option linter.unusedVariables false

set_option maxRecDepth 100000 in
theorem isNum (d : Cel) (h : d.1 = 0 ∨ d.1 = 1 ∨ d.1 = 2 ∨ d.1 = 3 ∨ d.1 = 4) : ∀ W, (Instr.typeAssert (wv d) 70 121 true).run Try.prog W = .ok (.tuple #[.int .i64 (if d.1 = 1 then d.2.1 else 0), .bool (decide (d.1 = 1))]) W := by
  obtain ⟨k, n, t⟩ := d
  rcases h with h | h | h | h | h <;> (simp only at h; subst h)
  · exact fun W => by kernel_rfl
  · exact fun W => by kernel_rfl
  · exact fun W => by kernel_rfl
  · exact fun W => by kernel_rfl
  · exact fun W => by kernel_rfl
set_option maxRecDepth 100000 in
theorem isAtm (d : Cel) (h : d.1 = 0 ∨ d.1 = 1 ∨ d.1 = 2 ∨ d.1 = 3 ∨ d.1 = 4) : ∀ W, (Instr.typeAssert (wv d) 70 122 true).run Try.prog W = .ok (.tuple #[.string (if d.1 = 2 then strOfNums d.2.2 else ⟨#[]⟩), .bool (decide (d.1 = 2))]) W := by
  obtain ⟨k, n, t⟩ := d
  rcases h with h | h | h | h | h <;> (simp only at h; subst h)
  · exact fun W => by kernel_rfl
  · exact fun W => by kernel_rfl
  · exact fun W => by kernel_rfl
  · exact fun W => by kernel_rfl
  · exact fun W => by kernel_rfl

/-- What is left of the room, where z cells are taken. -/
def leftR (room : Int) (z : Nat) : Int := if (z : Int) ≤ room then room - z else -1
/-- What term answers. -/
def GtOut (F : Fo) (room : Int) (w : World) (e : Ending) (w' : World) : Prop :=
  ∃ ty y, e = .returned (.tuple #[.iface ty y, .int .i64 (leftR room F.cells.length)]) ∧ ((F.cells.length : Int) ≤ room → FoIn w' w.heap.size F [.iface ty y]) ∧ Below w.heap.size w w'
/-- The contract of term, at a depth. -/
def TermOk (h : Nat) (xs : List Cel) (tr : List Int) (f : Nat) : Prop := ∀ (c : Cel) (room : Int) (w : World), WdC xs c → dW xs (drf xs c) < f → 0 ≤ room → room ≤ 2000 → HeapAt w h xs tr →
  Calls Try.prog 52 #[.pointer (some ⟨h, 0, none⟩), wv c, .int .i64 room] w (GtOut (gF xs f c) room w)
theorem fldN (w : World) (s : ByteArray) (z : Int) : (Instr.field 131 (.agg #[.string s, .int .i64 z]) 0).run Try.prog w = .ok (.string s) w := by kernel_rfl

set_option maxHeartbeats 1000000 in
set_option maxRecDepth 100000 in
theorem compound_any (h s n f : Nat) (room : Int) (xs : List Cel) (tr : List Int) (w : World) (g : Good xs) (hs : s < xs.length) (h3 : kndA xs s = 3) (hn : numA xs s = n) (hr0 : -1 ≤ room) (hr1 : room ≤ 2000) (IH : TermOk h xs tr f) (hd : ∀ k, k < n → dW xs (drf xs (xs.getD (s + (k + 1)) Cel.none)) < f) (H : HeapAt w h xs tr) :
    Calls Try.prog 77 #[.pointer (some ⟨h, 0, none⟩), .int .i64 (s : Int), .int .i64 room] w fun e w' =>
      ∃ ty y, e = .returned (.tuple #[.iface ty y, .int .i64 (leftR room (aZ xs f s n))]) ∧ ((aZ xs f s n : Int) ≤ room → FoIn w' w.heap.size (.node (3, (n : Int), (xs.getD s Cel.none).2.2) (argF xs f s n) .nil) [.iface ty y]) ∧ Below w.heap.size w w' := by
  have hl := g.shp.len
  obtain ⟨f1, f2, f3⟩ := g.shp.funs s hs h3
  have hn1 : 1 ≤ n := by omega
  have hn20 : n ≤ 20 := by omega
  have HH : Hid (HeapAt w h xs tr) := H
  have HF : Hid (∀ k, k < n → s + (k + 1) < xs.length ∧ kndA xs (s + (k + 1)) ≠ 3) := fun k hk => f3 (k + 1) (by omega) (by omega)
  have HBE := behind_any h (4, (s : Int), []) xs tr w g.shp (by simp) (fun h => by simp at h) (fun _ => by simp [funB, h3]; omega) H
  simp only [wv, fW, eW, Int.toNat_natCast, hn] at HBE
  simp only [show ¬ ((4 : Int) = 0) by decide, show ¬ ((4 : Int) = 1) by decide, show ¬ ((4 : Int) = 2) by decide, show ¬ ((4 : Int) = 3) by decide, if_false, if_true] at HBE
  have HFA : Hid (∀ W, HeapAt W h xs tr → Calls Try.prog 102 #[.pointer (some ⟨h, 0, none⟩), .int .i64 (s : Int)] W fun e w' => e = .returned (.agg #[.string (strOfNums (xs.getD s Cel.none).2.2), .int .i64 (n : Int)]) ∧ Below W.heap.size W w') := fun W hW => by
    have := functorAt_any h s xs tr W hl hs h3 hW
    rw [hn] at this
    exact this
  have HIH : Hid (TermOk h xs tr f) := IH
  have HD : Hid (∀ k, k < n → dW xs (drf xs (xs.getD (s + (k + 1)) Cel.none)) < f) := hd
  have HG : Hid (Good xs) := g
  obtain ⟨st, est⟩ : ∃ st, st = strOfNums (xs.getD s Cel.none).2.2 := ⟨_, rfl⟩
  rw [← est] at HFA
  have HES : Hid (st = strOfNums (xs.getD s Cel.none).2.2) := est
  obtain ⟨i0, hi, hz0, hz1, hz2⟩ := info_parts infoTerm
  have hmx : n ≤ maxLen := by unfold maxLen; omega
  have hsI : (s : Int) ≤ 20000 := by omega
  clear H g h3 hn IH hd f1 f2 f3 est
  have hsub : IntKind.i64.wrap ((s : Int) + 1 + (n : Int) - ((s : Int) + 1)) = (n : Int) := by rw [IntKind.wrap_i64]; omega
  go_enter Try.func77, Try.ntmps77
  go_wp2_with fail
  refine HBE.mono ?_
  rintro e w1 ⟨rfl, hb1⟩
  have HB1 : Hid (Below w.heap.size w w1) := hb1
  clear hb1 HBE
  go_wp2_with (at_make; refine wpList_make_full _ rfl _ _ 157 rfl w1.heap.size 80 i0 .nilIface 1 Try.underlying157 hi hz0 hz1 _ _ _ _ n rfl rfl rfl rfl (by rw [hz2]; omega) hmx (Nat.le_refl _) ?_; intro w2 hown hgrow)
  have HO2 : Hid (w2.ownsRow w1.heap.size 80 1 (.slice (some ⟨w1.heap.size, 0, none⟩) n n) n ([] ++ List.replicate (n - 0) .nilIface)) := by
    have := hown
    simp [Value.cells, toList_madeCells_one] at this
    exact this
  have hb2 : Below w1.heap.size w1 w2 := (Below.refl _ _).grown hgrow (Nat.le_refl _) (fun k h => by cases h)
  have HB2 : Hid (Below w.heap.size w w2) := Below.on HB1.out hb2
  have hgr : w.heap.size ≤ w1.heap.size := HB1.out.size
  have hgs : w1.heap.size < w2.heap.size := (HO2.out.lt w1.heap.size rfl).2
  clear hown hgrow hb2 hi hz0 hz1 hz2 hmx hsub
  generalize w1.heap.size = gr at HO2 hgr hgs ⊢
  go_loopw [2, 11] (fun q i wr => ∃ (j : Nat) (rm : Int) (vs : List Value), j ≤ n ∧ -1 ≤ rm ∧ rm ≤ 2000 ∧ q = .int .i64 rm ∧ i = .int .i64 j ∧ Hid (vs.length = j) ∧ Hid (wr.ownsRow gr 80 1 (.slice (some ⟨gr, 0, none⟩) n n) n (vs ++ List.replicate (n - j) .nilIface)) ∧ Hid (0 ≤ rm → rm = room - aZ xs f s j ∧ FoIn wr (gr + 1) (argF xs f s j) vs) ∧ Hid (rm < 0 → room < aZ xs f s n ∧ rm = -1) ∧ Hid (Below w.heap.size w wr) ∧ Hid (gr < wr.heap.size)) (fun _ i _ => n - (intOf i).toNat)
  case atStart => exact ⟨0, room, [], Nat.zero_le _, hr0, hr1, rfl, rfl, rfl, HO2, (fun _ => ⟨by rw [aZ_zero]; simp, rfl⟩), (fun hh => ⟨by omega, by omega⟩), HB2, hgs⟩
  case round =>
    obtain ⟨j, rm, vs, hj, hm0, hm1, rfl, rfl, HV, HR, HP, HN, HB, HS⟩ := hrel
    have HHr : Hid (HeapAt wr h xs tr) := HH.out.below HB.out
    by_cases hgo : j < n ∧ 0 ≤ rm
    · obtain ⟨hlt, hrm⟩ := hgo
      obtain ⟨ht1, ht2⟩ := HF.out j hlt
      have hcall := HIH.out (xs.getD (s + (j + 1)) Cel.none) rm wr (HG.out.at ht1 ht2) (HD.out j hlt) hrm hm1 HHr.out
      obtain ⟨pw, cw, pt, ct, h0, _, hwin, _⟩ := HHr.out
      obtain ⟨gw, rfl, hcs⟩ := hwin (by omega)
      have hv := hcs _ ht1
      obtain ⟨tt, ett⟩ : ∃ t : Nat, t = s + (j + 1) := ⟨_, rfl⟩
      rw [← ett] at hv ht1
      have hwr : IntKind.i64.wrap ((s : Int) + 1 + (j : Int)) = (tt : Int) := by rw [show (s : Int) + 1 + (j : Int) = tt by omega, IntKind.wrap_i64]; omega
      have HZ : Hid (aZ xs f s (j + 1) = aZ xs f s j + (gF xs f (xs.getD (s + (j + 1)) Cel.none)).cells.length) := aZ_succ xs f s j
      have HAF : Hid (argF xs f s (j + 1) = (argF xs f s j).cat (gF xs f (xs.getD (s + (j + 1)) Cel.none))) := argF_succ xs f s j
      have HMN : Hid (aZ xs f s (j + 1) ≤ aZ xs f s n) := aZ_mono xs f s (by omega)
      have hv' : wr.cell? ⟨gw, tt, none⟩ = some (wv (xs.getD (s + (j + 1)) Cel.none)) := by rw [hv, ett]
      clear hv
      obtain ⟨wt, wy, ewv⟩ := wv_iface (xs.getD (s + (j + 1)) Cel.none)
      rw [ewv] at hcall hv'
      generalize gF xs f (xs.getD (s + (j + 1)) Cel.none) = Fx at hcall HZ HAF
      clear ewv hcs hwin ett ht2
      go_wp2_with fail
      refine hcall.mono ?_
      rintro e w3 ⟨ty, y, rfl, hfo, hb3⟩
      obtain ⟨rm', erm⟩ : ∃ r, r = leftR rm Fx.cells.length := ⟨_, rfl⟩
      rw [← erm]
      have hrmb : -1 ≤ rm' ∧ rm' ≤ 2000 := by
        rw [erm]; unfold leftR
        split <;> omega
      have hsl := HS.out
      have d0 : w3.cell? ⟨gr, j, none⟩ = some .nilIface := by
        rw [hb3.cell (p := ⟨gr, j, none⟩) hsl, HR.out.cellAt j (by omega), List.getElem?_append_right (by have := HV.out; omega), List.getElem?_replicate, if_pos (by have := HV.out; omega)]
      have d1 : w3.frozen? ⟨gr, j, none⟩ = false := (hb3.frozen (p := ⟨gr, j, none⟩) hsl).trans (HR.out.frozenAt j)
      have HP3 : Hid (0 ≤ rm' → rm' = room - aZ xs f s (j + 1) ∧ FoIn (w3.setCell ⟨gr, j, none⟩ (.iface ty y)) (gr + 1) (argF xs f s (j + 1)) (vs ++ [.iface ty y])) := fun hh => by
        rw [erm] at hh ⊢
        unfold leftR at hh ⊢
        by_cases hz : (Fx.cells.length : Int) ≤ rm
        · rw [if_pos hz]
          obtain ⟨p1, p2⟩ := HP.out hrm
          refine ⟨by rw [HZ.out]; push_cast; omega, ?_⟩
          rw [HAF.out]
          exact (FoIn.cat _ _ _ _ (p2.below hb3) ((hfo hz).mono (by omega))).setCell (a := ⟨gr, j, none⟩) (Nat.lt_succ_self _) _
        · rw [if_neg hz] at hh; omega
      have HN3 : Hid (rm' < 0 → room < aZ xs f s n ∧ rm' = -1) := fun hh => by
        rw [erm] at hh ⊢
        unfold leftR at hh ⊢
        by_cases hz : (Fx.cells.length : Int) ≤ rm
        · rw [if_pos hz] at hh; omega
        · rw [if_neg hz]
          obtain ⟨p1, p2⟩ := HP.out hrm
          have h1 := HZ.out
          have h2 := HMN.out
          exact ⟨by omega, rfl⟩
      have HR3 : Hid _ := row_next (row_below HR.out hb3) HV.out hlt (Value.iface ty y)
      have HB3 : Hid (Below w.heap.size w (w3.setCell ⟨gr, j, none⟩ (.iface ty y))) := (Below.on HB.out hb3).setCell (p := ⟨gr, j, none⟩) hgr _
      have HS3 : Hid (gr < (w3.setCell ⟨gr, j, none⟩ (.iface ty y)).heap.size) := by show _ < _; have := hb3.size; simp; omega
      have HV3 : Hid ((vs ++ [Value.iface ty y]).length = j + 1) := by show _ = _; simp [HV.out]
      obtain ⟨hrm1, hrm2⟩ := hrmb
      clear hfo hb3 erm hcall HZ HAF HMN HP HN HR HV h0 hv'
      go_wp2
      go_roundw
      case rel => exact ⟨j + 1, rm', _, by omega, hrm1, hrm2, rfl, by go_num, HV3, HR3, HP3, HN3, HB3, HS3⟩
      case measure => simp [intOf]; omega
    · have hcall := HFA.out wr HHr.out
      have HEND : Hid (leftR room (aZ xs f s n) = rm ∧ ((aZ xs f s n : Int) ≤ room → j = n ∧ FoIn wr (gr + 1) (argF xs f s n) vs)) := by
        by_cases hrm : 0 ≤ rm
        · have hjn : j = n := by omega
          subst hjn
          obtain ⟨p1, p2⟩ := HP.out hrm
          exact ⟨by unfold leftR; rw [if_pos (by omega)]; omega, fun _ => ⟨rfl, p2⟩⟩
        · obtain ⟨p1, p2⟩ := HN.out (by omega)
          exact ⟨by unfold leftR; rw [if_neg (by omega)]; omega, fun hh => absurd hh (by omega)⟩
      have hcond : ¬ ((j : Int) < (n : Int)) ∨ ((j : Int) < (n : Int) ∧ ¬ (0 ≤ rm)) := by omega
      clear hgo HHr HP HN HFA HIH HD
      rcases hcond with hc1 | ⟨hc1, hc2⟩
      all_goals
        go_wp2_with fail
        refine hcall.mono ?_
        rintro e w4 ⟨rfl, hb4⟩
        have HF4 : Hid ((aZ xs f s n : Int) ≤ room → FoIn (w4.alloc (.cells #[.string st, .slice (some ⟨gr, 0, none⟩) n n] 161)) w.heap.size (.node (3, (n : Int), (xs.getD s Cel.none).2.2) (argF xs f s n) .nil) [.iface 158 (.pointer (some ⟨w4.heap.size, 0, none⟩))]) := fun hh => by
          obtain ⟨q1, q2⟩ := HEND.out.2 hh
          have hbx := Below.on hb4 (alloc_on w4 (.cells #[.string st, .slice (some ⟨gr, 0, none⟩) n n] 161))
          have hvn : vs.length = n := by rw [HV.out, q1]
          have hnew := heap_alloc_new w4 (.cells #[.string st, .slice (some ⟨gr, 0, none⟩) n n] 161)
          have hbx2 := Box2.of_block hnew
          have hs4 := HS.out
          have hs5 := hbx.size
          have hs6 := hb4.size
          refine ⟨_, [], rfl, .inr (.inr (.inr ⟨rfl, w4.heap.size, gr, vs, rfl, by omega, hgr, ?_, ?_, by omega, fun i hi => ?_, (q2.below hbx).mono (by omega)⟩)), rfl⟩
          · rw [← HES.out]; exact hbx2.1
          · rw [hvn]; exact hbx2.2.1
          · rw [hbx.cell (p := ⟨gr, i, none⟩) hs4, HR.out.cellAt i (by omega), List.getElem?_append_left hi]
            simp [List.getD, hi]
        have HB4 : Hid (Below w.heap.size w (w4.alloc (.cells #[.string st, .slice (some ⟨gr, 0, none⟩) n n] 161))) := Below.on HB.out (Below.on hb4 (alloc_on _ _))
        clear hb4 hcall HR HV
        have fN := fun W => fldN W st (n : Int)
        go_wp2
        exact bodyPost_ret (v := .tuple #[.iface 158 (.pointer (some ⟨w4.heap.size, 0, none⟩)), .int .i64 rm]) (by simp [results, Try.results77, go_sem]) rfl ⟨_, _, by rw [HEND.out.1], HF4.out, HB4.out⟩

set_option maxHeartbeats 1000000 in
set_option maxRecDepth 100000 in
theorem term_any (h : Nat) (xs : List Cel) (tr : List Int) (g : Good xs) (ho : OkS xs) : ∀ f, TermOk h xs tr f := by
  intro f
  induction f with
  | zero => intro c room w _ hf; exact absurd hf (Nat.not_lt_zero _)
  | succ f ih =>
    intro c room w hc hf hr0 hr1 H
    have HDE := deref_any h c xs tr w g hc H
    have hd := (drf_word g hc).1
    have hl := g.shp.len
    have HH : Hid (HeapAt w h xs tr) := H
    have kd := hd.knd
    obtain ⟨i1, i4, _⟩ := isW (drf xs c) kd
    have i2 := isNum (drf xs c) kd
    have i3 := isAtm (drf xs c) kd
    have hsub : IntKind.i64.wrap (room - 1) = room - 1 := by rw [IntKind.wrap_i64]; omega
    have HLF : Hid ((drf xs c).1 ≠ 4 → ∀ ty y w', Below w.heap.size w w' → NodeIn w' w.heap.size (drf xs c) (fun kv => FoIn w' w.heap.size .nil kv) (.iface ty y) → GtOut (gF xs (f + 1) c) room w (.returned (.tuple #[.iface ty y, .int .i64 (room - 1)])) w') := fun h4 ty y w' hb hn => by
      have hz : (gF xs (f + 1) c).cells.length = 1 := gZ_leaf h4
      refine ⟨ty, y, ?_, fun _ => ?_, hb⟩
      · rw [hz]; unfold leftR
        by_cases hp : (1 : Int) ≤ room
        · rw [if_pos (by exact_mod_cast hp)]; rfl
        · rw [if_neg (by exact_mod_cast hp), show room - 1 = -1 by omega]
      · rw [gF_leaf h4]; exact ⟨_, [], rfl, hn, rfl⟩
    have HCO : Hid ((drf xs c).1 = 4 → ∀ W, Below w.heap.size w W → Calls Try.prog 77 #[.pointer (some ⟨h, 0, none⟩), .int .i64 (drf xs c).2.1, .int .i64 (room - 1)] W fun e w' => ∃ ty y r, e = .returned (.tuple #[.iface ty y, .int .i64 r]) ∧ GtOut (gF xs (f + 1) c) room w (.returned (.tuple #[.iface ty y, .int .i64 r])) w') := fun h4 W hW => by
      obtain ⟨s0, s1, s2⟩ := hd.2.2 h4
      obtain ⟨s, es⟩ : ∃ s : Nat, (drf xs c).2.1 = s := ⟨(drf xs c).2.1.toNat, by omega⟩
      have hda := fun (k : Nat) (hk : (k : Int) < numA xs (drf xs c).2.1.toNat) => dW_arg g hd h4 hk
      rw [es] at s0 s1 s2 hda ⊢
      simp only [Int.toNat_natCast] at s2 hda
      obtain ⟨f1, f2, f3⟩ := g.shp.funs s (by omega) s2
      obtain ⟨n, en⟩ : ∃ n : Nat, numA xs s = n := ⟨(numA xs s).toNat, by omega⟩
      rw [en] at hda
      refine (compound_any h s n f (room - 1) xs tr W g (by omega) s2 en (by omega) (by omega) ih (fun k hk => by have := hda k (by omega); omega) (H.below hW)).mono ?_
      rintro e w' ⟨ty, y, rfl, hfo, hb⟩
      have hz : (gF xs (f + 1) c).cells.length = 1 + aZ xs f s n := gZ_comp h4 s n es en
      refine ⟨ty, y, _, rfl, ty, y, ?_, fun hh => ?_, Below.on hW hb⟩
      · rw [hz]; unfold leftR
        by_cases hp : (aZ xs f s n : Int) ≤ room - 1
        · rw [if_pos hp, if_pos (by push_cast; omega)]; push_cast; rw [show room - 1 - (aZ xs f s n : Int) = room - (1 + (aZ xs f s n : Int)) by omega]
        · rw [if_neg hp, if_neg (by push_cast; omega)]
      · rw [hz] at hh
        rw [gF_comp h4 s n es en]
        exact (hfo (by push_cast at hh; omega)).mono hW.size
    generalize gF xs (f + 1) c = Fx at HLF HCO ⊢
    generalize drf xs c = d at HDE i1 i2 i3 i4 HLF HCO hd kd
    obtain ⟨k, n, t⟩ := d
    simp only at i1 i2 i3 i4 HLF HCO
    have hk := hd.1
    simp only at hk
    obtain ⟨v, ev⟩ : ∃ v, v = wv (k, n, t) := ⟨_, rfl⟩
    rw [← ev] at HDE i1 i2 i3 i4
    obtain ⟨vc, evc⟩ : ∃ v, v = wv c := ⟨_, rfl⟩
    rw [← evc] at HDE ⊢
    clear ev evc hd kd ih hf H g ho
    rcases hk with rfl | rfl | rfl | rfl
    all_goals simp only [show ¬ ((0 : Int) = 1) by decide, show ¬ ((0 : Int) = 2) by decide, show ¬ ((0 : Int) = 4) by decide, show ¬ ((1 : Int) = 0) by decide, show ¬ ((1 : Int) = 2) by decide, show ¬ ((1 : Int) = 4) by decide, show ¬ ((2 : Int) = 0) by decide, show ¬ ((2 : Int) = 1) by decide, show ¬ ((2 : Int) = 4) by decide, show ¬ ((4 : Int) = 0) by decide, show ¬ ((4 : Int) = 1) by decide, show ¬ ((4 : Int) = 2) by decide, if_true, if_false, decide_true, decide_false] at i1 i2 i3 i4
    · go_enter Try.func52, Try.ntmps52
      go_wp2_with fail
      refine HDE.mono ?_
      rintro e w1 ⟨rfl, hb1⟩
      have HB1 : Hid (Below w.heap.size w w1) := hb1
      clear hb1 HDE
      go_wp2
      exact bodyPost_ret (v := .tuple #[.iface 120 (.int .i64 n), .int .i64 (room - 1)]) (by simp [results, Try.results52, go_sem]) rfl (HLF.out (by decide) _ _ _ HB1.out (.inl ⟨rfl, rfl⟩))
    · go_enter Try.func52, Try.ntmps52
      go_wp2_with fail
      refine HDE.mono ?_
      rintro e w1 ⟨rfl, hb1⟩
      have HB1 : Hid (Below w.heap.size w w1) := hb1
      clear hb1 HDE
      go_wp2
      exact bodyPost_ret (v := .tuple #[.iface 121 (.int .i64 n), .int .i64 (room - 1)]) (by simp [results, Try.results52, go_sem]) rfl (HLF.out (by decide) _ _ _ HB1.out (.inr (.inl ⟨rfl, rfl⟩)))
    · obtain ⟨st, est⟩ : ∃ st, st = strOfNums t := ⟨_, rfl⟩
      rw [← est] at i3
      have HST : Hid (st = strOfNums t) := est
      clear est
      go_enter Try.func52, Try.ntmps52
      go_wp2_with fail
      refine HDE.mono ?_
      rintro e w1 ⟨rfl, hb1⟩
      have HB1 : Hid (Below w.heap.size w w1) := hb1
      clear hb1 HDE
      go_wp2
      exact bodyPost_ret (v := .tuple #[.iface 122 (.string st), .int .i64 (room - 1)]) (by simp [results, Try.results52, go_sem]) rfl (HLF.out (by decide) _ _ _ HB1.out (.inr (.inr (.inl ⟨rfl, by rw [HST.out]⟩))))
    · go_enter Try.func52, Try.ntmps52
      go_wp2_with fail
      refine HDE.mono ?_
      rintro e w1 ⟨rfl, hb1⟩
      have hcall := HCO.out trivial w1 hb1
      clear hb1 HDE HLF HCO
      go_wp2_with fail
      refine hcall.mono ?_
      rintro e w2 ⟨ty, y, r, rfl, hout⟩
      have HOUT : Hid _ := hout
      clear hcall hout
      go_wp2
      exact bodyPost_ret (v := .tuple #[.iface ty y, .int .i64 r]) (by simp [results, Try.results52, go_sem]) rfl HOUT.out

end Go.Proofs.Ytfnmoaiejpkocaa

