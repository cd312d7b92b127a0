/- Texts of NbP, FnC, IrC, IbI, IrI. Own work of the verifier. -/
import Derived.Test.YtfgaenggbbgboaaGreatDoorUqae
import Derived.Test.YtfgaenggbbgboaaGreatDoorUqan
import Derived.Test.YtfgaenggbbgboaaGreatDoorUqad
import Derived.Test.YtfgaenggbbgboaaGreatDoorUqai
import Derived.Test.YtfgaenggbbgboaaGreatDoorUqak
import Derived.Deep.RegionHeld3
import Derived.Test.YtfgaenggbbgboaaGreatDoorUqaa
namespace Go.Proofs.YtfgaenggbbgboaaGreatDoor
open Go Go.RowKit
set_option linter.unusedVariables false
abbrev nOnce : List Int := [111, 110, 99, 101]
abbrev nAll : List Int := [102, 111, 114, 97, 108, 108]
abbrev nCall : List Int := [99, 97, 108, 108]
abbrev nTrue : List Int := [116, 114, 117, 101]
def conC (c : Cel) : Bool := c.1 == 3 && ((c.2.1 == 2 && (c.2.2 == [44] || c.2.2 == [59] || c.2.2 == [45, 62] || c.2.2 == nAll)) || (c.2.1 == 1 && (c.2.2 == [92, 43] || c.2.2 == nOnce)))
def normK (c : Cel) (k : Fo) : Fo :=
  if c.2.2 = nOnce then .node (3, 2, [45, 62]) (k.cat (.node (2, 0, nTrue) .nil .nil)) .nil
  else if c.2.2 = nAll then (match k with
    | .node a ka (.node b kb r) => .node (3, 1, [92, 43]) (.node (3, 2, [44]) (.node a ka (.node (3, 1, [92, 43]) (.node b kb r) .nil)) .nil) .nil
    | k => k)
  else .node c k .nil
theorem normK_once {c : Cel} {k : Fo} (h : c.2.2 = nOnce) : normK c k = .node (3, 2, [45, 62]) (k.cat (.node (2, 0, nTrue) .nil .nil)) .nil := by unfold normK; rw [if_pos h]
theorem normK_all {c : Cel} {a b : Cel} {ka kb r : Fo} (h : c.2.2 = nAll) : normK c (.node a ka (.node b kb r)) = .node (3, 1, [92, 43]) (.node (3, 2, [44]) (.node a ka (.node (3, 1, [92, 43]) (.node b kb r) .nil)) .nil) .nil := by unfold normK; rw [if_neg (by rw [h]; decide), if_pos h]
theorem normK_else {c : Cel} {k : Fo} (h : ¬ c.2.2 = nOnce) (h2 : ¬ c.2.2 = nAll) : normK c k = .node c k .nil := by unfold normK; rw [if_neg h, if_neg h2]
def normH (c : Cel) (k : Fo) (nk : Option Fo) : Option Fo :=
  if c.1 = 0 then some (.node (3, 1, nCall) (.node c .nil .nil) .nil)
  else if c.1 = 1 ∨ dolL c.2.2 = true then none
  else if conC c = true then nk.map (normK c)
  else some (.node c k .nil)
def catO : Option Fo → Option Fo → Option Fo
  | some a, some b => some (a.cat b)
  | _, _ => none
def normF : Fo → Option Fo
  | .nil => some .nil
  | .node c k r => catO (normH c k (normF k)) (normF r)
def normT (c : Cel) (k : Fo) : Option Fo := normH c k (normF k)
theorem normF_one (c : Cel) (k : Fo) : normF (.node c k .nil) = normT c k := by
  rw [normF, normF, normT]
  cases normH c k (normF k) with
  | none => rfl
  | some a => simp [catO, Fo.cat_nil]
theorem catO_assoc (a b c : Option Fo) : catO (catO a b) c = catO a (catO b c) := by
  cases a <;> cases b <;> cases c <;> simp [catO, Fo.cat_assoc]
theorem normF_cat : ∀ a b : Fo, normF (a.cat b) = catO (normF a) (normF b)
  | .nil, b => by simp only [Fo.cat, normF]; cases normF b <;> rfl
  | .node c k r, b => by simp only [Fo.cat, normF, normF_cat r b, catO_assoc]
theorem conC_comp {c : Cel} (h : conC c = true) : c.1 = 3 := by
  simp only [conC, Bool.and_eq_true, beq_iff_eq] at h
  exact h.1
theorem count_one {k : Fo} (h : k.count = 1) : ∃ c k', k = .node c k' .nil := by
  cases k with
  | nil => simp [Fo.count] at h
  | node c k' r =>
    cases r with
    | nil => exact ⟨c, k', rfl⟩
    | node a b d => simp [Fo.count] at h
theorem count_two {k : Fo} (h : k.count = 2) : ∃ a ka b kb, k = .node a ka (.node b kb .nil) := by
  cases k with
  | nil => simp [Fo.count] at h
  | node c k' r =>
    obtain ⟨b, kb, rfl⟩ := count_one (k := r) (by simpa [Fo.count] using h)
    exact ⟨c, k', b, kb, rfl⟩
theorem byte_of {s : List Int} (h : s.all (fun x => decide (0 ≤ x ∧ x < 256)) = true) : Byte s := fun x hx => by
  have := List.all_eq_true.1 h x hx
  simpa using this
theorem normK_ok {c : Cel} {k : Fo} (hcb : cellB c.1 c.2.1 c.2.2.length = true) (hby : Byte c.2.2) (hc : conC c = true) (hk : k.ok) (hn : c.2.1 = k.count) :
    (normK c k).ok ∧ (normK c k).count = 1 ∧ (normK c k).cells.length ≤ k.cells.length + 3 := by
  have h3 := conC_comp hc
  simp only [conC, Bool.and_eq_true, Bool.or_eq_true, beq_iff_eq] at hc
  unfold normK
  by_cases e1 : c.2.2 = nOnce
  · rw [if_pos e1]
    have h1 : c.2.1 = 1 := by
      rcases hc.2 with h | h
      · rw [e1] at h; simp at h
      · exact h.1
    have hk1 : k.count = 1 := by omega
    refine ⟨⟨rfl, byte_of rfl, fun _ => ?_, fun h => absurd rfl h, (Fo.ok_cat _ _).2 ⟨hk, rfl, byte_of rfl, fun h => (by cases h), fun _ => rfl, trivial, trivial⟩, trivial⟩, rfl, ?_⟩
    · rw [Fo.count_cat, hk1]; rfl
    · simp [Fo.cells, Fo.cells_cat]
  · rw [if_neg e1]
    by_cases e2 : c.2.2 = nAll
    · rw [if_pos e2]
      have h1 : c.2.1 = 2 := by
        rcases hc.2 with h | h
        · exact h.1
        · rw [e2] at h; simp at h
      obtain ⟨a, ka, b, kb, rfl⟩ := count_two (k := k) (by omega)
      simp only [Fo.ok] at hk
      refine ⟨⟨rfl, byte_of rfl, fun _ => rfl, fun h => absurd rfl h, ⟨rfl, byte_of rfl, fun _ => rfl, fun h => absurd rfl h, ?_, trivial⟩, trivial⟩, rfl, ?_⟩
      · exact ⟨hk.1, hk.2.1, hk.2.2.1, hk.2.2.2.1, hk.2.2.2.2.1, rfl, byte_of rfl, fun _ => rfl, fun h => absurd rfl h, hk.2.2.2.2.2, trivial⟩
      · simp [Fo.cells]; omega
    · rw [if_neg e2]
      refine ⟨⟨hcb, hby, fun _ => hn, fun h => absurd h3 h, hk, trivial⟩, rfl, ?_⟩
      simp [Fo.cells]
theorem normF_ok : ∀ (F G : Fo), normF F = some G → F.ok → G.ok ∧ G.count = F.count ∧ G.cells.length ≤ 3 * F.cells.length
  | .nil, G, h, _ => by
    simp only [normF, Option.some.injEq] at h
    subst h
    exact ⟨trivial, rfl, by simp [Fo.cells]⟩
  | .node c k r, G, h, hok => by
    simp only [normF] at h
    obtain ⟨hcb, hby, h3, hn3, hk, hr⟩ := hok
    cases ha : normH c k (normF k) with
    | none => rw [ha] at h; simp [catO] at h
    | some a =>
      cases hb : normF r with
      | none => rw [ha, hb] at h; simp [catO] at h
      | some b =>
        rw [ha, hb] at h
        simp only [catO, Option.some.injEq] at h
        subst h
        obtain ⟨i1, i2, i3⟩ := normF_ok r b hb hr
        have key : a.ok ∧ a.count = 1 ∧ a.cells.length ≤ 3 * (k.cells.length + 1) := by
          unfold normH at ha
          by_cases e0 : c.1 = 0
          · rw [if_pos e0] at ha
            cases ha
            refine ⟨⟨rfl, byte_of rfl, fun _ => rfl, fun h => absurd rfl h, ⟨hcb, hby, fun h => ?_, fun _ => rfl, trivial, trivial⟩, trivial⟩, rfl, ?_⟩
            · omega
            · simp [Fo.cells]; omega
          · rw [if_neg e0] at ha
            by_cases e1 : c.1 = 1 ∨ dolL c.2.2 = true
            · rw [if_pos e1] at ha; cases ha
            · rw [if_neg e1] at ha
              by_cases e2 : conC c = true
              · rw [if_pos e2] at ha
                cases hk' : normF k with
                | none => rw [hk'] at ha; cases ha
                | some k' =>
                  rw [hk'] at ha
                  simp only [Option.map_some, Option.some.injEq] at ha
                  subst ha
                  obtain ⟨j1, j2, j3⟩ := normF_ok k k' hk' hk
                  obtain ⟨l1, l2, l3⟩ := normK_ok hcb hby e2 j1 (by rw [j2]; exact h3 (conC_comp e2))
                  exact ⟨l1, l2, by omega⟩
              · rw [if_neg e2] at ha
                cases ha
                exact ⟨⟨hcb, hby, h3, hn3, hk, trivial⟩, rfl, by simp [Fo.cells]; omega⟩
        exact ⟨(Fo.ok_cat _ _).2 ⟨key.1, i1⟩, by rw [Fo.count_cat, key.2.1, i2]; simp only [Fo.count]; omega, by rw [Fo.cells_cat]; simp only [List.length_append, Fo.cells, List.length_cons]; have := key.2.2; omega⟩
theorem normT_ok {c : Cel} {k G : Fo} (h : normT c k = some G) (hok : (Fo.node c k .nil).ok) : ∃ c' k', G = .node c' k' .nil ∧ G.ok ∧ G.cells.length ≤ 3 * (k.cells.length + 1) := by
  rw [← normF_one] at h
  obtain ⟨h1, h2, h3⟩ := normF_ok _ _ h hok
  obtain ⟨c', k', rfl⟩ := count_one (k := G) h2
  exact ⟨c', k', rfl, h1, by simpa [Fo.cells] using h3⟩
end Go.Proofs.YtfgaenggbbgboaaGreatDoor

namespace Go.Proofs.YtfgaenggbbgboaaGreatDoor
open Go Go.RowKit
set_option linter.unusedVariables false
def dolB (s : ByteArray) : Bool := decide (1 ≤ s.size) && ((s.extract 0 1).toList == [36])
theorem hasPre_any (s : ByteArray) (w : World) (hs : s.size ≤ 1000000000) : Calls Tryz.prog 99 #[.string s, .string ⟨#[36]⟩] w fun e w' => e = .returned (.bool (dolB s)) ∧ w' = w := by
  have HR : Hid (dolB s = (decide (1 ≤ s.size) && ((s.extract 0 1).toList == [36]))) := rfl
  have HF : Hid (∀ b, b = dolB s → Ending.returned (.bool b) = .returned (.bool (dolB s))) := fun b h => ret_bool h
  obtain ⟨n, en⟩ : ∃ n, n = s.size := ⟨_, rfl⟩
  by_cases h1 : 1 ≤ s.size
  · have e1 : decide (1 ≤ s.size) = true := by simpa using h1
    rw [e1] at HR
    have h1' : decide ((1 : Int) ≤ (s.size : Int)) = true := by simp; omega
    cases h2 : ((s.extract 0 1).toList == [36])
    all_goals
      rw [h2] at HR
      go_enter Tryz.func99, Tryz.ntmps99
      go_wp2_with fail
      go_ret
      exact ⟨HF.out _ HR.out.symm, rfl⟩
  · have e1 : decide (1 ≤ s.size) = false := by simpa using h1
    rw [e1] at HR
    have h1' : decide ((1 : Int) ≤ (s.size : Int)) = false := by simp; omega
    go_enter Tryz.func99, Tryz.ntmps99
    go_wp2_with fail
    go_ret
    exact ⟨HF.out _ HR.out.symm, rfl⟩
theorem hasPrefixS_any (s : ByteArray) (w : World) (hs : s.size ≤ 1000000000) : Calls Tryz.prog 87 #[.string s, .string ⟨#[36]⟩] w fun e w' => e = .returned (.bool (dolB s)) ∧ w' = w := by
  have H := hasPre_any s w hs
  clear hs
  go_enter Tryz.func87, Tryz.ntmps87
  go_wp2_with (go_at_call 99; refine H.mono ?_; rintro e w' ⟨rfl, rfl⟩)
  go_ret
  exact ⟨rfl, rfl⟩
theorem isNew_any (s : ByteArray) (a : Int) (w : World) (hs : s.size ≤ 1000000000) : Calls Tryz.prog 69 #[.agg #[.string s, .int .i64 a]] w fun e w' => e = .returned (.bool (dolB s)) ∧ Below w.heap.size w w' := by
  have H := fun W => hasPrefixS_any s W hs
  clear hs
  go_enter Tryz.func69, Tryz.ntmps69
  go_wp2_with (go_at_call 87; refine (H _).mono ?_; rintro e w' ⟨rfl, rfl⟩)
  go_ret
  exact ⟨rfl, (Below.refl _ _).alloc (Nat.le_refl _) _⟩
end Go.Proofs.YtfgaenggbbgboaaGreatDoor

namespace Go.Proofs.YtfgaenggbbgboaaGreatDoor
open Go Go.RowKit
set_option linter.unusedVariables false
def ctlB (s : ByteArray) (a : Int) : Bool := if s.toList == [99, 97, 108, 108] then (decide (1 ≤ a) && decide (a ≤ 8)) else if s.toList == [102, 105, 110, 100, 97, 108, 108] || s.toList == [99, 97, 116, 99, 104] || s.toList == [98, 101, 116, 119, 101, 101, 110] then a == 3 else if s.toList == [116, 104, 114, 111, 119] || s.toList == [97, 115, 115, 101, 114, 116, 97] || s.toList == [97, 115, 115, 101, 114, 116, 122] || s.toList == [114, 101, 116, 114, 97, 99, 116] then a == 1 else if s.toList == [104, 97, 108, 116] then a == 0 else if s.toList == [112, 104, 114, 97, 115, 101] then (a == 2 || a == 3) else false
set_option maxRecDepth 100000 in
theorem isControl_any (s : ByteArray) (a : Int) (w : World) : Calls Tryz.prog 72 #[.agg #[.string s, .int .i64 a]] w fun e w' => e = .returned (.bool (ctlB s a)) ∧ Below w.heap.size w w' := by
  have HB : Hid (∀ o, Below w.heap.size w (w.alloc o)) := fun o => (Below.refl _ _).alloc (Nat.le_refl _) _
  have HF : Hid (∀ b, b = ctlB s a → Ending.returned (.bool b) = .returned (.bool (ctlB s a))) := fun b h => ret_bool h
  have HR : Hid (ctlB s a = (if s.toList == [99, 97, 108, 108] then (decide (1 ≤ a) && decide (a ≤ 8)) else if s.toList == [102, 105, 110, 100, 97, 108, 108] || s.toList == [99, 97, 116, 99, 104] || s.toList == [98, 101, 116, 119, 101, 101, 110] then a == 3 else if s.toList == [116, 104, 114, 111, 119] || s.toList == [97, 115, 115, 101, 114, 116, 97] || s.toList == [97, 115, 115, 101, 114, 116, 122] || s.toList == [114, 101, 116, 114, 97, 99, 116] then a == 1 else if s.toList == [104, 97, 108, 116] then a == 0 else if s.toList == [112, 104, 114, 97, 115, 101] then (a == 2 || a == 3) else false)) := rfl
  cases h0 : (s.toList == [99, 97, 108, 108])
  rotate_left
  · rw [h0] at HR
    by_cases lo : 1 ≤ a
    · have g0 : decide (1 ≤ a) = true := by simpa using lo
      by_cases hi : a ≤ 8
      · have g1 : decide (a ≤ 8) = true := by simpa using hi
        rw [g0, g1] at HR
        go_enter Tryz.func72, Tryz.ntmps72
        go_wp2_with fail
        go_ret
        exact ⟨HF.out _ (by rw [HR.out]; rfl), HB.out _⟩
      · have g1 : decide (a ≤ 8) = false := by simpa using hi
        rw [g0, g1] at HR
        go_enter Tryz.func72, Tryz.ntmps72
        go_wp2_with fail
        go_ret
        exact ⟨HF.out _ (by rw [HR.out]; rfl), HB.out _⟩
    · have g0 : decide (1 ≤ a) = false := by simpa using lo
      rw [g0] at HR
      go_enter Tryz.func72, Tryz.ntmps72
      go_wp2_with fail
      go_ret
      exact ⟨HF.out _ (by rw [HR.out]; rfl), HB.out _⟩
  cases h1 : (s.toList == [102, 105, 110, 100, 97, 108, 108])
  rotate_left
  · rw [h0, h1] at HR
    go_enter Tryz.func72, Tryz.ntmps72
    go_wp2_with fail
    go_ret
    exact ⟨HF.out _ (by rw [HR.out]; first | rfl | (rw [Bool.eq_iff_iff]; simp)), HB.out _⟩
  cases h2 : (s.toList == [99, 97, 116, 99, 104])
  rotate_left
  · rw [h0, h1, h2] at HR
    go_enter Tryz.func72, Tryz.ntmps72
    go_wp2_with fail
    go_ret
    exact ⟨HF.out _ (by rw [HR.out]; first | rfl | (rw [Bool.eq_iff_iff]; simp)), HB.out _⟩
  cases h3 : (s.toList == [98, 101, 116, 119, 101, 101, 110])
  rotate_left
  · rw [h0, h1, h2, h3] at HR
    go_enter Tryz.func72, Tryz.ntmps72
    go_wp2_with fail
    go_ret
    exact ⟨HF.out _ (by rw [HR.out]; first | rfl | (rw [Bool.eq_iff_iff]; simp)), HB.out _⟩
  cases h4 : (s.toList == [116, 104, 114, 111, 119])
  rotate_left
  · rw [h0, h1, h2, h3, h4] at HR
    go_enter Tryz.func72, Tryz.ntmps72
    go_wp2_with fail
    go_ret
    exact ⟨HF.out _ (by rw [HR.out]; first | rfl | (rw [Bool.eq_iff_iff]; simp)), HB.out _⟩
  cases h5 : (s.toList == [97, 115, 115, 101, 114, 116, 97])
  rotate_left
  · rw [h0, h1, h2, h3, h4, h5] at HR
    go_enter Tryz.func72, Tryz.ntmps72
    go_wp2_with fail
    go_ret
    exact ⟨HF.out _ (by rw [HR.out]; first | rfl | (rw [Bool.eq_iff_iff]; simp)), HB.out _⟩
  cases h6 : (s.toList == [97, 115, 115, 101, 114, 116, 122])
  rotate_left
  · rw [h0, h1, h2, h3, h4, h5, h6] at HR
    go_enter Tryz.func72, Tryz.ntmps72
    go_wp2_with fail
    go_ret
    exact ⟨HF.out _ (by rw [HR.out]; first | rfl | (rw [Bool.eq_iff_iff]; simp)), HB.out _⟩
  cases h7 : (s.toList == [114, 101, 116, 114, 97, 99, 116])
  rotate_left
  · rw [h0, h1, h2, h3, h4, h5, h6, h7] at HR
    go_enter Tryz.func72, Tryz.ntmps72
    go_wp2_with fail
    go_ret
    exact ⟨HF.out _ (by rw [HR.out]; first | rfl | (rw [Bool.eq_iff_iff]; simp)), HB.out _⟩
  cases h8 : (s.toList == [104, 97, 108, 116])
  rotate_left
  · rw [h0, h1, h2, h3, h4, h5, h6, h7, h8] at HR
    go_enter Tryz.func72, Tryz.ntmps72
    go_wp2_with fail
    go_ret
    exact ⟨HF.out _ (by rw [HR.out]; first | rfl | (rw [Bool.eq_iff_iff]; simp)), HB.out _⟩
  cases h9 : (s.toList == [112, 104, 114, 97, 115, 101])
  rotate_left
  · rw [h0, h1, h2, h3, h4, h5, h6, h7, h8, h9] at HR
    cases g0 : (a == 2) <;> cases g1 : (a == 3)
    all_goals
      rw [g0, g1] at HR
      go_enter Tryz.func72, Tryz.ntmps72
      go_wp2_with fail
      go_ret
      exact ⟨HF.out _ (by rw [HR.out]; first | rfl | (rw [Bool.eq_iff_iff]; simp)), HB.out _⟩
  rw [h0, h1, h2, h3, h4, h5, h6, h7, h8, h9] at HR
  go_enter Tryz.func72, Tryz.ntmps72
  go_wp2_with fail
  go_ret
  exact ⟨HF.out _ (by rw [HR.out]; first | rfl | (rw [Bool.eq_iff_iff]; simp)), HB.out _⟩
def senB (s : ByteArray) (a : Int) : Bool := if s.toList == [58, 45] then (a == 1 || a == 2) else if s.toList == [45, 45, 62] then a == 2 else false
set_option maxRecDepth 100000 in
theorem isSentence_any (s : ByteArray) (a : Int) (w : World) : Calls Tryz.prog 73 #[.agg #[.string s, .int .i64 a]] w fun e w' => e = .returned (.bool (senB s a)) ∧ Below w.heap.size w w' := by
  have HB : Hid (∀ o, Below w.heap.size w (w.alloc o)) := fun o => (Below.refl _ _).alloc (Nat.le_refl _) _
  have HF : Hid (∀ b, b = senB s a → Ending.returned (.bool b) = .returned (.bool (senB s a))) := fun b h => ret_bool h
  have HR : Hid (senB s a = (if s.toList == [58, 45] then (a == 1 || a == 2) else if s.toList == [45, 45, 62] then a == 2 else false)) := rfl
  cases h0 : (s.toList == [58, 45])
  rotate_left
  · rw [h0] at HR
    cases g0 : (a == 1) <;> cases g1 : (a == 2)
    all_goals
      rw [g0, g1] at HR
      go_enter Tryz.func73, Tryz.ntmps73
      go_wp2_with fail
      go_ret
      exact ⟨HF.out _ (by rw [HR.out]; first | rfl | (rw [Bool.eq_iff_iff]; simp)), HB.out _⟩
  cases h1 : (s.toList == [45, 45, 62])
  rotate_left
  · rw [h0, h1] at HR
    go_enter Tryz.func73, Tryz.ntmps73
    go_wp2_with fail
    go_ret
    exact ⟨HF.out _ (by rw [HR.out]; first | rfl | (rw [Bool.eq_iff_iff]; simp)), HB.out _⟩
  rw [h0, h1] at HR
  go_enter Tryz.func73, Tryz.ntmps73
  go_wp2_with fail
  go_ret
  exact ⟨HF.out _ (by rw [HR.out]; first | rfl | (rw [Bool.eq_iff_iff]; simp)), HB.out _⟩
def resN (s : ByteArray) : Bool := s.toList == [91, 93] || s.toList == [123, 125] || s.toList == [124]
theorem resName_any (s : ByteArray) (w : World) : Calls Tryz.prog 70 #[.string s] w fun e w' => e = .returned (.bool (resN s)) ∧ w' = w := by
  cases h1 : (s.toList == [91, 93]) <;> cases h2 : (s.toList == [123, 125]) <;> cases h3 : (s.toList == [124])
  all_goals
    have HF : Hid (∀ b, b = resN s → Ending.returned (.bool b) = .returned (.bool (resN s))) := fun b h => ret_bool h
    have HR : Hid (resN s = (s.toList == [91, 93] || s.toList == [123, 125] || s.toList == [124])) := rfl
    rw [h1, h2, h3] at HR
    go_enter Tryz.func70, Tryz.ntmps70
    go_wp2_with fail
    go_ret
    exact ⟨HF.out _ HR.out.symm, rfl⟩
end Go.Proofs.YtfgaenggbbgboaaGreatDoor

namespace Go.Proofs.YtfgaenggbbgboaaGreatDoor
open Go Go.RowKit
set_option linter.unusedVariables false
set_option maxRecDepth 100000 in
set_option maxHeartbeats 1000000 in
theorem implIsBu_any (p : Option Addr) (cap : Nat) (xs : List Int) (a : Int) (w : World) (hn : xs.length ≤ 1048576) (hin : BIn w p xs) (ha : (Lit.int .i64 a).wf = true) :
    Calls Tryz.prog 74 #[.slice p xs.length cap, .int .i64 a] w fun e w' => e = .returned (.bool (isBu (unU xs) a)) ∧ Below w.heap.size w w' := by
  obtain ⟨l, el⟩ : ∃ l, l = xs.length := ⟨_, rfl⟩
  obtain ⟨s, es⟩ : ∃ s, s = strOfNums xs := ⟨_, rfl⟩
  have HCV : Hid (∀ W, Below w.heap.size w W → (convert 37 9 (.slice p l cap)).run Tryz.prog W = .ok (.string s) W) := fun W hW => by rw [es]; exact conv_str (hin.below hW) l cap el 9 Tryz.underlying9
  have hsz : s.size ≤ 1048576 := by rw [es, str_unU, bOf_size]; simpa [unU] using hn
  have hok : okN (s, a) := ⟨by show s.size ≤ _; omega, ha⟩
  have hr : (buTab (s, a)).isSome = isBu (unU xs) a := by rw [es, str_unU, buTab_some]
  have HLK : Hid (∀ (W : World) (b : Nat), BuIn W b 92 buTab → ∃ v, (Instr.lookup 134 (.map (some b)) (.agg #[.string s, .int .i64 a]) true).run Tryz.prog W = .ok (.tuple #[v, .bool (isBu (unU xs) a)]) W ∧ (Instr.lookup 134 (.map (some b)) (.agg #[.string s, .int .i64 a]) true).run Tryz.prog W.drew = .ok (.tuple #[v, .bool (isBu (unU xs) a)]) W.drew) := fun W b hb => by
    have h := hb.look (s, a) hok
    have h2 := (hb.of (w' := W.drew) rfl).look (s, a) hok
    rw [hr] at h h2
    exact ⟨_, h, h2⟩
  obtain ⟨R, eR⟩ : ∃ R, R = isBu (unU xs) a := ⟨_, rfl⟩
  rw [← eR] at HLK ⊢
  rw [← el]
  have kc := HCV.out w.drew (Below.refl _ _).drew
  have HNB : Hid (∀ W, Calls Tryz.prog 88 #[] W fun e w' => ∃ b, e = .returned (.map (some b)) ∧ BuIn w' b 92 buTab ∧ Below W.heap.size W w') := fun W => newBuiltins_any W
  clear hn hin ha el es hsz hok hr eR
  go_enter Tryz.func74, Tryz.ntmps74
  go_wp2_with fail
  go_region_held3 (fun W => (convert 37 9 (.slice p l cap)).run Tryz.prog W = .ok (.string s) W) (first | exact kc | go_keep)
    ((go_at_call 88; refine (HNB.out _).mono ?_; rintro e w1 ⟨b, rfl, hT, hB⟩; have kc := HCV.out w1 ⟨hB.os, hB.tape, hB.output, hB.size, hB.block⟩; obtain ⟨v, hl1, hl2⟩ := HLK.out w1 b hT))
  all_goals
    have HB1 : Hid (Below w.heap.size w w1) := ⟨hB.os, hB.tape, hB.output, hB.size, hB.block⟩
    clear hT hB
    go_wp2_with fail
    go_ret
    exact ⟨rfl, HB1.out⟩
end Go.Proofs.YtfgaenggbbgboaaGreatDoor

namespace Go.Proofs.YtfgaenggbbgboaaGreatDoor
open Go Go.RowKit
set_option linter.unusedVariables false
def resvB (xs : List Int) (a : Int) : Bool := if a < 0 ∨ 20 < a then false else (dolB (strOfNums xs) || resN (strOfNums xs)) || (conB (strOfNums xs) a || ctlB (strOfNums xs) a || senB (strOfNums xs) a || isBu (unU xs) a)
theorem strSize (xs : List Int) : (strOfNums xs).size = xs.length := by simp [strOfNums, ByteArray.size]
set_option maxRecDepth 100000 in
set_option maxHeartbeats 1000000 in
theorem isResF_any (xs : List Int) (hb : Byte xs) (hl : xs.length ≤ 1048576) (a : Int) (ha : (Lit.int .i64 a).wf = true) (w : World) :
    Calls Tryz.prog 46 #[.agg #[.string (strOfNums xs), .int .i64 a]] w fun e w' => e = .returned (.bool (resvB xs a)) ∧ Below w.heap.size w w' := by
  have HF : Hid (∀ b, b = resvB xs a → Ending.returned (.bool b) = .returned (.bool (resvB xs a))) := fun b h => ret_bool h
  have hBA : Below w.heap.size w (w.alloc (.cells #[.string (strOfNums xs), .int .i64 a] 52)) := (Below.refl _ _).alloc (Nat.le_refl _) _
  by_cases h0 : a < 0
  · have HR : Hid (resvB xs a = false) := by show _ = _; unfold resvB; rw [if_pos (.inl h0)]
    have HBA : Hid _ := hBA
    clear hb hl ha hBA
    generalize strOfNums xs = s at HBA ⊢
    go_enter Tryz.func46, Tryz.ntmps46
    go_wp2_with fail
    go_ret
    exact ⟨HF.out _ HR.out.symm, HBA.out⟩
  by_cases h1 : 20 < a
  · have HR : Hid (resvB xs a = false) := by show _ = _; unfold resvB; rw [if_pos (.inr h1)]
    have HBA : Hid _ := hBA
    clear hb hl ha hBA
    generalize strOfNums xs = s at HBA ⊢
    go_enter Tryz.func46, Tryz.ntmps46
    go_wp2_with fail
    go_ret
    exact ⟨HF.out _ HR.out.symm, HBA.out⟩
  have hsz : (strOfNums xs).size ≤ 1000000000 := by rw [strSize]; omega
  have HR : Hid (resvB xs a = ((dolB (strOfNums xs) || resN (strOfNums xs)) || (conB (strOfNums xs) a || ctlB (strOfNums xs) a || senB (strOfNums xs) a || isBu (unU xs) a))) := by show _ = _; unfold resvB; rw [if_neg (by omega)]
  have H0 := fun W => isNew_any (strOfNums xs) a W hsz
  have H1 := fun W => resName_any (strOfNums xs) W
  have H2 := fun W => isConstruct_any (strOfNums xs) a W
  have H3 := fun W => isControl_any (strOfNums xs) a W
  have H4 := fun W => isSentence_any (strOfNums xs) a W
  have HCV : Hid (∀ W, ∃ w1 cap1, (convert 9 37 (.string (strOfNums xs))).run Tryz.prog W = .ok (.slice (some ⟨W.heap.size, 0, none⟩) xs.length cap1) w1 ∧ Below W.heap.size W w1 ∧ Calls Tryz.prog 74 #[.slice (some ⟨W.heap.size, 0, none⟩) xs.length cap1, .int .i64 a] w1 fun e w' => e = .returned (.bool (isBu (unU xs) a)) ∧ Below w1.heap.size w1 w') := fun W => by
    obtain ⟨w1, cap1, hcv, hb1, ht⟩ := conv_bytes W xs hb 9 Tryz.underlying9
    exact ⟨w1, cap1, hcv, hb1, implIsBu_any _ cap1 xs a w1 hl ht.bin ha⟩
  obtain ⟨d0, e0⟩ : ∃ d, d = dolB (strOfNums xs) := ⟨_, rfl⟩
  obtain ⟨d1, e1⟩ : ∃ d, d = resN (strOfNums xs) := ⟨_, rfl⟩
  obtain ⟨d2, e2⟩ : ∃ d, d = conB (strOfNums xs) a := ⟨_, rfl⟩
  obtain ⟨d3, e3⟩ : ∃ d, d = ctlB (strOfNums xs) a := ⟨_, rfl⟩
  obtain ⟨d4, e4⟩ : ∃ d, d = senB (strOfNums xs) a := ⟨_, rfl⟩
  obtain ⟨d5, e5⟩ : ∃ d, d = isBu (unU xs) a := ⟨_, rfl⟩
  obtain ⟨L, eL⟩ : ∃ L, L = xs.length := ⟨_, rfl⟩
  rw [← e0] at H0 HR
  rw [← e1] at H1 HR
  rw [← e2] at H2 HR
  rw [← e3] at H3 HR
  rw [← e4] at H4 HR
  rw [← e5] at HCV HR
  rw [← eL] at HCV
  have hnw := heap_alloc_new w (.cells #[.string (strOfNums xs), .int .i64 a] 52)
  generalize strOfNums xs = s at *
  have HBA : Hid _ := hBA
  have HNW : Hid _ := hnw
  clear hb hl ha hBA e0 e1 e2 e3 e4 e5 eL hsz hnw
  cases d0
  rotate_left
  · have HR : Hid (resvB xs a = true) := by show _ = _; rw [HR.out]; simp
    go_enter Tryz.func46, Tryz.ntmps46
    go_wp2_with fail
    refine (H0 _).mono ?_
    rintro e w0 ⟨rfl, hb0⟩
    have HB0 : Hid (Below w.heap.size w w0) := Below.on HBA.out hb0
    have HK0 : Hid (w0.heap[w.heap.size]? = some (.cells #[.string s, .int .i64 a] 52)) := (hb0.block _ (show w.heap.size < _ by simp)).trans HNW.out
    have HL0 : Hid (w.heap.size < w0.heap.size) := Nat.lt_of_lt_of_le (show w.heap.size < _ by simp) hb0.size
    obtain ⟨x0, x1, _, _⟩ := two_cells HK0.out
    clear hb0
    go_wp2_with fail
    go_ret
    exact ⟨HF.out _ HR.out.symm, HB0.out⟩
  cases d1
  rotate_left
  · have HR : Hid (resvB xs a = true) := by show _ = _; rw [HR.out]; simp
    go_enter Tryz.func46, Tryz.ntmps46
    go_wp2_with fail
    refine (H0 _).mono ?_
    rintro e w0 ⟨rfl, hb0⟩
    have HB0 : Hid (Below w.heap.size w w0) := Below.on HBA.out hb0
    have HK0 : Hid (w0.heap[w.heap.size]? = some (.cells #[.string s, .int .i64 a] 52)) := (hb0.block _ (show w.heap.size < _ by simp)).trans HNW.out
    have HL0 : Hid (w.heap.size < w0.heap.size) := Nat.lt_of_lt_of_le (show w.heap.size < _ by simp) hb0.size
    obtain ⟨x0, x1, _, _⟩ := two_cells HK0.out
    clear hb0
    go_wp2_with fail
    refine (H1 _).mono ?_
    rintro e w0' ⟨rfl, hw0⟩
    subst hw0
    go_wp2_with fail
    go_ret
    exact ⟨HF.out _ HR.out.symm, HB0.out⟩
  cases d2
  rotate_left
  · have HR : Hid (resvB xs a = true) := by show _ = _; rw [HR.out]; simp
    go_enter Tryz.func46, Tryz.ntmps46
    go_wp2_with fail
    refine (H0 _).mono ?_
    rintro e w0 ⟨rfl, hb0⟩
    have HB0 : Hid (Below w.heap.size w w0) := Below.on HBA.out hb0
    have HK0 : Hid (w0.heap[w.heap.size]? = some (.cells #[.string s, .int .i64 a] 52)) := (hb0.block _ (show w.heap.size < _ by simp)).trans HNW.out
    have HL0 : Hid (w.heap.size < w0.heap.size) := Nat.lt_of_lt_of_le (show w.heap.size < _ by simp) hb0.size
    obtain ⟨x0, x1, _, _⟩ := two_cells HK0.out
    clear hb0
    go_wp2_with fail
    refine (H1 _).mono ?_
    rintro e w0' ⟨rfl, hw0⟩
    subst hw0
    clear x0 x1
    obtain ⟨x0, x1, _, _⟩ := two_cells HK0.out
    go_wp2_with fail
    refine (H2 _).mono ?_
    rintro e w2 ⟨rfl, hb2⟩
    clear x0 x1
    have HB2 : Hid (Below w.heap.size w w2) := Below.on HB0.out hb2
    have HK2 : Hid (w2.heap[w.heap.size]? = some (.cells #[.string s, .int .i64 a] 52)) := (hb2.block _ HL0.out).trans HK0.out
    have HL2 : Hid (w.heap.size < w2.heap.size) := Nat.lt_of_lt_of_le HL0.out hb2.size
    obtain ⟨x0, x1, _, _⟩ := two_cells HK2.out
    clear hb2
    go_wp2_with fail
    go_ret
    exact ⟨HF.out _ HR.out.symm, HB2.out⟩
  cases d3
  rotate_left
  · have HR : Hid (resvB xs a = true) := by show _ = _; rw [HR.out]; simp
    go_enter Tryz.func46, Tryz.ntmps46
    go_wp2_with fail
    refine (H0 _).mono ?_
    rintro e w0 ⟨rfl, hb0⟩
    have HB0 : Hid (Below w.heap.size w w0) := Below.on HBA.out hb0
    have HK0 : Hid (w0.heap[w.heap.size]? = some (.cells #[.string s, .int .i64 a] 52)) := (hb0.block _ (show w.heap.size < _ by simp)).trans HNW.out
    have HL0 : Hid (w.heap.size < w0.heap.size) := Nat.lt_of_lt_of_le (show w.heap.size < _ by simp) hb0.size
    obtain ⟨x0, x1, _, _⟩ := two_cells HK0.out
    clear hb0
    go_wp2_with fail
    refine (H1 _).mono ?_
    rintro e w0' ⟨rfl, hw0⟩
    subst hw0
    clear x0 x1
    obtain ⟨x0, x1, _, _⟩ := two_cells HK0.out
    go_wp2_with fail
    refine (H2 _).mono ?_
    rintro e w2 ⟨rfl, hb2⟩
    clear x0 x1
    have HB2 : Hid (Below w.heap.size w w2) := Below.on HB0.out hb2
    have HK2 : Hid (w2.heap[w.heap.size]? = some (.cells #[.string s, .int .i64 a] 52)) := (hb2.block _ HL0.out).trans HK0.out
    have HL2 : Hid (w.heap.size < w2.heap.size) := Nat.lt_of_lt_of_le HL0.out hb2.size
    obtain ⟨x0, x1, _, _⟩ := two_cells HK2.out
    clear hb2
    go_wp2_with fail
    refine (H3 _).mono ?_
    rintro e w3 ⟨rfl, hb3⟩
    clear x0 x1
    have HB3 : Hid (Below w.heap.size w w3) := Below.on HB2.out hb3
    have HK3 : Hid (w3.heap[w.heap.size]? = some (.cells #[.string s, .int .i64 a] 52)) := (hb3.block _ HL2.out).trans HK2.out
    have HL3 : Hid (w.heap.size < w3.heap.size) := Nat.lt_of_lt_of_le HL2.out hb3.size
    obtain ⟨x0, x1, _, _⟩ := two_cells HK3.out
    clear hb3
    go_wp2_with fail
    go_ret
    exact ⟨HF.out _ HR.out.symm, HB3.out⟩
  cases d4
  rotate_left
  · have HR : Hid (resvB xs a = true) := by show _ = _; rw [HR.out]; simp
    go_enter Tryz.func46, Tryz.ntmps46
    go_wp2_with fail
    refine (H0 _).mono ?_
    rintro e w0 ⟨rfl, hb0⟩
    have HB0 : Hid (Below w.heap.size w w0) := Below.on HBA.out hb0
    have HK0 : Hid (w0.heap[w.heap.size]? = some (.cells #[.string s, .int .i64 a] 52)) := (hb0.block _ (show w.heap.size < _ by simp)).trans HNW.out
    have HL0 : Hid (w.heap.size < w0.heap.size) := Nat.lt_of_lt_of_le (show w.heap.size < _ by simp) hb0.size
    obtain ⟨x0, x1, _, _⟩ := two_cells HK0.out
    clear hb0
    go_wp2_with fail
    refine (H1 _).mono ?_
    rintro e w0' ⟨rfl, hw0⟩
    subst hw0
    clear x0 x1
    obtain ⟨x0, x1, _, _⟩ := two_cells HK0.out
    go_wp2_with fail
    refine (H2 _).mono ?_
    rintro e w2 ⟨rfl, hb2⟩
    clear x0 x1
    have HB2 : Hid (Below w.heap.size w w2) := Below.on HB0.out hb2
    have HK2 : Hid (w2.heap[w.heap.size]? = some (.cells #[.string s, .int .i64 a] 52)) := (hb2.block _ HL0.out).trans HK0.out
    have HL2 : Hid (w.heap.size < w2.heap.size) := Nat.lt_of_lt_of_le HL0.out hb2.size
    obtain ⟨x0, x1, _, _⟩ := two_cells HK2.out
    clear hb2
    go_wp2_with fail
    refine (H3 _).mono ?_
    rintro e w3 ⟨rfl, hb3⟩
    clear x0 x1
    have HB3 : Hid (Below w.heap.size w w3) := Below.on HB2.out hb3
    have HK3 : Hid (w3.heap[w.heap.size]? = some (.cells #[.string s, .int .i64 a] 52)) := (hb3.block _ HL2.out).trans HK2.out
    have HL3 : Hid (w.heap.size < w3.heap.size) := Nat.lt_of_lt_of_le HL2.out hb3.size
    obtain ⟨x0, x1, _, _⟩ := two_cells HK3.out
    clear hb3
    go_wp2_with fail
    refine (H4 _).mono ?_
    rintro e w4 ⟨rfl, hb4⟩
    clear x0 x1
    have HB4 : Hid (Below w.heap.size w w4) := Below.on HB3.out hb4
    have HK4 : Hid (w4.heap[w.heap.size]? = some (.cells #[.string s, .int .i64 a] 52)) := (hb4.block _ HL3.out).trans HK3.out
    have HL4 : Hid (w.heap.size < w4.heap.size) := Nat.lt_of_lt_of_le HL3.out hb4.size
    obtain ⟨x0, x1, _, _⟩ := two_cells HK4.out
    clear hb4
    go_wp2_with fail
    go_ret
    exact ⟨HF.out _ HR.out.symm, HB4.out⟩
  cases d5
  rotate_left
  · have HR : Hid (resvB xs a = true) := by show _ = _; rw [HR.out]; simp
    go_enter Tryz.func46, Tryz.ntmps46
    go_wp2_with fail
    refine (H0 _).mono ?_
    rintro e w0 ⟨rfl, hb0⟩
    have HB0 : Hid (Below w.heap.size w w0) := Below.on HBA.out hb0
    have HK0 : Hid (w0.heap[w.heap.size]? = some (.cells #[.string s, .int .i64 a] 52)) := (hb0.block _ (show w.heap.size < _ by simp)).trans HNW.out
    have HL0 : Hid (w.heap.size < w0.heap.size) := Nat.lt_of_lt_of_le (show w.heap.size < _ by simp) hb0.size
    obtain ⟨x0, x1, _, _⟩ := two_cells HK0.out
    clear hb0
    go_wp2_with fail
    refine (H1 _).mono ?_
    rintro e w0' ⟨rfl, hw0⟩
    subst hw0
    clear x0 x1
    obtain ⟨x0, x1, _, _⟩ := two_cells HK0.out
    go_wp2_with fail
    refine (H2 _).mono ?_
    rintro e w2 ⟨rfl, hb2⟩
    clear x0 x1
    have HB2 : Hid (Below w.heap.size w w2) := Below.on HB0.out hb2
    have HK2 : Hid (w2.heap[w.heap.size]? = some (.cells #[.string s, .int .i64 a] 52)) := (hb2.block _ HL0.out).trans HK0.out
    have HL2 : Hid (w.heap.size < w2.heap.size) := Nat.lt_of_lt_of_le HL0.out hb2.size
    obtain ⟨x0, x1, _, _⟩ := two_cells HK2.out
    clear hb2
    go_wp2_with fail
    refine (H3 _).mono ?_
    rintro e w3 ⟨rfl, hb3⟩
    clear x0 x1
    have HB3 : Hid (Below w.heap.size w w3) := Below.on HB2.out hb3
    have HK3 : Hid (w3.heap[w.heap.size]? = some (.cells #[.string s, .int .i64 a] 52)) := (hb3.block _ HL2.out).trans HK2.out
    have HL3 : Hid (w.heap.size < w3.heap.size) := Nat.lt_of_lt_of_le HL2.out hb3.size
    obtain ⟨x0, x1, _, _⟩ := two_cells HK3.out
    clear hb3
    go_wp2_with fail
    refine (H4 _).mono ?_
    rintro e w4 ⟨rfl, hb4⟩
    clear x0 x1
    have HB4 : Hid (Below w.heap.size w w4) := Below.on HB3.out hb4
    have HK4 : Hid (w4.heap[w.heap.size]? = some (.cells #[.string s, .int .i64 a] 52)) := (hb4.block _ HL3.out).trans HK3.out
    have HL4 : Hid (w.heap.size < w4.heap.size) := Nat.lt_of_lt_of_le HL3.out hb4.size
    obtain ⟨x0, x1, _, _⟩ := two_cells HK4.out
    clear hb4
    obtain ⟨w5, cap5, hcv5, hb5, HI⟩ := HCV.out w4
    have HB5 : Hid (Below w.heap.size w w5) := Below.on HB4.out hb5
    have y1 := (hb5.cell (p := ⟨w.heap.size, 1, none⟩) HL4.out).trans x1
    clear hb5
    go_wp2_with fail
    refine HI.mono ?_
    rintro e w6 ⟨rfl, hb6⟩
    have HB6 : Hid (Below w.heap.size w w6) := Below.on HB5.out hb6
    clear hb6 HI
    go_wp2_with fail
    go_ret
    exact ⟨HF.out _ HR.out.symm, HB6.out⟩
  have HR : Hid (resvB xs a = false) := by show _ = _; rw [HR.out]; rfl
  go_enter Tryz.func46, Tryz.ntmps46
  go_wp2_with fail
  refine (H0 _).mono ?_
  rintro e w0 ⟨rfl, hb0⟩
  have HB0 : Hid (Below w.heap.size w w0) := Below.on HBA.out hb0
  have HK0 : Hid (w0.heap[w.heap.size]? = some (.cells #[.string s, .int .i64 a] 52)) := (hb0.block _ (show w.heap.size < _ by simp)).trans HNW.out
  have HL0 : Hid (w.heap.size < w0.heap.size) := Nat.lt_of_lt_of_le (show w.heap.size < _ by simp) hb0.size
  obtain ⟨x0, x1, _, _⟩ := two_cells HK0.out
  clear hb0
  go_wp2_with fail
  refine (H1 _).mono ?_
  rintro e w0' ⟨rfl, hw0⟩
  subst hw0
  clear x0 x1
  obtain ⟨x0, x1, _, _⟩ := two_cells HK0.out
  go_wp2_with fail
  refine (H2 _).mono ?_
  rintro e w2 ⟨rfl, hb2⟩
  clear x0 x1
  have HB2 : Hid (Below w.heap.size w w2) := Below.on HB0.out hb2
  have HK2 : Hid (w2.heap[w.heap.size]? = some (.cells #[.string s, .int .i64 a] 52)) := (hb2.block _ HL0.out).trans HK0.out
  have HL2 : Hid (w.heap.size < w2.heap.size) := Nat.lt_of_lt_of_le HL0.out hb2.size
  obtain ⟨x0, x1, _, _⟩ := two_cells HK2.out
  clear hb2
  go_wp2_with fail
  refine (H3 _).mono ?_
  rintro e w3 ⟨rfl, hb3⟩
  clear x0 x1
  have HB3 : Hid (Below w.heap.size w w3) := Below.on HB2.out hb3
  have HK3 : Hid (w3.heap[w.heap.size]? = some (.cells #[.string s, .int .i64 a] 52)) := (hb3.block _ HL2.out).trans HK2.out
  have HL3 : Hid (w.heap.size < w3.heap.size) := Nat.lt_of_lt_of_le HL2.out hb3.size
  obtain ⟨x0, x1, _, _⟩ := two_cells HK3.out
  clear hb3
  go_wp2_with fail
  refine (H4 _).mono ?_
  rintro e w4 ⟨rfl, hb4⟩
  clear x0 x1
  have HB4 : Hid (Below w.heap.size w w4) := Below.on HB3.out hb4
  have HK4 : Hid (w4.heap[w.heap.size]? = some (.cells #[.string s, .int .i64 a] 52)) := (hb4.block _ HL3.out).trans HK3.out
  have HL4 : Hid (w.heap.size < w4.heap.size) := Nat.lt_of_lt_of_le HL3.out hb4.size
  obtain ⟨x0, x1, _, _⟩ := two_cells HK4.out
  clear hb4
  obtain ⟨w5, cap5, hcv5, hb5, HI⟩ := HCV.out w4
  have HB5 : Hid (Below w.heap.size w w5) := Below.on HB4.out hb5
  have y1 := (hb5.cell (p := ⟨w.heap.size, 1, none⟩) HL4.out).trans x1
  clear hb5
  go_wp2_with fail
  refine HI.mono ?_
  rintro e w6 ⟨rfl, hb6⟩
  have HB6 : Hid (Below w.heap.size w w6) := Below.on HB5.out hb6
  clear hb6 HI
  go_wp2_with fail
  go_ret
  exact ⟨HF.out _ HR.out.symm, HB6.out⟩
end Go.Proofs.YtfgaenggbbgboaaGreatDoor

