/- Texts of Valid2, Tree1, Tree2, Tree3, Tree4, Tree5. Own work of the verifier. -/
import Derived.Test.YtdmmchoicngblaaGreatDoorUqaa
import Derived.Deep.RegionLaw
import Derived.Deep.Cut
namespace Go.Proofs.YtdmmchoicngblaaGreatDoor
set_option maxRecDepth 20000
open Go Go.RowKit
set_option linter.unusedVariables false
def grows (k n : Int) : Int := if k = 3 then n else 0
def validFrom : Int → List Cel → Bool
 | m, [] => m == 0
 | m, c :: r => if m = 0 ∨ cellB c.1 c.2.1 c.2.2.length = false then false else validFrom (m - 1 + grows c.1 c.2.1) r
def validB (cs : List Cel) : Bool := decide (cs.length ≤ 2000) && validFrom 1 cs
theorem validFrom_at (m : Int) (cs : List Cel) (k : Nat) (h : k < cs.length) : validFrom m (cs.drop k) =
  if m = 0 ∨ cellB (cs.getD k Cel.none).1 (cs.getD k Cel.none).2.1 (cs.getD k Cel.none).2.2.length = false then false else validFrom (m - 1 + grows (cs.getD k Cel.none).1 (cs.getD k Cel.none).2.1) (cs.drop (k + 1)) := by
 rw [drop_at cs k h, validFrom]
theorem cellB_comp {n : Int} {m : Nat} (h : cellB 3 n m = true) : 1 ≤ n ∧ n ≤ 20 := by simp [cellB] at h; omega
theorem specValid_any (p : Option Addr) (c : Nat) (cs : List Cel) (w : World) (hn : cs.length ≤ 1000000000) (hc : CIn w p cs) :
  Calls Tryz.prog 6 #[.slice p cs.length c] w fun e w' => e = .returned (.bool (validB cs)) ∧ Below w.heap.size w w' := by
 have HC : Hid (CIn w p cs) := hc; clear hc
 by_cases hl : cs.length ≤ 2000
 ·have hl' : ¬ (2000 : Int) < cs.length := by omega
  have hv : validB cs = validFrom 1 cs := by simp [validB, hl]
  rw [hv]; clear hv
  go_enter Tryz.func6, Tryz.ntmps6
  go_wp2
  clear hl'
  go_loopw [3, 4] (fun s i wr => ∃ (k : Nat) (m : Int), k ≤ cs.length ∧ 0 ≤ m ∧ m ≤ 1 + 20 * k ∧ s = .int .i64 m ∧ i = .int .i64 k ∧ Hid (validFrom 1 cs = validFrom m (cs.drop k)) ∧ Hid (Below w.heap.size w wr)) (fun _ i _ => cs.length - (intOf i).toNat)
  case atStart => exact ⟨0, 1, Nat.zero_le _, by decide, by decide, rfl, rfl, rfl, Below.refl _ _⟩
  case round =>
   obtain ⟨k, m, hk, hm0, hm1, rfl, rfl, HV, HB⟩ := hrel
   by_cases hlt : k < cs.length
   ·obtain ⟨b, o, rfl, hcs⟩ := HC.out (by omega)
    obtain ⟨q, qc, h0, h1, h2, _⟩ := (hcs k hlt).below HB.out; have HA : Hid _ := validFrom_at m cs k hlt
    obtain ⟨c0, e0⟩ : ∃ x, x = (cs.getD k Cel.none).1 := ⟨_, rfl⟩
    obtain ⟨c1, e1⟩ : ∃ x, x = (cs.getD k Cel.none).2.1 := ⟨_, rfl⟩
    obtain ⟨t, et⟩ : ∃ x, x = (cs.getD k Cel.none).2.2.length := ⟨_, rfl⟩
    rw [← e0] at h0 HA; rw [← e1] at h1 HA; rw [← et] at h2 HA; clear e0 e1 et hcs HC
    by_cases hz : m = 0
    ·subst hz
     go_wp2
     go_ret; exact ⟨ret_bool (by rw [HV.out, HA.out, if_pos (by simp)]), HB.out⟩
    ·have hz' : (m == 0) = false := by simpa using hz
     have HZ : Hid (m ≠ 0) := hz
     have HS := fun W => l2cell_any c0 c1 q t qc W
     cases hb : cellB c0 c1 t
     ·rw [hb] at HS
      have HBB : Hid _ := hb; clear hb hz; go_wp2_with (go_at_call 22; refine (HS _).mono ?_; rintro e w2 ⟨rfl, hb2⟩); go_ret; exact ⟨ret_bool (by rw [HV.out, HA.out, if_pos (.inr HBB.out)]), Below.on HB.out hb2⟩
     ·rw [hb] at HS
      have HBB : Hid _ := hb; clear hb hz
      by_cases h3 : c0 = 3
      ·subst h3
       have hc1 := cellB_comp HBB.out; go_wp2_with fail; refine (HS _).mono ?_; rintro e w2 ⟨rfl, hb2⟩; have h0' := (hb2.cell (World.block_lt_of_cell? _ _ h0)).trans h0; have h1' := (hb2.cell (World.block_lt_of_cell? _ _ h1)).trans h1; have HB2 : Hid (Below w.heap.size w w2) := Below.on HB.out hb2; clear hb2 h0 h1 h2 HS
       go_wp2
       go_roundw
       case rel => exact ⟨k + 1, m - 1 + c1, by omega, by have := HZ.out; omega, by omega, by go_num, by go_num, by show _ = _; rw [HV.out, HA.out, if_neg (by rintro (h | h); exact HZ.out h; rw [HBB.out] at h; cases h)]; rfl, HB2.out⟩
       case measure => simp [intOf]; omega
      ·have h3' : (c0 == 3) = false := by simpa using h3
       have H3 : Hid (c0 ≠ 3) := h3; clear h3; go_wp2_with fail; refine (HS _).mono ?_; rintro e w2 ⟨rfl, hb2⟩; have h0' := (hb2.cell (World.block_lt_of_cell? _ _ h0)).trans h0; have HB2 : Hid (Below w.heap.size w w2) := Below.on HB.out hb2; clear hb2 h0 h1 h2 HS
       go_wp2
       go_roundw
       case rel => exact ⟨k + 1, m - 1, by omega, by have := HZ.out; omega, by omega, by go_num, by go_num, by show _ = _; rw [HV.out, HA.out, if_neg (by rintro (h | h); exact HZ.out h; rw [HBB.out] at h; cases h), grows, if_neg H3.out, Int.add_zero], HB2.out⟩
       case measure => simp [intOf]; omega
   ·obtain rfl : k = cs.length := by omega
    have HV' : Hid (validFrom 1 cs = (m == 0)) := by
     have := HV.out; rw [List.drop_length] at this; exact this
    clear HV HC
    go_wp2
    go_ret; exact ⟨ret_bool HV'.out.symm, HB.out⟩
 ·have hl' : (2000 : Int) < cs.length := by omega
  have hv : validB cs = false := by simp [validB]; omega
  rw [hv]; clear hv
  go_enter Tryz.func6, Tryz.ntmps6
  go_wp2
  go_ret; exact ⟨rfl, Below.refl _ _⟩
theorem implValid_any (p : Option Addr) (c : Nat) (cs : List Cel) (w : World) (hn : cs.length ≤ 1000000000) (hc : CIn w p cs) :
  Calls Tryz.prog 23 #[.slice p cs.length c] w fun e w' => e = .returned (.bool (validB cs)) ∧ Below w.heap.size w w' := by
 have HC : Hid (CIn w p cs) := hc; clear hc
 by_cases hl : cs.length ≤ 2000
 ·have hl' : ¬ (2000 : Int) < cs.length := by omega
  have hv : validB cs = validFrom 1 cs := by simp [validB, hl]
  rw [hv]; clear hv
  go_enter Tryz.func23, Tryz.ntmps23
  go_wp2
  clear hl'
  go_loopw [3, 11] (fun s i wr => ∃ (k : Nat) (m : Int), k ≤ cs.length ∧ 0 ≤ m ∧ m ≤ 1 + 20 * k ∧ s = .int .i64 m ∧ i = .int .i64 k ∧ Hid (validFrom 1 cs = validFrom m (cs.drop k)) ∧ Hid (Below w.heap.size w wr)) (fun _ i _ => cs.length - (intOf i).toNat)
  case atStart => exact ⟨0, 1, Nat.zero_le _, by decide, by decide, rfl, rfl, rfl, Below.refl _ _⟩
  case round =>
   obtain ⟨k, m, hk, hm0, hm1, rfl, rfl, HV, HB⟩ := hrel
   by_cases hlt : k < cs.length
   ·obtain ⟨b, o, rfl, hcs⟩ := HC.out (by omega)
    obtain ⟨q, qc, h0, h1, h2, _⟩ := (hcs k hlt).below HB.out; have HA : Hid _ := validFrom_at m cs k hlt
    obtain ⟨c0, e0⟩ : ∃ x, x = (cs.getD k Cel.none).1 := ⟨_, rfl⟩
    obtain ⟨c1, e1⟩ : ∃ x, x = (cs.getD k Cel.none).2.1 := ⟨_, rfl⟩
    obtain ⟨t, et⟩ : ∃ x, x = (cs.getD k Cel.none).2.2.length := ⟨_, rfl⟩
    rw [← e0] at h0 HA; rw [← e1] at h1 HA; rw [← et] at h2 HA; clear e0 e1 et hcs HC
    by_cases hz : m = 0
    ·subst hz
     go_wp2
     go_ret; exact ⟨ret_bool (by rw [HV.out, HA.out, if_pos (by simp)]), HB.out.alloc HB.out.size _⟩
    ·have hz' : (m == 0) = false := by simpa using hz
     have HZ : Hid (m ≠ 0) := hz
     have HS := fun W => isCell_any c0 c1 q t qc W
     have hb0 : Below w.heap.size w (wr.alloc (Obj.cells #[.int .i64 c0, .int .i64 c1, .slice q t qc] 55)) := HB.out.alloc HB.out.size _; have HB0 : Hid _ := hb0; clear hb0
     cases hb : cellB c0 c1 t
     ·rw [hb] at HS
      have HBB : Hid _ := hb; clear hb hz; go_wp2_with (go_at_call 42; refine (HS _).mono ?_; rintro e w2 ⟨rfl, hb2⟩); go_ret; exact ⟨ret_bool (by rw [HV.out, HA.out, if_pos (.inr HBB.out)]), Below.on HB0.out hb2⟩
     ·rw [hb] at HS
      have HBB : Hid _ := hb; clear hb hz
      by_cases h3 : c0 = 3
      ·subst h3
       have hc1 := cellB_comp HBB.out; go_wp2_with fail; refine (HS _).mono ?_; rintro e w2 ⟨rfl, hb2⟩; have bb : Box3 w2 wr.heap.size (.int .i64 3) (.int .i64 c1) (.slice q t qc) := Box3.of_block (t := 55) ((hb2.block _ (by simp)).trans (heap_alloc_new _ _)); obtain ⟨h0', h1', _, _⟩ := bb; have HB2 : Hid (Below w.heap.size w w2) := Below.on HB0.out hb2; clear hb2 h0 h1 h2 HS
       go_wp2
       go_roundw
       case rel => exact ⟨k + 1, m - 1 + c1, by omega, by have := HZ.out; omega, by omega, by go_num, by go_num, by show _ = _; rw [HV.out, HA.out, if_neg (by rintro (h | h); exact HZ.out h; rw [HBB.out] at h; cases h)]; rfl, HB2.out⟩
       case measure => simp [intOf]; omega
      ·have h3' : (c0 == 3) = false := by simpa using h3
       have H3 : Hid (c0 ≠ 3) := h3; clear h3; go_wp2_with fail; refine (HS _).mono ?_; rintro e w2 ⟨rfl, hb2⟩; have bb : Box3 w2 wr.heap.size (.int .i64 c0) (.int .i64 c1) (.slice q t qc) := Box3.of_block (t := 55) ((hb2.block _ (by simp)).trans (heap_alloc_new _ _)); obtain ⟨h0', _, _, _⟩ := bb; have HB2 : Hid (Below w.heap.size w w2) := Below.on HB0.out hb2; clear hb2 h0 h1 h2 HS
       go_wp2
       go_roundw
       case rel => exact ⟨k + 1, m - 1, by omega, by have := HZ.out; omega, by omega, by go_num, by go_num, by show _ = _; rw [HV.out, HA.out, if_neg (by rintro (h | h); exact HZ.out h; rw [HBB.out] at h; cases h), grows, if_neg H3.out, Int.add_zero], HB2.out⟩
       case measure => simp [intOf]; omega
   ·obtain rfl : k = cs.length := by omega
    have HV' : Hid (validFrom 1 cs = (m == 0)) := by
     have := HV.out; rw [List.drop_length] at this; exact this
    clear HV HC
    go_wp2
    go_ret; exact ⟨ret_bool HV'.out.symm, HB.out⟩
 ·have hl' : (2000 : Int) < cs.length := by omega
  have hv : validB cs = false := by simp [validB]; omega
  rw [hv]; clear hv
  go_enter Tryz.func23, Tryz.ntmps23
  go_wp2
  go_ret; exact ⟨rfl, Below.refl _ _⟩
inductive Fo where
 | nil : Fo
 | node : Cel → Fo → Fo → Fo
def Fo.cells : Fo → List Cel
 | .nil => []
 | .node c k r => c :: (k.cells ++ r.cells)
def Fo.count : Fo → Nat
 | .nil => 0
 | .node _ _ r => r.count + 1
def Fo.cat : Fo → Fo → Fo
 | .nil, s => s
 | .node c k r, s => .node c k (r.cat s)
def Fo.ok : Fo → Prop
 | .nil => True
 | .node c k r => cellB c.1 c.2.1 c.2.2.length = true ∧ Byte c.2.2 ∧ (c.1 = 3 → c.2.1 = k.count) ∧ (c.1 ≠ 3 → k = .nil) ∧ k.ok ∧ r.ok
theorem Fo.cells_cat : ∀ a b : Fo, (a.cat b).cells = a.cells ++ b.cells
 | .nil, b => rfl
 | .node c k r, b => by simp [Fo.cat, Fo.cells, Fo.cells_cat r b]
theorem Fo.count_cat : ∀ a b : Fo, (a.cat b).count = a.count + b.count
 | .nil, b => by simp [Fo.cat, Fo.count]
 | .node c k r, b => by simp only [Fo.cat, Fo.count, Fo.count_cat r b]; omega
theorem Fo.ok_cat : ∀ a b : Fo, (a.cat b).ok ↔ a.ok ∧ b.ok
 | .nil, b => by simp [Fo.cat, Fo.ok]
 | .node c k r, b => by
   have := Fo.ok_cat r b; simp only [Fo.cat, Fo.ok]
   constructor
   ·rintro ⟨h1, h2, h3, h4, h5, h6⟩
    exact ⟨⟨h1, h2, h3, h4, h5, (this.1 h6).1⟩, (this.1 h6).2⟩
   ·rintro ⟨⟨h1, h2, h3, h4, h5, h6⟩, h7⟩
    exact ⟨h1, h2, h3, h4, h5, this.2 ⟨h6, h7⟩⟩
theorem Fo.cat_nil : ∀ a : Fo, a.cat .nil = a
 | .nil => rfl
 | .node c k r => by rw [Fo.cat, Fo.cat_nil r]
theorem Fo.cat_assoc : ∀ a b c : Fo, (a.cat b).cat c = a.cat (b.cat c)
 | .nil, b, c => rfl
 | .node x k r, b, c => by simp only [Fo.cat, Fo.cat_assoc r b c]
theorem Fo.count_le : ∀ a : Fo, a.count ≤ a.cells.length
 | .nil => Nat.le_refl _
 | .node c k r => by have := Fo.count_le r; simp [Fo.count, Fo.cells]; omega
theorem Fo.parted : ∀ (n : Nat) (a : Fo), n ≤ a.count → ∃ x y : Fo, a = x.cat y ∧ x.count = n
 | 0, a, _ => ⟨.nil, a, rfl, rfl⟩
 | n + 1, .nil, h => by simp [Fo.count] at h
 | n + 1, .node c k r, h => by
   obtain ⟨x, y, e, hx⟩ := Fo.parted n r (by simpa [Fo.count] using h); exact ⟨.node c k x, y, by rw [Fo.cat, e], by rw [Fo.count, hx]⟩
theorem forest_of : ∀ (cs : List Cel) (m : Nat), (∀ i, i < cs.length → Byte (cs.getD i Cel.none).2.2) → validFrom m cs = true → ∃ F : Fo, F.count = m ∧ F.cells = cs ∧ F.ok
 | [], m, _, h => by
   have : m = 0 := by simpa [validFrom] using h
   exact ⟨.nil, by simp [Fo.count, this], rfl, trivial⟩
 | c :: r, m, hb, h => by
   rw [validFrom] at h
   split at h
   ·cases h
   rename_i hc
   rw [not_or] at hc; obtain ⟨hm, hc⟩ := hc
   have hc' : cellB c.1 c.2.1 c.2.2.length = true := by simpa using hc
   have hbr : ∀ i, i < r.length → Byte (r.getD i Cel.none).2.2 := fun i hi => by simpa using hb (i + 1) (by simpa using hi)
   have hb0 : Byte c.2.2 := by simpa using hb 0 (by simp)
   by_cases h3 : c.1 = 3
   ·have hc1 := cellB_comp (h3 ▸ hc')
    obtain ⟨n, hn⟩ : ∃ n : Nat, c.2.1 = n := ⟨c.2.1.toNat, by omega⟩
    obtain ⟨F, hF1, hF2, hF3⟩ := forest_of r (m - 1 + n) hbr (by
     have e : ((m - 1 + n : Nat) : Int) = m - 1 + grows c.1 c.2.1 := by rw [grows, if_pos h3, hn]; omega
     rw [e]; exact h)
    obtain ⟨x, y, rfl, hx⟩ := Fo.parted n F (by omega); rw [Fo.count_cat] at hF1; have hok := (Fo.ok_cat x y).1 hF3; exact ⟨.node c x y, by rw [Fo.count]; omega, by rw [Fo.cells, ← Fo.cells_cat, hF2], hc', hb0, fun _ => by rw [hx, hn], fun h => absurd h3 h, hok.1, hok.2⟩
   ·obtain ⟨F, hF1, hF2, hF3⟩ := forest_of r (m - 1) hbr (by
     have e : ((m - 1 : Nat) : Int) = m - 1 + grows c.1 c.2.1 := by rw [grows, if_neg h3]; omega
     rw [e]; exact h)
    exact ⟨.node c .nil F, by rw [Fo.count]; omega, by rw [Fo.cells, hF2]; rfl, hc', hb0, fun h => absurd h h3, fun _ => rfl, trivial, hF3⟩
def NodeIn (w : World) (B : Nat) (c : Cel) (K : List Value → Prop) (v : Value) : Prop :=
 (c.1 = 0 ∧ v = .iface 82 (.int .i64 c.2.1)) ∨ (c.1 = 1 ∧ v = .iface 150 (.int .i64 c.2.1)) ∨ (c.1 = 2 ∧ v = .iface 94 (.string (strOfNums c.2.2))) ∨
 (c.1 = 3 ∧ ∃ b g vs, v = .iface 139 (.pointer (some ⟨b, 0, none⟩)) ∧ B ≤ b ∧ B ≤ g ∧ w.cell? ⟨b, 0, none⟩ = some (.string (strOfNums c.2.2)) ∧
   w.cell? ⟨b, 1, none⟩ = some (.slice (some ⟨g, 0, none⟩) vs.length vs.length) ∧ g < w.heap.size ∧ (∀ i, i < vs.length → w.cell? ⟨g, i, none⟩ = some (vs.getD i .nilIface)) ∧ K vs)
def FoIn (w : World) (B : Nat) : Fo → List Value → Prop
 | .nil, vs => vs = []
 | .node c k r, vs => ∃ v vr, vs = v :: vr ∧ NodeIn w B c (fun kv => FoIn w B k kv) v ∧ FoIn w B r vr
theorem NodeIn.imp {w w' : World} {B B' : Nat} {c : Cel} {K K' : List Value → Prop} {v : Value} (h : NodeIn w B c K v) (hB : B' ≤ B) (hc : ∀ b o, B ≤ b → b < w.heap.size → w'.cell? ⟨b, o, none⟩ = w.cell? ⟨b, o, none⟩) (hs : w.heap.size ≤ w'.heap.size) (hK : ∀ vs, K vs → K' vs) : NodeIn w' B' c K' v := by
 rcases h with h | h | h | ⟨h, b, g, vs, hv, h1, h2, c0, c1, hg, cg, hk⟩
 ·exact .inl h
 ·exact .inr (.inl h)
 ·exact .inr (.inr (.inl h))
 ·have hb := World.block_lt_of_cell? _ _ c0
  exact .inr (.inr (.inr ⟨h, b, g, vs, hv, by omega, by omega, (hc _ _ h1 hb).trans c0, (hc _ _ h1 hb).trans c1, by omega, fun i hi => (hc _ _ h2 hg).trans (cg i hi), hK _ hk⟩))
theorem FoIn.imp {w w' : World} {B B' : Nat} (hB : B' ≤ B) (hc : ∀ b o, B ≤ b → b < w.heap.size → w'.cell? ⟨b, o, none⟩ = w.cell? ⟨b, o, none⟩) (hs : w.heap.size ≤ w'.heap.size) : ∀ (F : Fo) (vs : List Value), FoIn w B F vs → FoIn w' B' F vs
 | .nil, vs, h => h
 | .node c k r, vs, ⟨v, vr, e, hn, hr⟩ => ⟨v, vr, e, hn.imp hB hc hs (fun kv => FoIn.imp hB hc hs k kv), FoIn.imp hB hc hs r vr hr⟩
theorem FoIn.below {w w' : World} {B : Nat} {F : Fo} {vs : List Value} (h : FoIn w B F vs) (hb : Below w.heap.size w w') : FoIn w' B F vs :=
 FoIn.imp (Nat.le_refl _) (fun b o _ hlt => hb.cell (p := ⟨b, o, none⟩) hlt) hb.size F vs h
theorem FoIn.mono {w : World} {B B' : Nat} {F : Fo} {vs : List Value} (h : FoIn w B F vs) (hB : B' ≤ B) : FoIn w B' F vs := FoIn.imp hB (fun _ _ _ _ => rfl) (Nat.le_refl _) F vs h
theorem FoIn.setCell {w : World} {B : Nat} {F : Fo} {vs : List Value} (h : FoIn w B F vs) {a : Addr} (ha : a.block < B) (u : Value) : FoIn (w.setCell a u) B F vs :=
 FoIn.imp (Nat.le_refl _) (fun b o hb _ => World.cell?_setCell_other _ _ _ _ (fun e => by rw [e] at ha; simp at ha; omega)) (by simp) F vs h
theorem FoIn.count {w : World} {B : Nat} : ∀ (F : Fo) (vs : List Value), FoIn w B F vs → vs.length = F.count
 | .nil, vs, h => by rw [show vs = [] from h]; rfl
 | .node c k r, vs, ⟨v, vr, e, hn, hr⟩ => by rw [e, List.length_cons, FoIn.count r vr hr]; rfl
theorem FoIn.cat {w : World} {B : Nat} : ∀ (F G : Fo) (vs us : List Value), FoIn w B F vs → FoIn w B G us → FoIn w B (F.cat G) (vs ++ us)
 | .nil, G, vs, us, h, hg => by rw [show vs = [] from h]; exact hg
 | .node c k r, G, vs, us, ⟨v, vr, e, hn, hr⟩, hg => ⟨v, vr ++ us, by rw [e]; rfl, hn, FoIn.cat r G vr us hr hg⟩
theorem infoTerm : (Tryz.prog.info? 58).map (fun i => (i.zero, i.size, i.bytes)) = some (some .nilIface, 1, 16) := by kernel_rfl
theorem firstLeaf_any (c : Cel) (p : Option Addr) (cap : Nat) (tail : List Cel) (w0 w : World) (hw : Below w0.heap.size w0 w) (h3 : c.1 ≠ 3) (hcell : cellB c.1 c.2.1 c.2.2.length = true) (hcap : tail.length + 1 ≤ cap) (hn : cap ≤ 9223372036854775807) (hc : CIn w0 p (c :: tail)) :
  Calls Tryz.prog 43 #[.slice p (tail.length + 1) cap] w fun e w' => ∃ v q, e = .returned (.tuple #[v, .slice q tail.length (cap - 1)]) ∧ CIn w0 q tail ∧ FoIn w' w.heap.size (.node c .nil .nil) [v] ∧ Below w.heap.size w w' := by
 obtain ⟨b, o, rfl, hcs⟩ := hc (by simp); obtain ⟨p0, q0, h0, h1, h2, h4⟩ := (hcs 0 (by simp)).below hw; simp only [List.getD_cons_zero, Nat.zero_mul, Nat.add_zero] at h0 h1 h2 h4
 have HT : Hid (∀ A, (tail.length ≠ 0 → A = some ⟨b, o + 3, none⟩) → CIn w0 A tail) := fun A hA hl => ⟨b, o + 3, hA (by omega), fun i hi => by
  have := hcs (i + 1) (by simpa using hi); rw [show o + (i + 1) * 3 = o + 3 + i * 3 by omega] at this
  simpa using this⟩
 clear hcs hw; obtain ⟨k, n, xs⟩ := c; simp only at h3 hcell h0 h1 h2 h4
 have hk : k = 0 ∨ k = 1 ∨ k = 2 := by simp [cellB] at hcell; omega
 clear h3; have HC : Hid _ := hcell; clear hcell
 obtain ⟨t, et⟩ : ∃ t, t = tail.length := ⟨_, rfl⟩
 rw [← et] at hcap HT ⊢
 obtain ⟨m, hm⟩ : ∃ m, m = xs.length := ⟨_, rfl⟩
 rw [← hm] at h2
 have hle : (1 : Int) ≤ (t : Int) + 1 := by omega
 have hlt : (0 : Int) < (t : Int) + 1 := by omega
 have H4 : Hid (BIn w p0 xs) := h4; have HM : Hid (m = xs.length) := hm; clear hc et h4 hm
 rcases hk with rfl | rfl | rfl
 ·have a0 : ∀ x, (w.alloc x).cell? ⟨b, o, none⟩ = some (.int .i64 0) := fun x => Lib.cell?_alloc_marked x h0
  have a1 : ∀ x, (w.alloc x).cell? ⟨b, o + 1, none⟩ = some (.int .i64 n) := fun x => Lib.cell?_alloc_marked x h1
  have a2 : ∀ x, (w.alloc x).cell? ⟨b, o + 2, none⟩ = some (.slice p0 m q0) := fun x => Lib.cell?_alloc_marked x h2
  have HB : Hid (Below w.heap.size w (w.alloc (Obj.cells #[Value.int IntKind.i64 0, Value.int IntKind.i64 n, Value.slice p0 m q0] 55)).drew) := ((Below.refl _ _).alloc (Nat.le_refl _) _).drew
  go_enter Tryz.func43, Tryz.ntmps43
  go_wp2
  go_region
  all_goals go_wp2
  ·refine bodyPost_ret (v := .tuple #[.iface 82 (.int .i64 n), .slice (some ⟨b, o, none⟩) t 0]) (by simp [results, Tryz.results43, go_sem]) rfl ⟨_, _, rfl, HT.out _ (fun h => by omega), ⟨_, [], rfl, .inl ⟨rfl, rfl⟩, rfl⟩, HB.out⟩
  ·refine bodyPost_ret (v := .tuple #[.iface 82 (.int .i64 n), .slice (some ⟨b, o + 3, none⟩) t (cap - 1)]) (by simp [results, Tryz.results43, go_sem]) rfl ⟨_, _, rfl, HT.out _ (fun h => rfl), ⟨_, [], rfl, .inl ⟨rfl, rfl⟩, rfl⟩, HB.out⟩
 ·have a0 : ∀ x, (w.alloc x).cell? ⟨b, o, none⟩ = some (.int .i64 1) := fun x => Lib.cell?_alloc_marked x h0
  have a1 : ∀ x, (w.alloc x).cell? ⟨b, o + 1, none⟩ = some (.int .i64 n) := fun x => Lib.cell?_alloc_marked x h1
  have a2 : ∀ x, (w.alloc x).cell? ⟨b, o + 2, none⟩ = some (.slice p0 m q0) := fun x => Lib.cell?_alloc_marked x h2
  have HB : Hid (Below w.heap.size w (w.alloc (Obj.cells #[Value.int IntKind.i64 1, Value.int IntKind.i64 n, Value.slice p0 m q0] 55)).drew) := ((Below.refl _ _).alloc (Nat.le_refl _) _).drew
  go_enter Tryz.func43, Tryz.ntmps43
  go_wp2
  go_region
  all_goals go_wp2
  ·refine bodyPost_ret (v := .tuple #[.iface 150 (.int .i64 n), .slice (some ⟨b, o, none⟩) t 0]) (by simp [results, Tryz.results43, go_sem]) rfl ⟨_, _, rfl, HT.out _ (fun h => by omega), ⟨_, [], rfl, .inr (.inl ⟨rfl, rfl⟩), rfl⟩, HB.out⟩
  ·refine bodyPost_ret (v := .tuple #[.iface 150 (.int .i64 n), .slice (some ⟨b, o + 3, none⟩) t (cap - 1)]) (by simp [results, Tryz.results43, go_sem]) rfl ⟨_, _, rfl, HT.out _ (fun h => rfl), ⟨_, [], rfl, .inr (.inl ⟨rfl, rfl⟩), rfl⟩, HB.out⟩
 ·have a0 : ∀ x, (w.alloc x).cell? ⟨b, o, none⟩ = some (.int .i64 2) := fun x => Lib.cell?_alloc_marked x h0
  have a1 : ∀ x, (w.alloc x).cell? ⟨b, o + 1, none⟩ = some (.int .i64 n) := fun x => Lib.cell?_alloc_marked x h1
  have a2 : ∀ x, (w.alloc x).cell? ⟨b, o + 2, none⟩ = some (.slice p0 m q0) := fun x => Lib.cell?_alloc_marked x h2
  have HB : Hid (Below w.heap.size w (w.alloc (Obj.cells #[Value.int IntKind.i64 2, Value.int IntKind.i64 n, Value.slice p0 m q0] 55)).drew) := ((Below.refl _ _).alloc (Nat.le_refl _) _).drew
  have hcv := fun (W : World) (h : Below w.heap.size w W) => conv_str (H4.out.below h) m q0 HM.out 94 Tryz.underlying94
  have hcv' := hcv _ HB.out; have hcv2 : (convert 22 94 (.slice p0 m q0)).run Tryz.prog (w.alloc (Obj.cells #[Value.int IntKind.i64 2, Value.int IntKind.i64 n, Value.slice p0 m q0] 55)).drew = .ok (.string (strOfNums xs)) (w.alloc (Obj.cells #[Value.int IntKind.i64 2, Value.int IntKind.i64 n, Value.slice p0 m q0] 55)).drew := hcv'; clear hcv hcv'
  obtain ⟨str, es⟩ : ∃ str, str = strOfNums xs := ⟨_, rfl⟩
  rw [← es] at hcv2; have HS : Hid (str = strOfNums xs) := es; clear es
  go_enter Tryz.func43, Tryz.ntmps43
  go_wp2
  go_region
  all_goals go_wp2
  ·refine bodyPost_ret (v := .tuple #[.iface 94 (.string str), .slice (some ⟨b, o, none⟩) t 0]) (by simp [results, Tryz.results43, go_sem]) rfl ⟨_, _, rfl, HT.out _ (fun h => by omega), ⟨_, [], rfl, .inr (.inr (.inl ⟨rfl, by rw [HS.out]⟩)), rfl⟩, HB.out⟩
  ·refine bodyPost_ret (v := .tuple #[.iface 94 (.string str), .slice (some ⟨b, o + 3, none⟩) t (cap - 1)]) (by simp [results, Tryz.results43, go_sem]) rfl ⟨_, _, rfl, HT.out _ (fun h => rfl), ⟨_, [], rfl, .inr (.inr (.inl ⟨rfl, by rw [HS.out]⟩)), rfl⟩, HB.out⟩
theorem NodeIn.iface {w : World} {B : Nat} {c : Cel} {K : List Value → Prop} {v : Value} (h : NodeIn w B c K v) : ∃ t x, v = .iface t x := by
 rcases h with h | h | h | ⟨h, b, g, vs, hv, _⟩
 ·exact ⟨_, _, h.2⟩
 ·exact ⟨_, _, h.2⟩
 ·exact ⟨_, _, h.2⟩
 ·exact ⟨_, _, hv⟩
theorem FoIn.iface {w : World} {B : Nat} {c : Cel} {k r : Fo} {v : Value} {vs : List Value} (h : FoIn w B (.node c k r) (v :: vs)) : ∃ t x, v = .iface t x := by
 obtain ⟨v', vr, e, hn, _⟩ := h; obtain ⟨rfl, rfl⟩ := List.cons.inj e; exact hn.iface
def FirstOut (w0 w : World) (c : Cel) (k : Fo) (tail : List Cel) (cap : Nat) (e : Ending) (w' : World) : Prop :=
 ∃ v q l cp, e = .returned (.tuple #[v, .slice q l cp]) ∧ l = tail.length ∧ cp + 1 + k.cells.length = cap ∧ CIn w0 q tail ∧ FoIn w' w.heap.size (.node c k .nil) [v] ∧ Below w.heap.size w w'
theorem row_next {B g n : Nat} {w : World} {vs : List Value} {j : Nat} (h : w.ownsRow B 58 1 (.slice (some ⟨g, 0, none⟩) n n) n (vs ++ List.replicate (n - j) .nilIface)) (hj : vs.length = j) (hlt : j < n) (v : Value) :
  (w.setCell ⟨g, j, none⟩ v).ownsRow B 58 1 (.slice (some ⟨g, 0, none⟩) n n) n ((vs ++ [v]) ++ List.replicate (n - (j + 1)) .nilIface) := by
 have := (h.stored j v).1; rw [List.set_append_right _ _ (by omega), show j - vs.length = 0 by omega, show n - j = (n - (j + 1)) + 1 by omega, List.replicate_succ, List.set_cons_zero] at this; rw [List.append_assoc]; exact this
set_option maxHeartbeats 1000000 in
theorem firstTerm_any : ∀ (N : Nat) (c : Cel) (k : Fo) (p : Option Addr) (l cap : Nat) (tail : List Cel) (w0 w : World), Below w0.heap.size w0 w → k.cells.length ≤ N → (Fo.node c k .nil).ok → l = k.cells.length + tail.length + 1 → l ≤ cap → cap ≤ 9223372036854775807 → CIn w0 p (c :: (k.cells ++ tail)) →
  Calls Tryz.prog 43 #[.slice p l cap] w (FirstOut w0 w c k tail cap) := by
 intro N
 induction N with
 | zero =>
   intro c k p l cap tail w0 w hw hN hok hl hcap hn hc
   have hk : k = .nil := by cases k with | nil => rfl | node a b d => simp [Fo.cells] at hN
   subst hk
   have h3 : c.1 ≠ 3 := fun e => by
    have h1 := hok.2.2.1 e; have h2 := cellB_comp (e ▸ hok.1)
    simp [Fo.count] at h1; omega
   subst hl; have := firstLeaf_any c p cap tail w0 w hw h3 hok.1 (by simpa [Fo.cells] using hcap) hn hc; simp only [Fo.cells, List.length_nil, Nat.zero_add]
   refine this.mono fun e w' ⟨v, q, h1, h2, h3, h4⟩ => ⟨v, q, _, _, h1, rfl, by simp [Fo.cells]; simp [Fo.cells] at hcap; omega, h2, h3, h4⟩
 | succ N ih =>
   intro c k p l cap tail w0 w hw hN hok hl hcap hn hc
   by_cases h3 : c.1 = 3
   ·obtain ⟨b, o, rfl, hcs⟩ := hc (by simp)
    obtain ⟨p0, q0, h0, h1, h2, h4⟩ := (hcs 0 (by simp)).below hw; simp only [List.getD_cons_zero, Nat.zero_mul, Nat.add_zero] at h0 h1 h2 h4; have HW0 : Hid (Below w0.heap.size w0 w) := hw
    have HT : Hid (CIn w0 (some ⟨b, o + 3, none⟩) (k.cells ++ tail)) := fun hl => ⟨b, o + 3, rfl, fun i hi => by
     have := hcs (i + 1) (by simpa using hi); rw [show o + (i + 1) * 3 = o + 3 + i * 3 by omega] at this
     simpa using this⟩
    clear hcs hc hw; have hcnt := hok.2.2.1 h3; have hc1 := cellB_comp (h3 ▸ hok.1); have HOK : Hid k.ok := hok.2.2.2.2.1; obtain ⟨kd, n0, xs⟩ := c; simp only at h3 h0 h1 h2 h4 hcnt hc1; subst h3; have hcl := Fo.count_le k
    obtain ⟨n, en⟩ : ∃ n, n = k.count := ⟨_, rfl⟩
    have HE : Hid (n = k.count) := en; rw [← en] at hcnt hcl; subst hcnt
    have hcap1 : ¬ cap = 1 := by omega
    have hcap2 : (cap = 1) = False := by simpa using hcap1
    obtain ⟨m, hm⟩ : ∃ m, m = xs.length := ⟨_, rfl⟩
    rw [← hm] at h2; have HM : Hid (m = xs.length) := hm; have H4 : Hid (BIn w p0 xs) := h4; have HL : Hid (l = k.cells.length + tail.length + 1) := hl; have HN : Hid (k.cells.length ≤ N + 1) := hN; have HCL : Hid (n ≤ k.cells.length) := hcl
    obtain ⟨l', el⟩ : ∃ l', l = l' + 1 := ⟨l - 1, by omega⟩
    subst el; have HIH : Hid _ := ih; clear en h4 hm hl hN ih hok hcl
    have a0 : ∀ x, (w.alloc x).cell? ⟨b, o, none⟩ = some (.int .i64 3) := fun x => Lib.cell?_alloc_marked x h0
    have a1 : ∀ x, (w.alloc x).cell? ⟨b, o + 1, none⟩ = some (.int .i64 n) := fun x => Lib.cell?_alloc_marked x h1
    have a2 : ∀ x, (w.alloc x).cell? ⟨b, o + 2, none⟩ = some (.slice p0 m q0) := fun x => Lib.cell?_alloc_marked x h2
    have hle : (1 : Int) ≤ (l' : Int) + 1 := by omega
    have hlt : (0 : Int) < (l' : Int) + 1 := by omega
    obtain ⟨i0, hi, hz0, hz1, hz2⟩ := info_parts infoTerm
    have hmx : n ≤ maxLen := by unfold maxLen; omega
    go_enter Tryz.func43, Tryz.ntmps43
    go_wp2_with fail
    go_region
    all_goals go_wp2_with (at_make; refine wpList_make_full _ rfl _ _ 83 rfl (w.heap.size + 1) 58 i0 .nilIface 1 Tryz.underlying83 hi hz0 hz1 _ _ _ _ n rfl rfl rfl rfl (by rw [hz2]; omega) hmx (by simp) ?_; intro w1 hown hgrow)
    have HO1 : Hid (w1.ownsRow (w.heap.size + 1) 58 1 (.slice (some ⟨w.heap.size + 1, 0, none⟩) n n) n ([] ++ List.replicate (n - 0) .nilIface)) := by
     have := hown
     simp [Value.cells, toList_madeCells_one] at this
     exact this
    have HB1 : Hid (Below (w.heap.size + 1) (w.alloc (Obj.cells #[Value.int IntKind.i64 3, Value.int IntKind.i64 n, Value.slice p0 m q0] 55)).drew w1) := (Below.refl _ _).grown hgrow (by simp) (fun k h => by cases h); have HX1 : Hid (Box3 w1 w.heap.size (.int .i64 3) (.int .i64 n) (.slice p0 m q0)) := Box3.of_block (t := 55) ((HB1.out.block _ (by omega)).trans (heap_alloc_new _ _)); have HW1 : Hid (Below w.heap.size w w1) := ((Below.refl _ _).alloc (Nat.le_refl _) _).drew.trans (HB1.out.mono (by omega))
    have hs1 : w.heap.size + 2 ≤ w1.heap.size := by
     rcases HO1.out.2 with ⟨h', _⟩ | ⟨g', cap', cur, hv, hb', hg', _⟩
     ·simp at h'
     ·simp only [Value.slice.injEq, Option.some.injEq, Addr.mk.injEq, and_true, true_and] at hv
      have := (Array.getElem?_eq_some_iff.1 hg').1
      omega
    clear hown hgrow hi hz0 hz1 hz2 a0 a1 a2 h0 h1 h2 hle hlt HB1
    go_loopw [5, 39] (fun s i wr => ∃ (D R : Fo) (vs : List Value) (q : Option Addr) (j l2 c2 : Nat), j ≤ n ∧ l2 ≤ c2 ∧ c2 ≤ cap ∧ i = .int .i64 j ∧ s = .slice q l2 c2 ∧ Hid (k = D.cat R ∧ D.count = j ∧ vs.length = j ∧ l2 = R.cells.length + tail.length ∧ c2 + 1 + D.cells.length = cap) ∧
     Hid (CIn w0 q (R.cells ++ tail)) ∧ Hid (FoIn wr (w.heap.size + 2) D vs) ∧ Hid (wr.ownsRow (w.heap.size + 1) 58 1 (.slice (some ⟨w.heap.size + 1, 0, none⟩) n n) n (vs ++ List.replicate (n - j) .nilIface)) ∧
     Hid (Below w.heap.size w wr) ∧ Hid (Box3 wr w.heap.size (.int .i64 3) (.int .i64 n) (.slice p0 m q0)) ∧ w.heap.size + 2 ≤ wr.heap.size) (fun _ i _ => n - (intOf i).toNat)
    case atStart => exact ⟨.nil, k, [], _, 0, l', cap - 1, Nat.zero_le _, by omega, by omega, rfl, rfl, ⟨rfl, rfl, rfl, by have := HL.out; omega, by simp [Fo.cells]; omega⟩, HT.out, rfl, HO1, HW1, HX1, hs1⟩
    case round =>
     obtain ⟨D, R, vs, q, j, l2, c2, hj, hl2, hc2, rfl, rfl, HF, HC, HI, HR, HB, HX, hsz⟩ := hrel
     by_cases hlt : j < n
     ·obtain ⟨c', k', r', rfl⟩ : ∃ c' k' r', R = .node c' k' r' := by
       cases R with
       | nil =>
         have := HF.out; rw [Fo.cat_nil] at this; have e := HE.out; rw [this.1, this.2.1] at e
         omega
       | node c' k' r' => exact ⟨c', k', r', rfl⟩
      have hok2 := (Fo.ok_cat D (.node c' k' r')).1 (HF.out.1 ▸ HOK.out)
      have hlen : D.cells.length + (k'.cells.length + r'.cells.length + 1) = k.cells.length := by
       rw [HF.out.1, Fo.cells_cat]; simp [Fo.cells]
      have HS := HIH.out c' k' q l2 c2 (r'.cells ++ tail) w0 wr (Below.on HW0.out HB.out) (by have := HN.out; omega) ⟨hok2.2.1, hok2.2.2.1, hok2.2.2.2.1, hok2.2.2.2.2.1, hok2.2.2.2.2.2.1, trivial⟩ (by rw [HF.out.2.2.2.1]; simp [Fo.cells]; omega) hl2 (by omega)
       (by have := HC.out; simpa [Fo.cells, List.append_assoc] using this)
      have HOK2 : Hid r'.ok := hok2.2.2.2.2.2.2; have HLEN : Hid _ := hlen; clear hok2 hlen; go_wp2_with fail; refine HS.mono ?_; rintro e w2 ⟨v, q2, l3, c3, rfl, hl3, hc3, hin3, hfo3, hb3⟩; obtain ⟨vt, vx, rfl⟩ := hfo3.iface
      have d0 : w2.cell? ⟨w.heap.size + 1, j, none⟩ = some .nilIface := by
       rw [hb3.cell (p := ⟨w.heap.size + 1, j, none⟩) (show w.heap.size + 1 < _ by omega), HR.out.cellAt j (by omega), List.getElem?_append_right (by have := HF.out.2.2.1; omega), List.getElem?_replicate, if_pos (by have := HF.out.2.2.1; omega)]
      have d1 : w2.frozen? ⟨w.heap.size + 1, j, none⟩ = false := (hb3.frozen (p := ⟨w.heap.size + 1, j, none⟩) (show w.heap.size + 1 < _ by omega)).trans (HR.out.frozenAt j); have HB3 : Hid (Below wr.heap.size wr w2) := hb3; have HI3 : Hid (CIn w0 q2 (r'.cells ++ tail)) := hin3; have HF3 : Hid (FoIn w2 wr.heap.size (.node c' k' .nil) [.iface vt vx]) := hfo3
      have HL3 : Hid (l3 = (r'.cells ++ tail).length ∧ c3 + 1 + k'.cells.length = c2) := ⟨hl3, hc3⟩
      clear hb3 hin3 hfo3 hl3 hc3 HS
      go_wp2
      have HB2 : Hid (Below w.heap.size w w2) := Below.on HB.out HB3.out; have HR2 : Hid (w2.ownsRow (w.heap.size + 1) 58 1 (.slice (some ⟨w.heap.size + 1, 0, none⟩) n n) n (vs ++ List.replicate (n - j) .nilIface)) := row_below HR.out HB3.out; have HFI : Hid (FoIn w2 (w.heap.size + 2) (D.cat (.node c' k' .nil)) (vs ++ [.iface vt vx])) := FoIn.cat _ _ _ _ (HI.out.below HB3.out) (HF3.out.mono (by omega)); have HX2 : Hid (Box3 w2 w.heap.size (.int .i64 3) (.int .i64 n) (.slice p0 m q0)) := HX.out.below HB3.out (by omega); have hsz2 : w.heap.size + 2 ≤ w2.heap.size := Nat.le_trans hsz HB3.out.size; obtain ⟨e1, e2, e3, e4, e5⟩ := HF.out; have e6 := HLEN.out; have e7 := HL3.out; have G1 := HFI.out.setCell (a := ⟨w.heap.size + 1, j, none⟩) (show w.heap.size + 1 < w.heap.size + 2 by omega) (Value.iface vt vx); have G2 := row_next HR2.out e3 hlt (Value.iface vt vx); have G3 := HX2.out.setCell (a := ⟨w.heap.size + 1, j, none⟩) (show w.heap.size + 1 ≠ w.heap.size by omega) (Value.iface vt vx)
      have G4 := HB2.out.setCell (p := ⟨w.heap.size + 1, j, none⟩) (show w.heap.size ≤ w.heap.size + 1 by omega) (Value.iface vt vx); go_roundw
      case rel => exact ⟨D.cat (.node c' k' .nil), r', vs ++ [Value.iface vt vx], q2, j + 1, l3, c3, by omega, by rw [e7.1, List.length_append]; have := HL.out; omega, by omega, by go_num, rfl,
       ⟨by rw [Fo.cat_assoc]; exact e1, by rw [Fo.count_cat, e2]; rfl, by simp [e3], by rw [e7.1, List.length_append], by rw [Fo.cells_cat]; simp [Fo.cells]; omega⟩, HI3, G1, G2, G4, G3, by simpa using hsz2⟩
      case measure => simp [intOf]; omega
     ·obtain rfl : j = n := by omega
      obtain ⟨e1, e2, e3, e4, e5⟩ := HF.out
      obtain rfl : R = .nil := by
       have e := HE.out; rw [e1, Fo.count_cat] at e
       cases R with
       | nil => rfl
       | node a b d => simp [Fo.count] at e; omega
      rw [Fo.cat_nil] at e1; subst e1; have hcv := conv_str (H4.out.below HB.out) m q0 HM.out 9 Tryz.underlying9
      obtain ⟨str, es⟩ : ∃ str, str = strOfNums xs := ⟨_, rfl⟩
      rw [← es] at hcv; have HS : Hid (str = strOfNums xs) := es; obtain ⟨x0, x1, x2, _⟩ := HX.out
      have HF' : Hid (l2 = tail.length ∧ c2 + 1 + k.cells.length = cap ∧ vs.length = j) := ⟨by simpa [Fo.cells] using e4, e5, e3⟩
      clear es e2 e3 e4 e5 HF; have HA : Hid (Below w.heap.size w (wr.alloc (Obj.cells #[Value.string str, Value.slice (some ⟨w.heap.size + 1, 0, none⟩) j j] 141))) := HB.out.alloc HB.out.size _
      go_wp2
      refine bodyPost_ret (v := .tuple #[.iface 139 (.pointer (some ⟨wr.heap.size, 0, none⟩)), .slice q l2 c2]) (by simp [results, Tryz.results43, go_sem]) rfl ⟨_, q, l2, c2, rfl, HF'.out.1, HF'.out.2.1, HC.out, ?_, HA.out⟩; have hv := HF'.out.2.2; subst hv; have hnew := heap_alloc_new wr (Obj.cells #[Value.string str, Value.slice (some ⟨w.heap.size + 1, 0, none⟩) vs.length vs.length] 141); refine ⟨_, [], rfl, .inr (.inr (.inr ⟨rfl, wr.heap.size, w.heap.size + 1, vs, rfl, by omega, by omega, by rw [← HS.out]; exact (cell_of_row _ _ 0 _ _ _ hnew), cell_of_row _ _ 1 _ _ _ hnew, by simp; omega, fun i hi => ?_, ?_⟩)), rfl⟩
      ·refine Lib.cell?_alloc_marked _ ?_
       rw [HR.out.cellAt i (by omega), List.getElem?_append_left (by omega)]
       simp [List.getD, hi]
      ·exact (HI.out.below ((Below.refl _ _).alloc (Nat.le_refl _) _)).mono (by omega)
   ·have hk : k = .nil := hok.2.2.2.1 h3
    subst hk; subst hl; have := firstLeaf_any c p cap tail w0 w hw h3 hok.1 (by simpa [Fo.cells] using hcap) hn hc; simp only [Fo.cells, List.length_nil, Nat.zero_add]
    refine this.mono fun e w' ⟨v, q, h1, h2, h3, h4⟩ => ⟨v, q, _, _, h1, rfl, by simp [Fo.cells]; simp [Fo.cells] at hcap; omega, h2, h3, h4⟩
theorem flat_one (r : RC) : flat [r] = rcV r := by simp [flat]
theorem ownC_grew {W0 w w' : World} {B g n cap cp : Nat} {p : Option Addr} {cs : List Cel} {rs : List RC} (hn : n = cs.length) (hl : rs.length = cs.length) (hr0 : W0.ownsRow B 55 3 (.slice p n cp) n (flat rs))
  (hf : ∀ i, i < cs.length → Fits W0 B (rs.getD i RC.zero) (cs.getD i Cel.none)) (ha : ApartC p rs) (hb0 : Below W0.heap.size W0 w) (hB : B ≤ W0.heap.size)
  {kd nn : Int} {tp : Option Addr} {tn tc : Nat} {t : List Int} (ht : OwnT w W0.heap.size tp tn tc t)
  (hr : w'.ownsRow B 55 3 (.slice (some ⟨g, 0, none⟩) (n + 1) cap) (n + 1) (flat rs ++ rcV (kd, nn, tp, tn, tc))) (hg : w.grownBy w' (Value.ownBlock (.slice p n cp))) (hat : Value.ownBlock (.slice p n cp) = some g ∨ g = w.heap.size) :
  OwnC w' B (some ⟨g, 0, none⟩) (n + 1) cap (cs ++ [(kd, nn, t)]) := by
 have hown : ∀ k, Value.ownBlock (.slice p n cp) = some k → p = some ⟨k, 0, none⟩ ∧ k < W0.heap.size := fun k hk => by
  rcases hr0.2 with ⟨hv, _⟩ | ⟨g', cap', cur, hv, hb, hg', _⟩
  ·simp only [Value.slice.injEq] at hv; rw [hv.1] at hk; simp [Value.ownBlock] at hk
  ·simp only [Value.slice.injEq] at hv
   rw [hv.1] at hk ⊢
   simp [Value.ownBlock] at hk
   subst hk; exact ⟨rfl, (Array.getElem?_eq_some_iff.1 hg').1⟩
 have hold : ∀ i, i < cs.length → OwnT w B (rs.getD i RC.zero).2.2.1 (rs.getD i RC.zero).2.2.2.1 (rs.getD i RC.zero).2.2.2.2 (cs.getD i Cel.none).2.2 := fun i hi => (hf i hi).2.2.below hb0
 have hlow : ∀ i, i < cs.length → 0 < (rs.getD i RC.zero).2.2.2.1 → ∃ k, (rs.getD i RC.zero).2.2.1 = some ⟨k, 0, none⟩ ∧ k < W0.heap.size := fun i hi hp => by
  obtain ⟨k, e, _, hlt, _⟩ := (hf i hi).2.2.2 hp; exact ⟨k, e, hlt⟩
 have hhigh : 0 < tn → ∃ k, tp = some ⟨k, 0, none⟩ ∧ W0.heap.size ≤ k ∧ k < w.heap.size := fun hp => by
  obtain ⟨k, e, h1, h2, _⟩ := ht.2 hp; exact ⟨k, e, h1, h2⟩
 have hnewg : g < W0.heap.size ∨ g = w.heap.size := by
  rcases hat with h | h
  ·exact .inl (hown g h).2
  ·exact .inr h
 refine ⟨by simp; omega, rs ++ [(kd, nn, tp, tn, tc)], by simp; omega, by rw [flat_append, flat_one]; exact hr, fun i hi => ?_, fun i hi hp => ?_, fun i j hi hj hij hpi hpj => ?_⟩
 ·have hi' : i ≤ cs.length := by simp at hi; omega
  rw [rs_append_at _ _ _ (by omega), cs_append_at _ _ _ hi']
  by_cases e : i = cs.length
  ·rw [if_pos (by omega), if_pos e]
   refine ⟨rfl, rfl, (ht.mono hB).other hg.size (fun k hn0 e' => ?_)⟩; obtain ⟨k', e'', h1, h2⟩ := hhigh hn0
   have hkk : k = k' := by
    have := e'.symm.trans e''; exact congrArg Addr.block (Option.some.inj this)
   refine hg.block k (by omega) (fun hk => ?_); have := (hown k hk.symm).2
   omega
  ·rw [if_neg (by omega), if_neg e]
   refine ⟨(hf i (by omega)).1, (hf i (by omega)).2.1, (hold i (by omega)).other hg.size (fun k hn0 e' => ?_)⟩; obtain ⟨k', e'', h1⟩ := hlow i (by omega) hn0; have hkk : k = k' := congrArg Addr.block (Option.some.inj (e'.symm.trans e'')); refine hg.block k (by have := hb0.size; omega) (fun hk => ?_); exact ha.1 i (by omega) hn0 (by rw [e', (hown k hk.symm).1])
 ·have hi' : i ≤ rs.length := by simp at hi; omega
  rw [rs_append_at _ _ _ hi'] at hp ⊢
  by_cases e : i = rs.length
  ·rw [if_pos e] at hp ⊢
   obtain ⟨k', e'', h1, h2⟩ := hhigh hp; rw [show ((kd, nn, tp, tn, tc) : RC).2.2.1 = tp from rfl, e'']; exact ne_block (by omega) hp
  ·rw [if_neg e] at hp ⊢
   obtain ⟨k', e'', h1⟩ := hlow i (by omega) hp
   rcases hat with h | h
   ·rw [← (hown g h).1]
    exact ha.1 i (by omega) hp
   ·rw [e'']
    exact ne_block (by have := hb0.size; omega) hp
 ·have hi' : i ≤ rs.length := by simp at hi; omega
  have hj' : j ≤ rs.length := by simp at hj; omega
  rw [rs_append_at _ _ _ hi'] at hpi ⊢; rw [rs_append_at _ _ _ hj'] at hpj ⊢
  by_cases e : i = rs.length
  ·rw [if_pos e] at hpi ⊢
   rw [if_neg (by omega)] at hpj ⊢; obtain ⟨k', e'', h1, h2⟩ := hhigh hpi; obtain ⟨k2, e2, h3⟩ := hlow j (by omega) hpj; rw [show ((kd, nn, tp, tn, tc) : RC).2.2.1 = tp from rfl, e'', e2]; exact ne_block (by omega) hpi
  ·rw [if_neg e] at hpi ⊢
   by_cases e' : j = rs.length
   ·rw [if_pos e'] at hpj ⊢
    obtain ⟨k', e'', h1, h2⟩ := hhigh hpj; obtain ⟨k2, e2, h3⟩ := hlow i (by omega) hpi; rw [show ((kd, nn, tp, tn, tc) : RC).2.2.1 = tp from rfl, e'', e2]; exact ne_block (by omega) hpi
   ·rw [if_neg e'] at hpj ⊢
    exact ha.2 i j (by omega) (by omega) hij hpi hpj
theorem rcV_one (r : RC) : ∀ u ∈ rcV r, u.oneCell' = true := fun u hu => by
 simp [rcV] at hu
 rcases hu with rfl | rfl | rfl <;> rfl
theorem app_cell (W0 w : World) {ops : Array Oper} {rest : List Oper} {o : Oper} {a : Act} {Q : Exit → Act → World → Prop} (hgd : o.guard = none) (s x : Operand)
  (ho : o.op = .call { callee := .builtin .append, args := #[s, x], argTypes := #[23, 23] }) (B : Nat) (p : Option Addr) (n c : Nat) (cs : List Cel)
  (hs : a.eval s = .slice p n c) (hown : OwnC W0 B p n c cs) (hb0 : Below W0.heap.size W0 w) (hB : B ≤ W0.heap.size) (ad : Addr) (c' : Nat) (hx : a.eval x = .slice (some ad) 1 c') (kd nn : Int) (tp : Option Addr) (tn tc : Nat) (t : List Int)
  (ht : OwnT w W0.heap.size tp tn tc t) (hnews : ∀ j u, (rcV (kd, nn, tp, tn, tc))[j]? = some u → w.cell? (ad.add j) = some u) (hlen : n + 1 ≤ 1000000000)
  (h : ∀ g n' cap w', OwnC w' B (some ⟨g, 0, none⟩) n' cap (cs ++ [(kd, nn, t)]) → Below B w w' → Hid (n' = n + 1) → wpList Tryz.prog ops Q rest (a.put o.dst (.slice (some ⟨g, 0, none⟩) n' cap)) w') : wpList Tryz.prog ops Q (o :: rest) a w := by
 obtain ⟨i0, hi, hz0, hz1, hz2⟩ := info_parts infoCell; obtain ⟨hn, rs, hl, hr, hf, ha⟩ := hown; refine wpList_append_lies w hgd s x 23 ho B 55 i0 (.agg #[.int .i64 0, .int .i64 0, .slice none 0 0]) 3 40 Tryz.underlying23 hi hz0 hz1 hz2 rfl (by decide) (.slice p n c) n (flat rs) hs (row_below hr hb0) ad 1 c' (rcV (kd, nn, tp, tn, tc)) hx rfl hnews (rcV_one _) (by decide) (by unfold maxLen; omega) (by omega) (Nat.le_trans hB hb0.size) w.heap.size rfl ?_
 intro g cap w' hown' hgrow hat hlt
 refine h g _ cap w' (ownC_grew hn hl hr hf ha hb0 hB ht hown' hgrow hat) ((Below.refl _ _).grown hgrow (Nat.le_trans hB hb0.size) (fun k hk => ?_)) rfl; exact (hr.lt k hk).1
theorem step_app_cell (W0 w : World) {ops : Array Oper} {o : Oper} {a : Act} {K : Act → World → Prop} {Q : Exit → Act → World → Prop} {E : Prop} (hgd : o.guard = none) (s x : Operand)
  (ho : o.op = .call { callee := .builtin .append, args := #[s, x], argTypes := #[23, 23] }) (B : Nat) (p : Option Addr) (n c : Nat) (cs : List Cel)
  (hs : a.eval s = .slice p n c) (hown : OwnC W0 B p n c cs) (hb0 : Below W0.heap.size W0 w) (hB : B ≤ W0.heap.size) (ad : Addr) (c' : Nat) (hx : a.eval x = .slice (some ad) 1 c') (kd nn : Int) (tp : Option Addr) (tn tc : Nat) (t : List Int)
  (ht : OwnT w W0.heap.size tp tn tc t) (hnews : ∀ j u, (rcV (kd, nn, tp, tn, tc))[j]? = some u → w.cell? (ad.add j) = some u) (hlen : n + 1 ≤ 1000000000)
  (h : ∀ g n' cap w', OwnC w' B (some ⟨g, 0, none⟩) n' cap (cs ++ [(kd, nn, t)]) → Below B w w' → Hid (n' = n + 1) → K (a.put o.dst (.slice (some ⟨g, 0, none⟩) n' cap)) w') :
  if Region.wanted o (yielded ops a.tmps) = true then Oper.wp Tryz.prog o a w K Q else E := by
 obtain ⟨i0, hi, hz0, hz1, hz2⟩ := info_parts infoCell; obtain ⟨hn, rs, hl, hr, hf, ha⟩ := hown; refine step_append_lies w hgd s x 23 ho B 55 i0 (.agg #[.int .i64 0, .int .i64 0, .slice none 0 0]) 3 40 Tryz.underlying23 hi hz0 hz1 hz2 rfl (by decide) (.slice p n c) n (flat rs) hs (row_below hr hb0) ad 1 c' (rcV (kd, nn, tp, tn, tc)) hx rfl hnews (rcV_one _) (by decide) (by unfold maxLen; omega) (by omega) (Nat.le_trans hB hb0.size) w.heap.size rfl ?_
 intro g cap w' hown' hgrow hat hlt
 refine h g _ cap w' (ownC_grew hn hl hr hf ha hb0 hB ht hown' hgrow hat) ((Below.refl _ _).grown hgrow (Nat.le_trans hB hb0.size) (fun k hk => ?_)) rfl; exact (hr.lt k hk).1
def AppOut (w : World) (B : Nat) (cs ds : List Cel) (e : Ending) (w' : World) : Prop :=
 ∃ p n c, e = .returned (.slice p n c) ∧ OwnC w' B p n c (cs ++ ds) ∧ Below B w w'
theorem news_rc {w : World} {d : Nat} {r : RC} (h : Box3 w d (.int .i64 r.1) (.int .i64 r.2.1) (.slice r.2.2.1 r.2.2.2.1 r.2.2.2.2)) : ∀ j u, (rcV r)[j]? = some u → w.cell? ((⟨d, 0, none⟩ : Addr).add j) = some u := fun j u hu => by
 have e : (⟨d, 0, none⟩ : Addr).add j = ⟨d, j, none⟩ := by unfold Addr.add; split <;> simp_all
 rw [e]
 rcases j with _ | _ | _ | j
 ·simp only [rcV, List.getElem?_cons_zero, Option.some.injEq] at hu; rw [← hu]; exact h.1
 ·simp only [rcV, List.getElem?_cons_succ, List.getElem?_cons_zero, Option.some.injEq] at hu; rw [← hu]; exact h.2.1
 ·simp only [rcV, List.getElem?_cons_succ, List.getElem?_cons_zero, Option.some.injEq] at hu; rw [← hu]; exact h.2.2.1
 ·simp [rcV] at hu
theorem appVar_any (x : Int) (p : Option Addr) (n c : Nat) (cs : List Cel) (B : Nat) (w : World) (hB : B ≤ w.heap.size) (hn : n ≤ 100000000) (ho : OwnC w B p n c cs) :
  Calls Tryz.prog 437 #[.int .i64 x, .slice p n c] w (AppOut w B cs [(0, x, [])]) := by
 have HO : Hid (OwnC w B p n c cs) := ho; have hb : Below w.heap.size w (w.alloc (Obj.cells #[Value.int IntKind.i64 0, Value.int IntKind.i64 x, Value.slice none 0 0] 55)) := (Below.refl _ _).alloc (Nat.le_refl _) _; have HB : Hid _ := hb; have HX : Hid (Box3 (w.alloc (Obj.cells #[Value.int IntKind.i64 0, Value.int IntKind.i64 x, Value.slice none 0 0] 55)) w.heap.size (.int .i64 0) (.int .i64 x) (.slice none 0 0)) := Box3.of_block (t := 55) (heap_alloc_new _ _); clear ho hb
 go_enter Tryz.func437, Tryz.ntmps437
 go_wp2_with (at_builtin; refine app_cell w _ rfl _ _ rfl B p n c cs rfl HO.out HB.out hB ⟨w.heap.size, 0, none⟩ 1 rfl 0 x none 0 0 [] ⟨rfl, fun h => absurd h (Nat.lt_irrefl 0)⟩ (news_rc HX.out) (by omega) ?_; intro g n' cap w1 hown1 hb1 hn1); go_ret; exact ⟨_, _, _, rfl, hown1, ((Below.refl _ _).alloc hB _).trans hb1⟩
theorem appNum_any (x : Int) (p : Option Addr) (n c : Nat) (cs : List Cel) (B : Nat) (w : World) (hB : B ≤ w.heap.size) (hn : n ≤ 100000000) (ho : OwnC w B p n c cs) :
  Calls Tryz.prog 442 #[.int .i64 x, .slice p n c] w (AppOut w B cs [(1, x, [])]) := by
 have HO : Hid (OwnC w B p n c cs) := ho; have hb : Below w.heap.size w (w.alloc (Obj.cells #[Value.int IntKind.i64 1, Value.int IntKind.i64 x, Value.slice none 0 0] 55)) := (Below.refl _ _).alloc (Nat.le_refl _) _; have HB : Hid _ := hb; have HX : Hid (Box3 (w.alloc (Obj.cells #[Value.int IntKind.i64 1, Value.int IntKind.i64 x, Value.slice none 0 0] 55)) w.heap.size (.int .i64 1) (.int .i64 x) (.slice none 0 0)) := Box3.of_block (t := 55) (heap_alloc_new _ _); clear ho hb
 go_enter Tryz.func442, Tryz.ntmps442
 go_wp2_with (at_builtin; refine app_cell w _ rfl _ _ rfl B p n c cs rfl HO.out HB.out hB ⟨w.heap.size, 0, none⟩ 1 rfl 1 x none 0 0 [] ⟨rfl, fun h => absurd h (Nat.lt_irrefl 0)⟩ (news_rc HX.out) (by omega) ?_; intro g n' cap w1 hown1 hb1 hn1); go_ret; exact ⟨_, _, _, rfl, hown1, ((Below.refl _ _).alloc hB _).trans hb1⟩
theorem appAtom_any (xs : List Int) (hx : Byte xs) (p : Option Addr) (n c : Nat) (cs : List Cel) (B : Nat) (w : World) (hB : B ≤ w.heap.size) (hn : n ≤ 100000000) (ho : OwnC w B p n c cs) :
  Calls Tryz.prog 438 #[.string (strOfNums xs), .slice p n c] w (AppOut w B cs [(2, 0, xs)]) := by
 have HO : Hid (OwnC w B p n c cs) := ho; obtain ⟨w1, cap1, hcv, hb1, ht⟩ := conv_bytes w xs hx 94 Tryz.underlying94
 obtain ⟨m, em⟩ : ∃ m, m = xs.length := ⟨_, rfl⟩
 obtain ⟨str, es⟩ : ∃ str, str = strOfNums xs := ⟨_, rfl⟩
 rw [← em] at hcv ht; rw [← es] at hcv ⊢; have hs1 := hb1.size; have hb : Below w1.heap.size w1 (w1.alloc (Obj.cells #[Value.int IntKind.i64 2, Value.int IntKind.i64 0, Value.slice (some ⟨w.heap.size, 0, none⟩) m cap1] 55)) := (Below.refl _ _).alloc (Nat.le_refl _) _; have HB : Hid (Below w.heap.size w (w1.alloc (Obj.cells #[Value.int IntKind.i64 2, Value.int IntKind.i64 0, Value.slice (some ⟨w.heap.size, 0, none⟩) m cap1] 55))) := Below.on hb1 hb; have HT : Hid (OwnT (w1.alloc (Obj.cells #[Value.int IntKind.i64 2, Value.int IntKind.i64 0, Value.slice (some ⟨w.heap.size, 0, none⟩) m cap1] 55)) w.heap.size (some ⟨w.heap.size, 0, none⟩) m cap1 xs) := ht.below hb; have HX : Hid (Box3 (w1.alloc (Obj.cells #[Value.int IntKind.i64 2, Value.int IntKind.i64 0, Value.slice (some ⟨w.heap.size, 0, none⟩) m cap1] 55)) w1.heap.size (.int .i64 2) (.int .i64 0) (.slice (some ⟨w.heap.size, 0, none⟩) m cap1)) := Box3.of_block (t := 55) (heap_alloc_new _ _)
 have HS : Hid (Below B w (w1.alloc (Obj.cells #[Value.int IntKind.i64 2, Value.int IntKind.i64 0, Value.slice (some ⟨w.heap.size, 0, none⟩) m cap1] 55))) := HB.out.mono hB; clear ho hb hb1 ht em es hx
 go_enter Tryz.func438, Tryz.ntmps438
 go_wp2_with (at_builtin; refine app_cell w _ rfl _ _ rfl B p n c cs rfl HO.out HB.out hB ⟨w1.heap.size, 0, none⟩ 1 rfl 2 0 (some ⟨w.heap.size, 0, none⟩) m cap1 xs HT.out (news_rc HX.out) (by omega) ?_; intro g n' cap w2 hown1 hb2 hn1); go_ret; exact ⟨_, _, _, rfl, hown1, HS.out.trans hb2⟩
def CompAt (w : World) (B : Nat) (s : List Int) (k : Fo) (b g : Nat) (vs : List Value) : Prop :=
 B ≤ b ∧ B ≤ g ∧ w.cell? ⟨b, 0, none⟩ = some (.string (strOfNums s)) ∧ w.cell? ⟨b, 1, none⟩ = some (.slice (some ⟨g, 0, none⟩) vs.length vs.length) ∧ g < w.heap.size ∧ (∀ i, i < vs.length → w.cell? ⟨g, i, none⟩ = some (vs.getD i .nilIface)) ∧ FoIn w B k vs
set_option maxHeartbeats 2000000 in
theorem appComp_any : ∀ (N : Nat) (s : List Int) (k : Fo) (b g : Nat) (vs : List Value) (p : Option Addr) (n cp : Nat) (cs : List Cel) (Bt B : Nat) (w0 w : World), k.cells.length ≤ N → k.ok → Byte s → CompAt w0 Bt s k b g vs → Below w0.heap.size w0 w → w0.heap.size ≤ B → B ≤ w.heap.size →
  OwnC w B p n cp cs → n + 1 + k.cells.length ≤ 1000000 → Calls Tryz.prog 441 #[.pointer (some ⟨b, 0, none⟩), .slice p n cp] w (AppOut w B cs ((3, k.count, s) :: k.cells)) := by
 intro N
 induction N using Nat.strongRecOn with
 | _ N ih =>
   intro s k b g vs p n cp cs Bt B w0 w hN hok hs hcomp hw hB0 hB ho hn
   have HO : Hid (OwnC w B p n cp cs) := ho; have HC : Hid (CompAt w0 Bt s k b g vs) := hcomp; have HW : Hid (Below w0.heap.size w0 w) := hw; obtain ⟨w1, cap1, hcv, hb1, ht⟩ := conv_bytes w.drew s hs 9 Tryz.underlying9; have hvl : vs.length = k.count := FoIn.count _ _ hcomp.2.2.2.2.2.2; have c0 := (hw.cell (World.block_lt_of_cell? _ _ hcomp.2.2.1)).trans hcomp.2.2.1; have c1 := (hw.cell (World.block_lt_of_cell? _ _ hcomp.2.2.2.1)).trans hcomp.2.2.2.1; have hw1 : Below w.heap.size w w1 := (Below.refl _ _).drew.trans hb1; have d0 := (hw1.cell (World.block_lt_of_cell? _ _ c0)).trans c0; have d1 := (hw1.cell (World.block_lt_of_cell? _ _ c1)).trans c1
   obtain ⟨m, em⟩ : ∃ m, m = s.length := ⟨_, rfl⟩
   obtain ⟨str, es⟩ : ∃ str, str = strOfNums s := ⟨_, rfl⟩
   obtain ⟨q, eq⟩ : ∃ q, q = vs.length := ⟨_, rfl⟩
   rw [← em] at hcv ht; rw [← es] at hcv c0 d0; rw [← eq] at c1 d1; have hs1 := hb1.size; have hcv' : (convert 9 22 (.string str)).run Tryz.prog w.drew = .ok (.slice (some ⟨w.heap.size, 0, none⟩) m cap1) w1 := hcv; have ht' : OwnT w1 w.heap.size (some ⟨w.heap.size, 0, none⟩) m cap1 s := ht; have hb : Below w1.heap.size w1 (w1.alloc (Obj.cells #[Value.int IntKind.i64 3, Value.int IntKind.i64 q, Value.slice (some ⟨w.heap.size, 0, none⟩) m cap1] 55)) := (Below.refl _ _).alloc (Nat.le_refl _) _; have HB : Hid (Below w.heap.size w (w1.alloc (Obj.cells #[Value.int IntKind.i64 3, Value.int IntKind.i64 q, Value.slice (some ⟨w.heap.size, 0, none⟩) m cap1] 55))) := Below.on hw1 hb; have HT : Hid (OwnT (w1.alloc (Obj.cells #[Value.int IntKind.i64 3, Value.int IntKind.i64 q, Value.slice (some ⟨w.heap.size, 0, none⟩) m cap1] 55)) w.heap.size (some ⟨w.heap.size, 0, none⟩) m cap1 s) := ht'.below hb
   have HX : Hid (Box3 (w1.alloc (Obj.cells #[Value.int IntKind.i64 3, Value.int IntKind.i64 q, Value.slice (some ⟨w.heap.size, 0, none⟩) m cap1] 55)) w1.heap.size (.int .i64 3) (.int .i64 q) (.slice (some ⟨w.heap.size, 0, none⟩) m cap1)) := Box3.of_block (t := 55) (heap_alloc_new _ _); have HIH : Hid _ := ih
   have HE : Hid (q = vs.length ∧ vs.length = k.count) := ⟨eq, hvl⟩
   have hq : q ≤ 1000000 := by have := Fo.count_le k; omega
   clear ih ho hcomp hw em es eq hvl hb1 ht ht' hcv hb hw1
   go_enter Tryz.func441, Tryz.ntmps441
   go_upto_region 1 with fail
   go_cut [1] from 7 (fun v wc => ∃ g2 n2 c2, v = .slice (some ⟨g2, 0, none⟩) n2 c2 ∧ Hid (OwnC wc B (some ⟨g2, 0, none⟩) n2 c2 (cs ++ [((3, (q : Int), s) : Cel)])) ∧ Hid (Below B w wc) ∧ n2 = n + 1)
   case first =>
    go_region_law (refine step_app_cell w _ rfl _ _ rfl B p n cp cs rfl HO.out HB.out hB ⟨w1.heap.size, 0, none⟩ 1 rfl 3 q (some ⟨w.heap.size, 0, none⟩) m cap1 s HT.out (news_rc HX.out) (by omega) ?_; intro g1 n1 cap2 w2 hown1 hb2 hn1)
    all_goals go_wp2_with fail
    all_goals go_meet
    all_goals exact ⟨g1, n1, cap2, rfl, hown1, (HB.out.mono hB).trans hb2, hn1⟩
   case rest =>
    obtain ⟨g2, n2, c2, rfl, HO2, HB2, hn2⟩ := hcut; have e1 : wc.cell? ⟨b, 1, none⟩ = some (.slice (some ⟨g, 0, none⟩) q q) := (HB2.out.cell (p := ⟨b, 1, none⟩) (by have := World.block_lt_of_cell? _ _ HC.out.2.2.2.1; show b < B; simp at this; omega)).trans c1; clear c0 c1 d0 d1 hcv' HO HB HT HX; go_wp2_with fail
    go_loopw [1, 26] (fun v i wr => ∃ (D R : Fo) (us vs2 : List Value) (j : Nat) (p4 : Option Addr) (n4 c4 : Nat), j ≤ q ∧ n4 ≤ 1000000 ∧ i = .int .i64 j ∧ v = .slice p4 n4 c4 ∧ Hid (k = D.cat R ∧ vs = us ++ vs2 ∧ us.length = j ∧ n4 = n + 1 + D.cells.length) ∧ Hid (FoIn w0 Bt R vs2) ∧
     Hid (OwnC wr B p4 n4 c4 (cs ++ ((3, (q : Int), s) : Cel) :: D.cells)) ∧ Hid (Below B w wr)) (fun _ i _ => q - (intOf i).toNat)
    case atStart => exact ⟨.nil, k, [], vs, 0, _, _, _, Nat.zero_le _, by omega, rfl, rfl, ⟨rfl, rfl, rfl, by simp [Fo.cells, hn2]⟩, HC.out.2.2.2.2.2.2, HO2, HB2⟩
    case round =>
     obtain ⟨D, R, us, vs2, j, p4, n4, c4, hj, hn4, rfl, rfl, HF, HR, HO4, HB4⟩ := hrel
     by_cases hlt : j < q
     ·obtain ⟨c', k', r', rfl⟩ : ∃ c' k' r', R = .node c' k' r' := by
       cases R with
       | nil =>
         have h1 := HF.out; have h2 : vs2 = [] := HR.out; have h3 := HE.out.1; rw [h1.2.1, h2, List.append_nil] at h3
         omega
       | node c' k' r' => exact ⟨c', k', r', rfl⟩
      obtain ⟨v, vr, rfl, hnode, hrest⟩ := HR.out; have hok2 := (Fo.ok_cat D (.node c' k' r')).1 (HF.out.1 ▸ hok)
      have hlen : D.cells.length + (k'.cells.length + r'.cells.length + 1) = k.cells.length := by
       rw [HF.out.1, Fo.cells_cat]; simp [Fo.cells]
      have hat : w0.cell? ⟨g, j, none⟩ = some v := by
       rw [HC.out.2.2.2.2.2.1 j (by rw [← HE.out.1]; exact hlt), HF.out.2.1]
       simp [List.getD, HF.out.2.2.1]
      have hwr : Below w0.heap.size w0 wr := HW.out.trans (HB4.out.mono hB0); have c5 : wr.cell? ⟨g, j, none⟩ = some v := (hwr.cell (World.block_lt_of_cell? _ _ hat)).trans hat
      have next : ∀ p3 n3 c3 w3, OwnC w3 B p3 n3 c3 ((cs ++ ((3, (q : Int), s) : Cel) :: D.cells) ++ (c' :: k'.cells)) → Below B wr w3 →
        ∃ (D R : Fo) (us vs2 : List Value) (j' : Nat) (p4 : Option Addr) (n4 c4 : Nat), j' ≤ q ∧ n4 ≤ 1000000 ∧ Value.int .i64 ((j : Int) + 1) = .int .i64 j' ∧ Value.slice p3 n3 c3 = .slice p4 n4 c4 ∧ Hid (k = D.cat R ∧ vs = us ++ vs2 ∧ us.length = j' ∧ n4 = n + 1 + D.cells.length) ∧ Hid (FoIn w0 Bt R vs2) ∧
          Hid (OwnC w3 B p4 n4 c4 (cs ++ ((3, (q : Int), s) : Cel) :: D.cells)) ∧ Hid (Below B w w3) := fun p3 n3 c3 w3 h1 h2 => by
       have e3 := h1.1; have e4 := HO4.out.1; have e5 := HF.out.2.2.2; simp only [List.length_append, List.length_cons] at e3 e4; refine ⟨D.cat (.node c' k' .nil), r', us ++ [v], vr, j + 1, p3, n3, c3, by omega, by omega, by go_num, rfl, ⟨by rw [Fo.cat_assoc]; exact HF.out.1, by rw [HF.out.2.1]; simp, by simp [HF.out.2.2.1], ?_⟩, hrest, ?_, HB4.out.trans h2⟩
       ·rw [Fo.cells_cat]; simp [Fo.cells]; omega
       ·show OwnC _ _ _ _ _ _
        rw [Fo.cells_cat]; simpa [Fo.cells] using h1
      have NEXT : Hid _ := next
      clear next
      have hB4 : B ≤ wr.heap.size := Nat.le_trans hB HB4.out.size
      rcases hnode with ⟨h0, rfl⟩ | ⟨h0, rfl⟩ | ⟨h0, rfl⟩ | ⟨h0, b5, g5, kv, rfl, h5⟩
      ·have hk' : k' = .nil := hok2.2.2.2.2.1 (by rw [h0]; decide)
       have hcl := hok2.2.1; obtain ⟨c0, c1, c2'⟩ := c'; simp only at h0 hcl; subst h0 hk'
       have e : c2' = [] := by simp [cellB] at hcl; exact hcl.2.2
       subst e; have HS := appVar_any c1 p4 n4 c4 _ B wr hB4 (by omega) HO4.out; clear hok2 hlen hat hcl hrest hwr HO4 HR HIH; go_wp2_with fail; refine HS.mono ?_; rintro e w3 ⟨p3, n3, c3, rfl, hown3, hb3⟩; go_wp2_with fail; go_roundw
       case rel => exact NEXT.out p3 n3 c3 w3 hown3 hb3
       case measure => simp [intOf]; omega
      ·have hk' : k' = .nil := hok2.2.2.2.2.1 (by rw [h0]; decide)
       have hcl := hok2.2.1; obtain ⟨c0, c1, c2'⟩ := c'; simp only at h0 hcl; subst h0 hk'
       have e : c2' = [] := by simp [cellB] at hcl; exact hcl.2.2
       subst e; have HS := appNum_any c1 p4 n4 c4 _ B wr hB4 (by omega) HO4.out; clear hok2 hlen hat hcl hrest hwr HO4 HR HIH; go_wp2_with fail; refine HS.mono ?_; rintro e w3 ⟨p3, n3, c3, rfl, hown3, hb3⟩; go_wp2_with fail; go_roundw
       case rel => exact NEXT.out p3 n3 c3 w3 hown3 hb3
       case measure => simp [intOf]; omega
      ·have hk' : k' = .nil := hok2.2.2.2.2.1 (by rw [h0]; decide)
       have hcl := hok2.2.1; have hby := hok2.2.2.1; obtain ⟨c0, c1, c2'⟩ := c'; simp only at h0 hcl hby c5; subst h0 hk'
       have e : c1 = 0 := by simp [cellB] at hcl; exact hcl.2
       subst e; have HS := appAtom_any c2' hby p4 n4 c4 _ B wr hB4 (by omega) HO4.out
       obtain ⟨st, est⟩ : ∃ st, st = strOfNums c2' := ⟨_, rfl⟩
       rw [← est] at HS c5; clear hok2 hlen hat hcl hrest hwr HO4 HR HIH hby est; go_wp2_with fail; refine HS.mono ?_; rintro e w3 ⟨p3, n3, c3, rfl, hown3, hb3⟩; go_wp2_with fail; go_roundw
       case rel => exact NEXT.out p3 n3 c3 w3 hown3 hb3
       case measure => simp [intOf]; omega
      ·have hcl := hok2.2.1
       have hby := hok2.2.2.1; have hcn := hok2.2.2.2.1 h0; obtain ⟨c0, c1, c2'⟩ := c'; simp only at h0 hcl hby hcn h5; subst h0 hcn; have HS := HIH.out k'.cells.length (by omega) c2' k' b5 g5 kv p4 n4 c4 _ Bt B w0 wr (Nat.le_refl _) hok2.2.2.2.2.2.1 hby h5 hwr hB0 hB4 HO4.out (by have := HF.out.2.2.2; omega); clear hok2 hlen hat hcl hrest hwr HO4 HR HIH hby h5; go_wp2_with fail; refine HS.mono ?_; rintro e w3 ⟨p3, n3, c3, rfl, hown3, hb3⟩; go_wp2_with fail; go_roundw
       case rel => exact NEXT.out p3 n3 c3 w3 hown3 hb3
       case measure => simp [intOf]; omega
     ·obtain rfl : j = q := by omega
      obtain rfl : R = .nil := by
       have h1 := FoIn.count _ _ HR.out; have h2 := HE.out; rw [HF.out.2.1, List.length_append] at h2; have h3 := HF.out.2.2.1
       cases R with
       | nil => rfl
       | node a b d => simp [Fo.count] at h1; omega
      have HF' : Hid (D = k) := by have := HF.out.1; rw [Fo.cat_nil] at this; exact this.symm
      go_wp2_with fail; go_ret; refine ⟨_, _, _, rfl, ?_, HB4.out⟩; have h1 := HO4.out; rw [HF'.out, HE.out.1, HE.out.2] at h1; exact h1
end Go.Proofs.YtdmmchoicngblaaGreatDoor
