/- Forests of cells, and how trees lie in memory. Own work of the verifier. -/
import Derived.Test.YtpcmfdbcjegbcaaGreatDoorValid2
import Derived.Laws.BytesArg
namespace Go.Proofs.YtpcmfdbcjegbcaaGreatDoor
open Go Go.RowKit
set_option linter.unusedVariables false

/-- A forest: a first tree (its cell, what is below it) and the others. -/
inductive Fo where
  | nil : Fo
  | node : Cel → Fo → Fo → Fo
def Fo.cells : Fo → List Cel
  | .nil => []
  | .node c k r => c :: (k.cells ++ r.cells)
def Fo.count : Fo → Nat
  | .nil => 0
  | .node _ _ r => r.count + 1
def Fo.cat : Fo → Fo → Fo
  | .nil, s => s
  | .node c k r, s => .node c k (r.cat s)

def Fo.ok : Fo → Prop
  | .nil => True
  | .node c k r => cellB c.1 c.2.1 c.2.2.length = true ∧ Byte c.2.2 ∧ (c.1 = 3 → c.2.1 = k.count) ∧ (c.1 ≠ 3 → k = .nil) ∧ k.ok ∧ r.ok
theorem Fo.cells_cat : ∀ a b : Fo, (a.cat b).cells = a.cells ++ b.cells
  | .nil, b => rfl
  | .node c k r, b => by simp [Fo.cat, Fo.cells, Fo.cells_cat r b]
theorem Fo.count_cat : ∀ a b : Fo, (a.cat b).count = a.count + b.count
  | .nil, b => by simp [Fo.cat, Fo.count]
  | .node c k r, b => by simp only [Fo.cat, Fo.count, Fo.count_cat r b]; omega
theorem Fo.ok_cat : ∀ a b : Fo, (a.cat b).ok ↔ a.ok ∧ b.ok
  | .nil, b => by simp [Fo.cat, Fo.ok]
  | .node c k r, b => by
    have := Fo.ok_cat r b
    simp only [Fo.cat, Fo.ok]
    constructor
    · rintro ⟨h1, h2, h3, h4, h5, h6⟩
      exact ⟨⟨h1, h2, h3, h4, h5, (this.1 h6).1⟩, (this.1 h6).2⟩
    · rintro ⟨⟨h1, h2, h3, h4, h5, h6⟩, h7⟩
      exact ⟨h1, h2, h3, h4, h5, this.2 ⟨h6, h7⟩⟩
theorem Fo.cat_nil : ∀ a : Fo, a.cat .nil = a
  | .nil => rfl
  | .node c k r => by rw [Fo.cat, Fo.cat_nil r]
theorem Fo.cat_assoc : ∀ a b c : Fo, (a.cat b).cat c = a.cat (b.cat c)
  | .nil, b, c => rfl
  | .node x k r, b, c => by simp only [Fo.cat, Fo.cat_assoc r b c]
theorem Fo.count_le : ∀ a : Fo, a.count ≤ a.cells.length
  | .nil => Nat.le_refl _
  | .node c k r => by have := Fo.count_le r; simp [Fo.count, Fo.cells]; omega
/-- The first n trees, and the others. -/
theorem Fo.parted : ∀ (n : Nat) (a : Fo), n ≤ a.count → ∃ x y : Fo, a = x.cat y ∧ x.count = n
  | 0, a, _ => ⟨.nil, a, rfl, rfl⟩
  | n + 1, .nil, h => by simp [Fo.count] at h
  | n + 1, .node c k r, h => by
    obtain ⟨x, y, e, hx⟩ := Fo.parted n r (by simpa [Fo.count] using h)
    exact ⟨.node c k x, y, by rw [Fo.cat, e], by rw [Fo.count, hx]⟩

/-- What is valid is a forest. -/
theorem forest_of : ∀ (cs : List Cel) (m : Nat), (∀ i, i < cs.length → Byte (cs.getD i Cel.none).2.2) → validFrom m cs = true → ∃ F : Fo, F.count = m ∧ F.cells = cs ∧ F.ok
  | [], m, _, h => by
    have : m = 0 := by simpa [validFrom] using h
    exact ⟨.nil, by simp [Fo.count, this], rfl, trivial⟩
  | c :: r, m, hb, h => by
    rw [validFrom] at h
    split at h
    · cases h
    rename_i hc
    rw [not_or] at hc
    obtain ⟨hm, hc⟩ := hc
    have hc' : cellB c.1 c.2.1 c.2.2.length = true := by simpa using hc
    have hbr : ∀ i, i < r.length → Byte (r.getD i Cel.none).2.2 := fun i hi => by simpa using hb (i + 1) (by simpa using hi)
    have hb0 : Byte c.2.2 := by simpa using hb 0 (by simp)
    by_cases h3 : c.1 = 3
    · have hc1 := cellB_comp (h3 ▸ hc')
      obtain ⟨n, hn⟩ : ∃ n : Nat, c.2.1 = n := ⟨c.2.1.toNat, by omega⟩
      obtain ⟨F, hF1, hF2, hF3⟩ := forest_of r (m - 1 + n) hbr (by
        have e : ((m - 1 + n : Nat) : Int) = m - 1 + grows c.1 c.2.1 := by rw [grows, if_pos h3, hn]; omega
        rw [e]; exact h)
      obtain ⟨x, y, rfl, hx⟩ := Fo.parted n F (by omega)
      rw [Fo.count_cat] at hF1
      have hok := (Fo.ok_cat x y).1 hF3
      exact ⟨.node c x y, by rw [Fo.count]; omega, by rw [Fo.cells, ← Fo.cells_cat, hF2], hc', hb0, fun _ => by rw [hx, hn], fun h => absurd h3 h, hok.1, hok.2⟩
    · obtain ⟨F, hF1, hF2, hF3⟩ := forest_of r (m - 1) hbr (by
        have e : ((m - 1 : Nat) : Int) = m - 1 + grows c.1 c.2.1 := by rw [grows, if_neg h3]; omega
        rw [e]; exact h)
      exact ⟨.node c .nil F, by rw [Fo.count]; omega, by rw [Fo.cells, hF2]; rfl, hc', hb0, fun h => absurd h h3, fun _ => rfl, trivial, hF3⟩

/-- The value of a tree, by its cell; K says what the values of its parts are. -/
def NodeIn (w : World) (B : Nat) (c : Cel) (K : List Value → Prop) (v : Value) : Prop :=
  (c.1 = 0 ∧ v = .iface 110 (.int .i64 c.2.1)) ∨ (c.1 = 1 ∧ v = .iface 41 (.int .i64 c.2.1)) ∨ (c.1 = 2 ∧ v = .iface 104 (.string (strOfNums c.2.2))) ∨
  (c.1 = 3 ∧ ∃ b g vs, v = .iface 107 (.pointer (some ⟨b, 0, none⟩)) ∧ B ≤ b ∧ B ≤ g ∧ w.cell? ⟨b, 0, none⟩ = some (.string (strOfNums c.2.2)) ∧
    w.cell? ⟨b, 1, none⟩ = some (.slice (some ⟨g, 0, none⟩) vs.length vs.length) ∧ g < w.heap.size ∧ (∀ i, i < vs.length → w.cell? ⟨g, i, none⟩ = some (vs.getD i .nilIface)) ∧ K vs)
/-- The values of a forest's trees. -/
def FoIn (w : World) (B : Nat) : Fo → List Value → Prop
  | .nil, vs => vs = []
  | .node c k r, vs => ∃ v vr, vs = v :: vr ∧ NodeIn w B c (fun kv => FoIn w B k kv) v ∧ FoIn w B r vr
theorem NodeIn.imp {w w' : World} {B B' : Nat} {c : Cel} {K K' : List Value → Prop} {v : Value} (h : NodeIn w B c K v) (hB : B' ≤ B) (hc : ∀ b o, B ≤ b → b < w.heap.size → w'.cell? ⟨b, o, none⟩ = w.cell? ⟨b, o, none⟩) (hs : w.heap.size ≤ w'.heap.size) (hK : ∀ vs, K vs → K' vs) : NodeIn w' B' c K' v := by
  rcases h with h | h | h | ⟨h, b, g, vs, hv, h1, h2, c0, c1, hg, cg, hk⟩
  · exact .inl h
  · exact .inr (.inl h)
  · exact .inr (.inr (.inl h))
  · have hb := World.block_lt_of_cell? _ _ c0
    exact .inr (.inr (.inr ⟨h, b, g, vs, hv, by omega, by omega, (hc _ _ h1 hb).trans c0, (hc _ _ h1 hb).trans c1, by omega, fun i hi => (hc _ _ h2 hg).trans (cg i hi), hK _ hk⟩))
theorem FoIn.imp {w w' : World} {B B' : Nat} (hB : B' ≤ B) (hc : ∀ b o, B ≤ b → b < w.heap.size → w'.cell? ⟨b, o, none⟩ = w.cell? ⟨b, o, none⟩) (hs : w.heap.size ≤ w'.heap.size) : ∀ (F : Fo) (vs : List Value), FoIn w B F vs → FoIn w' B' F vs
  | .nil, vs, h => h
  | .node c k r, vs, ⟨v, vr, e, hn, hr⟩ => ⟨v, vr, e, hn.imp hB hc hs (fun kv => FoIn.imp hB hc hs k kv), FoIn.imp hB hc hs r vr hr⟩
theorem FoIn.below {w w' : World} {B : Nat} {F : Fo} {vs : List Value} (h : FoIn w B F vs) (hb : Below w.heap.size w w') : FoIn w' B F vs :=
  FoIn.imp (Nat.le_refl _) (fun b o _ hlt => hb.cell (p := ⟨b, o, none⟩) hlt) hb.size F vs h
theorem FoIn.mono {w : World} {B B' : Nat} {F : Fo} {vs : List Value} (h : FoIn w B F vs) (hB : B' ≤ B) : FoIn w B' F vs := FoIn.imp hB (fun _ _ _ _ => rfl) (Nat.le_refl _) F vs h
theorem FoIn.setCell {w : World} {B : Nat} {F : Fo} {vs : List Value} (h : FoIn w B F vs) {a : Addr} (ha : a.block < B) (u : Value) : FoIn (w.setCell a u) B F vs :=
  FoIn.imp (Nat.le_refl _) (fun b o hb _ => World.cell?_setCell_other _ _ _ _ (fun e => by rw [e] at ha; simp at ha; omega)) (by simp) F vs h
theorem FoIn.count {w : World} {B : Nat} : ∀ (F : Fo) (vs : List Value), FoIn w B F vs → vs.length = F.count
  | .nil, vs, h => by rw [show vs = [] from h]; rfl
  | .node c k r, vs, ⟨v, vr, e, hn, hr⟩ => by rw [e, List.length_cons, FoIn.count r vr hr]; rfl
theorem FoIn.cat {w : World} {B : Nat} : ∀ (F G : Fo) (vs us : List Value), FoIn w B F vs → FoIn w B G us → FoIn w B (F.cat G) (vs ++ us)
  | .nil, G, vs, us, h, hg => by rw [show vs = [] from h]; exact hg
  | .node c k r, G, vs, us, ⟨v, vr, e, hn, hr⟩, hg => ⟨v, vr ++ us, by rw [e]; rfl, hn, FoIn.cat r G vr us hr hg⟩

end Go.Proofs.YtpcmfdbcjegbcaaGreatDoor
