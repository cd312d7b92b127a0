/- Texts of FoS, WiN, WiO. Own work of the verifier. -/
import Derived.Test.YtgonpnnlpkjkcaaGreatDoorUqaz
namespace Go.Proofs.YtgonpnnlpkjkcaaGreatDoor
open Go Go.RowKit
set_option linter.unusedVariables false

open Classical in
/-- A world with these blocks struck out. -/
noncomputable def strikeA (A : Nat → Prop) (W : World) : World := { W with heap := W.heap.mapIdx fun i o => if A i then .deferred none else o }
theorem strikeA_size (A : Nat → Prop) (W : World) : (strikeA A W).heap.size = W.heap.size := by simp [strikeA]
open Classical in
theorem strikeA_cell {A : Nat → Prop} {W : World} {p : Addr} {v : Value} : (strikeA A W).cell? p = some v ↔ ¬ A p.block ∧ W.cell? p = some v := by
  have e : (strikeA A W).heap[p.block]? = W.heap[p.block]?.map fun o => if A p.block then .deferred none else o := by simp [strikeA]
  unfold World.cell?
  rw [e]
  by_cases h : A p.block
  · cases W.heap[p.block]? <;> simp [h]
  · cases W.heap[p.block]? <;> simp [h]
/-- Trees that keep clear of A. -/
def FoA (A : Nat → Prop) (W : World) (F : Fo) (vs : List Value) : Prop := FoIn (strikeA A W) 0 F vs
theorem FoA.foIn {A : Nat → Prop} {W : World} {F : Fo} {vs : List Value} (h : FoA A W F vs) : FoIn W 0 F vs :=
  FoIn.imp2 (Nat.le_refl _) (fun p v hp => (strikeA_cell.1 hp).2) (by rw [strikeA_size]; exact Nat.le_refl _) F vs h
/-- They stay where A is no greater and their cells are kept. -/
theorem FoA.move {A A' : Nat → Prop} {W W' : World} {F : Fo} {vs : List Value} (h : FoA A W F vs) (hA : ∀ p v, ¬ A p.block → W.cell? p = some v → ¬ A' p.block ∧ W'.cell? p = some v) (hs : W.heap.size ≤ W'.heap.size) : FoA A' W' F vs :=
  FoIn.imp2 (Nat.le_refl _) (fun p v hp => strikeA_cell.2 (hA p v (strikeA_cell.1 hp).1 (strikeA_cell.1 hp).2)) (by rw [strikeA_size, strikeA_size]; exact hs) F vs h
theorem FoIn.foA {W0 W : World} {Bt : Nat} {F : Fo} {vs : List Value} (h : FoIn W0 Bt F vs) (hb : Below W0.heap.size W0 W) {A : Nat → Prop} (hA : ∀ a, A a → W0.heap.size ≤ a) : FoA A W F vs :=
  FoIn.imp2 (Nat.zero_le _) (fun p v hp => strikeA_cell.2 ⟨fun ha => by have := hA _ ha; have := World.block_lt_of_cell? _ _ hp; omega, (hb.cell (World.block_lt_of_cell? _ _ hp)).trans hp⟩) (by rw [strikeA_size]; exact hb.size) F vs h
theorem foA_comp {A : Nat → Prop} {W : World} {n : Int} {nm : List Int} {k : Fo} {b g : Nat} {vs : List Value} (hA : ¬ A b) (hG : ¬ A g) (h0 : W.cell? ⟨b, 0, none⟩ = some (.string (strOfNums nm))) (h1 : W.cell? ⟨b, 1, none⟩ = some (.slice (some ⟨g, 0, none⟩) vs.length vs.length)) (hg : g < W.heap.size)
    (hc : ∀ i, i < vs.length → W.cell? ⟨g, i, none⟩ = some (vs.getD i .nilIface)) (hk : FoA A W k vs) : FoA A W (.node (3, n, nm) k .nil) [.iface 99 (.pointer (some ⟨b, 0, none⟩))] :=
  ⟨_, [], rfl, .inr (.inr (.inr ⟨rfl, b, g, vs, rfl, Nat.zero_le _, Nat.zero_le _, strikeA_cell.2 ⟨hA, h0⟩, strikeA_cell.2 ⟨hA, h1⟩, by rw [strikeA_size]; exact hg, fun i hi => strikeA_cell.2 ⟨hG, hc i hi⟩, hk⟩)), rfl⟩
theorem FoA.cat {A : Nat → Prop} {W : World} {F G : Fo} {vs us : List Value} (h : FoA A W F vs) (h' : FoA A W G us) : FoA A W (F.cat G) (vs ++ us) := FoIn.cat _ _ _ _ h h'
theorem foA_atom {A : Nat → Prop} {W : World} {nm : List Int} : FoA A W (.node (2, 0, nm) .nil .nil) [.iface 97 (.string (strOfNums nm))] :=
  ⟨_, [], rfl, .inr (.inr (.inl ⟨rfl, rfl⟩)), rfl⟩

end Go.Proofs.YtgonpnnlpkjkcaaGreatDoor

namespace Go.Proofs.YtgonpnnlpkjkcaaGreatDoor
open Go Go.RowKit
set_option linter.unusedVariables false

/-- What is known of the table: its types, priorities, names; no operator is the pair of curly brackets. -/
structure TabG (T : List Cel) : Prop where
  op : ∀ j, j < T.length → Byte (T.getD j Cel.none).2.2 ∧ (T.getD j Cel.none).2.2.length ≤ 100 ∧ (1 ≤ (T.getD j Cel.none).1 ∧ (T.getD j Cel.none).1 ≤ 1200) ∧ 0 ≤ (T.getD j Cel.none).2.1 ∧ (T.getD j Cel.none).2.1 ≤ 6
  cur : ∀ pf, findW T [123, 125] pf = -1
theorem find_neg {T : List Cel} {xs : List Int} {pf : Bool} (h : ¬ 0 ≤ findW T xs pf) : findW T xs pf = -1 := by
  rcases find_rng T xs pf with hf | ⟨j, hj, hf⟩
  · exact hf
  · exact absurd (by rw [hf]; omega) h
theorem find_post {T : List Cel} (hT : TabG T) {xs : List Int} (h : 0 ≤ findW T xs false) : postB (opW T (findW T xs false)).2.1 = !infB (opW T (findW T xs false)).2.1 := by
  rcases find_rng T xs false with hf | ⟨j, hj, hf⟩
  · rw [hf] at h; exact absurd h (by decide)
  · have h1 := find_hit hj hf
    rw [hf]
    have e : opW T (j : Int) = T.getD j Cel.none := by simp [opW]
    rw [e] at h1 ⊢
    have h2 := (hT.op j hj).2.2.2
    generalize (T.getD j Cel.none).2.1 = t at h1 h2 ⊢
    unfold preB at h1
    unfold postB infB
    by_cases h3 : t ≤ 2
    · have a5 : (t == 5) = false := by rw [beq_eq_false_iff_ne]; omega
      have a6 : (t == 6) = false := by rw [beq_eq_false_iff_ne]; omega
      rw [a5, a6, decide_eq_true h3]; rfl
    · have a3 : t ≠ 3 := fun hh => by rw [hh] at h1; exact absurd h1 (by decide)
      have a4 : t ≠ 4 := fun hh => by rw [hh] at h1; exact absurd h1 (by decide)
      rcases (by omega : t = 5 ∨ t = 6) with rfl | rfl <;> rfl
theorem ww_all {w : World} {mb M B : Nat} {T : List Cel} (hM : OpMap w mb M T) (hT : TabG T) (c : Cel) (k : Fo) (hok : (Fo.node c k .nil).ok) (v : Value) (hv : NodeIn w B c (fun kv => FoIn w B k kv) v) :
    Calls Tryz.prog 77 #[.map (some mb), v] w (WwOut w T (topI T c)) := by
  have hcb := hok.1
  simp only [cellB, decide_eq_true_eq] at hcb
  have hn : ∀ (h : c.1 ≠ 3), topI T c = -1 := fun h => by unfold topI; rw [if_pos (.inl h)]
  rcases hv with ⟨h, rfl⟩ | ⟨h, rfl⟩ | ⟨h, rfl⟩ | ⟨h, b, g, vs, rfl, _, _, c0, c1, hg, cg, hk⟩
  · rw [hn (by omega)]; exact ww_var _ _ T w
  · rw [hn (by omega)]; exact ww_num _ _ T w
  · rw [hn (by omega)]; exact ww_atom _ _ T w
  · have hcnt : c.2.1 = k.count := hok.2.2.1 h
    have hvl := FoIn.count k vs hk
    have hl : c.2.2.length ≤ 1000000 := by omega
    by_cases hd : c = dot
    · have e : topI T c = -1 := by unfold topI; rw [if_pos (.inr (.inl hd))]
      have h2 : vs.length = 2 := by rw [hd] at hcnt; have e2 : (dot.2.1 : Int) = 2 := rfl; omega
      rw [h2] at c1
      rw [e]
      exact ww_dot _ b g T w _ (by rw [beq_iff_eq]; exact (str_eq hok.2.1 [46]).2 (by rw [hd]; rfl)) c0 c1
    · by_cases h2 : c.2.1 = 2
      · have hv2 : vs.length = 2 := by omega
        rw [hv2] at c1
        have hne : c ≠ curly := fun hh => by rw [hh] at h2; exact absurd h2 (by decide)
        have e : topI T c = (if 0 ≤ findW T c.2.2 false ∧ infB (opW T (findW T c.2.2 false)).2.1 = false then -1 else findW T c.2.2 false) := by
          unfold topI
          rw [if_neg (by rintro (hh | hh | hh | hh); exact hh h; exact hd hh; exact hne hh; omega), if_pos h2]
        have hnd : ((strOfNums c.2.2).toList == [46]) = false := by
          cases hh : ((strOfNums c.2.2).toList == [46]) with
          | false => rfl
          | true =>
            rw [beq_iff_eq] at hh
            have := (str_eq hok.2.1 [46]).1 hh
            have h9 : c.2.2 = [46] := by simpa using this
            exact absurd (Prod.ext h (Prod.ext h2 h9)) hd
        refine ww_two hM c.2.2 hl hnd b g (topI T c) ?_ ?_ c0 c1
        · rw [e]
          by_cases hf : 0 ≤ findW T c.2.2 false
          · have hp := find_post hT hf
            cases hi : infB (opW T (findW T c.2.2 false)).2.1 with
            | false => rw [if_pos ⟨hf, rfl⟩, hp, hi]; simp
            | true => rw [if_neg (by simp), hp, hi]; simp
          · rw [if_neg (fun hh => hf hh.1)]
            exact ⟨fun hh => absurd hh hf, fun hh => absurd hh.1 hf⟩
        · rw [e]
          split
          · intro hh; exact absurd hh (by decide)
          · intro _; rfl
      · by_cases h1 : c.2.1 = 1
        · have hv1 : vs.length = 1 := by omega
          rw [hv1] at c1
          refine ww_one hM c.2.2 hl b g (topI T c) ?_ c0 c1
          by_cases hc : c = curly
          · have e : topI T c = -1 := by unfold topI; rw [if_pos (.inr (.inr (.inl hc)))]
            have ec : c.2.2 = [123, 125] := by rw [hc]; rfl
            rw [e, ec, hT.cur true, hT.cur false, if_neg (by decide), if_neg (fun hh => absurd hh.1 (by decide))]
          · have e : topI T c = (if 0 ≤ findW T c.2.2 true then findW T c.2.2 true
                else if 0 ≤ findW T c.2.2 false ∧ infB (opW T (findW T c.2.2 false)).2.1 = true then -1 else findW T c.2.2 false) := by
              unfold topI
              rw [if_neg (by rintro (hh | hh | hh | hh); exact hh h; exact hd hh; exact hc hh; omega), if_neg h2]
            rw [e]
            by_cases hf : 0 ≤ findW T c.2.2 true
            · rw [if_pos hf, if_pos hf]
            · rw [if_neg hf, if_neg hf]
              by_cases hg : 0 ≤ findW T c.2.2 false
              · have hp := find_post hT hg
                cases hi : infB (opW T (findW T c.2.2 false)).2.1 with
                | false => rw [if_neg (by simp), if_pos ⟨hg, by rw [hp, hi]; rfl⟩]
                | true => rw [if_pos ⟨hg, rfl⟩, if_neg (fun hh => by rw [hp, hi] at hh; simp at hh)]
              · rw [if_neg (fun hh => hg hh.1), if_neg (fun hh => hg hh.1), find_neg hg]
        · have e : topI T c = -1 := by unfold topI; rw [if_pos (.inr (.inr (.inr (by omega))))]
          refine ww_many hM c.2.2 hl b g vs.length (by omega) (topI T c) e c0 c1

end Go.Proofs.YtgonpnnlpkjkcaaGreatDoor

namespace Go.Proofs.YtgonpnnlpkjkcaaGreatDoor
open Go Go.RowKit
set_option linter.unusedVariables false

/-- All that the writer reads. -/
structure EnvK (W0 : World) (wb : Nat) (K : WK) (T : List Cel) (N : List (List Int)) (M : Nat) : Prop where
  tabs : TabsK W0 wb
  names : NamesK W0 wb K N
  ops : ∀ W, W0.grownBy W (some wb) → OpMap W K.1 M T
  tab : TabG T
/-- A tree that lies wherever the writer is. -/
def NodeK (W0 : World) (wb : Nat) (c : Cel) (k : Fo) (v : Value) : Prop := (Fo.node c k .nil).ok ∧ ∀ W, W0.grownBy W (some wb) → NodeIn W 0 c (fun kv => FoIn W 0 k kv) v
def opdW (T : List Cel) (c : Cel) (X : List Int) : List Int := if c.1 = 2 ∧ (0 ≤ findW T c.2.2 true ∨ 0 ≤ findW T c.2.2 false) then parW X else X
set_option maxRecDepth 100000 in
theorem operand_oth {W0 : World} {wb : Nat} {K : WK} {T : List Cel} {N : List (List Int)} {M : Nat} (hE : EnvK W0 wb K T N M) (ty : TypeId) (x : Value) (hty : ∀ w : World, (Instr.typeAssert (.iface ty x) 71 97 true).run Tryz.prog w = .ok (.tuple #[.string ⟨#[]⟩, .bool false]) w) (X : List Int) (pr : Int) (ht : TermAt W0 wb K (.iface ty x) pr X)
    (w : World) (R : List Int) (k : Nat) (hR : Byte R) (hl : (putR R k X).length ≤ 10000000000) (hst : startB R k) (hs : ∃ p n c, WS W0 w wb K p n c R k) :
    Calls Tryz.prog 112 #[.pointer (some ⟨wb, 0, none⟩), .iface ty x, .int .i64 pr] w (TxtOut W0 w wb K R k X) := by
  have hgr : W0.grownBy w (some wb) := by obtain ⟨_, _, _, h⟩ := hs; exact h.gr
  have HT := ht w R k hR hl hst (hE.tabs.tab _ hgr) (hE.tabs.pow _ hgr) hs
  clear ht hgr hl hR hst hs hE
  go_enter Tryz.func112, Tryz.ntmps112
  go_wp2_with fail
  refine HT.mono ?_
  rintro e w1 ⟨rfl, h2, h3⟩
  have HO : Hid (TxtOut W0 w wb K R k X (.returned (.tuple #[])) w1) := ⟨rfl, h2, h3⟩
  clear h2 h3 HT
  go_wp2_with fail
  exact bodyPost_end (v := .tuple #[]) (by simp [results, Tryz.results112, go_sem]) rfl HO.out
theorem TxtOut.behind {W0 w w1 : World} {wb : Nat} {K : WK} {R X : List Int} {k : Nat} {e : Ending} {w' : World} (h : TxtOut W0 w1 wb K R k X e w') (hb : Below w.heap.size w w1) : TxtOut W0 w wb K R k X e w' := ⟨h.1, h.2.1, (Kept.below hb).trans h.2.2⟩
set_option maxRecDepth 100000 in
theorem operand_atom {W0 : World} {wb : Nat} {K : WK} {T : List Cel} {N : List (List Int)} {M : Nat} (hE : EnvK W0 wb K T N M) (xs : List Int) (hx : xs.length ≤ 100) (X Y : List Int) (hX : Byte X) (pr : Int) (ht : TermAt W0 wb K (.iface 97 (.string (strOfNums xs))) pr X) (ht2 : TermAt W0 wb K (.iface 97 (.string (strOfNums xs))) 1200 X)
    (hY : Y = if 0 ≤ findW T xs true ∨ 0 ≤ findW T xs false then parW X else X)
    (w : World) (R : List Int) (k : Nat) (hR : Byte R) (hl : (putR R k Y).length ≤ 10000000000) (hst : startB R k) (hs : ∃ p n c, WS W0 w wb K p n c R k) :
    Calls Tryz.prog 112 #[.pointer (some ⟨wb, 0, none⟩), .iface 97 (.string (strOfNums xs)), .int .i64 pr] w (TxtOut W0 w wb K R k Y) := by
  have hgr : W0.grownBy w (some wb) := by obtain ⟨_, _, _, h⟩ := hs; exact h.gr
  have c2 : w.cell? ⟨wb, 2, none⟩ = some (.map (some K.1)) := by obtain ⟨_, _, _, h⟩ := hs; exact h.c2
  have hty := wiT_atom_atom
  have HH := has_any (hE.ops w hgr) xs (by omega)
  have hws : ∀ W, Below w.heap.size w W → ∃ p n c, WS W0 W wb K p n c R k := fun W hW => by obtain ⟨p, n, c, h⟩ := hs; exact ⟨p, n, c, h.below hW⟩
  have hgw : ∀ W, Below w.heap.size w W → W0.grownBy W (some wb) := fun W hW => by obtain ⟨_, _, _, h⟩ := hws W hW; exact h.gr
  cases hb : (decide (0 ≤ findW T xs true) || decide (0 ≤ findW T xs false)) with
  | false =>
    have hYX : Y = X := by rw [hY, if_neg]; simpa using hb
    rw [hYX] at hl ⊢
    rw [hb] at HH
    have HT : Hid (∀ W, Below w.heap.size w W → Calls Tryz.prog 33 #[.pointer (some ⟨wb, 0, none⟩), .iface 97 (.string (strOfNums xs)), .int .i64 pr] W (TxtOut W0 w wb K R k X)) := fun W hW => (ht W R k hR hl hst (hE.tabs.tab _ (hgw W hW)) (hE.tabs.pow _ (hgw W hW)) (hws W hW)).mono fun e w' h => h.behind hW
    clear ht ht2 hgr hl hR hst hs hE hws hgw hY hYX hb
    generalize strOfNums xs = sx at HH HT ⊢
    go_enter Tryz.func112, Tryz.ntmps112
    go_wp2_with fail
    refine HH.mono ?_
    rintro e w1 ⟨rfl, hb1⟩
    have HT1 := HT.out w1 hb1
    clear HH HT hb1
    go_wp2_with fail
    refine HT1.mono ?_
    rintro e w2 ⟨rfl, h2, h3⟩
    have HO : Hid (TxtOut W0 w wb K R k X (.returned (.tuple #[])) w2) := ⟨rfl, h2, h3⟩
    clear h2 h3 HT1
    go_wp2_with fail
    exact bodyPost_end (v := .tuple #[]) (by simp [results, Tryz.results112, go_sem]) rfl HO.out
  | true =>
    have hYX : Y = parW X := by rw [hY, if_pos]; simpa using hb
    rw [hYX] at hl ⊢
    rw [hb] at HH
    have HT : Hid (∀ W, Below w.heap.size w W → Calls Tryz.prog 78 #[.pointer (some ⟨wb, 0, none⟩), .iface 97 (.string (strOfNums xs))] W (TxtOut W0 w wb K R k (parW X))) := fun W hW => (inParens_any hE.tabs _ _ X hX ht2 W R k hR hl (hws W hW)).mono fun e w' h => h.behind hW
    clear ht ht2 hgr hl hR hst hs hE hws hgw hY hYX hb
    generalize strOfNums xs = sx at HH HT ⊢
    go_enter Tryz.func112, Tryz.ntmps112
    go_wp2_with fail
    refine HH.mono ?_
    rintro e w1 ⟨rfl, hb1⟩
    have HT1 := HT.out w1 hb1
    clear HH HT hb1
    go_wp2_with fail
    refine HT1.mono ?_
    rintro e w2 ⟨rfl, h2, h3⟩
    have HO : Hid (TxtOut W0 w wb K R k (parW X) (.returned (.tuple #[])) w2) := ⟨rfl, h2, h3⟩
    clear h2 h3 HT1
    go_wp2_with fail
    exact bodyPost_ret (v := .tuple #[]) (by simp [results, Tryz.results112, go_sem]) rfl HO.out
/-- An operand: every tree. -/
theorem opdI_any {W0 : World} {wb : Nat} {K : WK} {T : List Cel} {N : List (List Int)} {M : Nat} (hE : EnvK W0 wb K T N M) (c : Cel) (kk : Fo) (v : Value) (hv : NodeK W0 wb c kk v) (X : List Int) (hX : Byte X) (pr : Int) (ht : TermAt W0 wb K v pr X) (ha : c.1 = 2 → TermAt W0 wb K v 1200 X)
    (w : World) (R : List Int) (k : Nat) (hR : Byte R) (hl : (putR R k (opdW T c X)).length ≤ 10000000000) (hst : startB R k) (hs : ∃ p n c, WS W0 w wb K p n c R k) :
    Calls Tryz.prog 112 #[.pointer (some ⟨wb, 0, none⟩), v, .int .i64 pr] w (TxtOut W0 w wb K R k (opdW T c X)) := by
  have hgr : W0.grownBy w (some wb) := by obtain ⟨_, _, _, h⟩ := hs; exact h.gr
  have hcb := hv.1.1
  simp only [cellB, decide_eq_true_eq] at hcb
  have hn : c.1 ≠ 2 → opdW T c X = X := fun h => by unfold opdW; rw [if_neg (fun hh => h hh.1)]
  rcases hv.2 w hgr with ⟨h, rfl⟩ | ⟨h, rfl⟩ | ⟨h, rfl⟩ | ⟨h, b, g, vs, rfl, _⟩
  · rw [hn (by omega)] at hl ⊢; exact operand_oth hE _ _ (fun w => wiT_var_atom w _) X pr ht w R k hR hl hst hs
  · rw [hn (by omega)] at hl ⊢; exact operand_oth hE _ _ (fun w => wiT_num_atom w _) X pr ht w R k hR hl hst hs
  · refine operand_atom hE c.2.2 (by omega) X _ hX pr ht (ha h) ?_ w R k hR hl hst hs
    unfold opdW
    by_cases hh : 0 ≤ findW T c.2.2 true ∨ 0 ≤ findW T c.2.2 false
    · rw [if_pos ⟨h, hh⟩, if_pos hh]
    · rw [if_neg (fun h9 => hh h9.2), if_neg hh]
  · rw [hn (by omega)] at hl ⊢; exact operand_oth hE _ _ (fun w => wiT_comp_atom w _) X pr ht w R k hR hl hst hs

end Go.Proofs.YtgonpnnlpkjkcaaGreatDoor

