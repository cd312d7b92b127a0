/- Texts of FoS, WiN, WiO, WiP. Own work of the verifier. -/
import Derived.Test.YtelcfcgdnebdgaaGreatDoorUqat
namespace Go.Proofs.YtelcfcgdnebdgaaGreatDoor
open Go Go.RowKit
set_option linter.unusedVariables false
open Classical in
noncomputable def strikeA (A : Nat → Prop) (W : World) : World := { W with heap := W.heap.mapIdx fun i o => if A i then .deferred none else o }
theorem strikeA_size (A : Nat → Prop) (W : World) : (strikeA A W).heap.size = W.heap.size := by simp [strikeA]
open Classical in
theorem strikeA_cell {A : Nat → Prop} {W : World} {p : Addr} {v : Value} : (strikeA A W).cell? p = some v ↔ ¬ A p.block ∧ W.cell? p = some v := by
  have e : (strikeA A W).heap[p.block]? = W.heap[p.block]?.map fun o => if A p.block then .deferred none else o := by simp [strikeA]
  unfold World.cell?
  rw [e]
  by_cases h : A p.block
  · cases W.heap[p.block]? <;> simp [h]
  · cases W.heap[p.block]? <;> simp [h]
def FoA (A : Nat → Prop) (W : World) (F : Fo) (vs : List Value) : Prop := FoIn (strikeA A W) 0 F vs
theorem FoA.cat {A : Nat → Prop} {W : World} {F G : Fo} {vs us : List Value} (h : FoA A W F vs) (h' : FoA A W G us) : FoA A W (F.cat G) (vs ++ us) := FoIn.cat _ _ _ _ h h'
end Go.Proofs.YtelcfcgdnebdgaaGreatDoor
namespace Go.Proofs.YtelcfcgdnebdgaaGreatDoor
open Go Go.RowKit
set_option linter.unusedVariables false
structure TabG (T : List Cel) : Prop where
  op : ∀ j, j < T.length → Byte (T.getD j Cel.none).2.2 ∧ (T.getD j Cel.none).2.2.length ≤ 100 ∧ (1 ≤ (T.getD j Cel.none).1 ∧ (T.getD j Cel.none).1 ≤ 1200) ∧ 0 ≤ (T.getD j Cel.none).2.1 ∧ (T.getD j Cel.none).2.1 ≤ 6
  cur : ∀ pf, findW T [123, 125] pf = -1
theorem find_neg {T : List Cel} {xs : List Int} {pf : Bool} (h : ¬ 0 ≤ findW T xs pf) : findW T xs pf = -1 := by
  rcases find_rng T xs pf with hf | ⟨j, hj, hf⟩
  · exact hf
  · exact absurd (by rw [hf]; omega) h
theorem find_post {T : List Cel} (hT : TabG T) {xs : List Int} (h : 0 ≤ findW T xs false) : postB (opW T (findW T xs false)).2.1 = !infB (opW T (findW T xs false)).2.1 := by
  rcases find_rng T xs false with hf | ⟨j, hj, hf⟩
  · rw [hf] at h; exact absurd h (by decide)
  · have h1 := find_hit hj hf
    rw [hf]
    have e : opW T (j : Int) = T.getD j Cel.none := by simp [opW]
    rw [e] at h1 ⊢
    have h2 := (hT.op j hj).2.2.2
    generalize (T.getD j Cel.none).2.1 = t at h1 h2 ⊢
    unfold preB at h1
    unfold postB infB
    by_cases h3 : t ≤ 2
    · have a5 : (t == 5) = false := by rw [beq_eq_false_iff_ne]; omega
      have a6 : (t == 6) = false := by rw [beq_eq_false_iff_ne]; omega
      rw [a5, a6, decide_eq_true h3]; rfl
    · have a3 : t ≠ 3 := fun hh => by rw [hh] at h1; exact absurd h1 (by decide)
      have a4 : t ≠ 4 := fun hh => by rw [hh] at h1; exact absurd h1 (by decide)
      rcases (by omega : t = 5 ∨ t = 6) with rfl | rfl <;> rfl
theorem ww_all {w : World} {mb M B : Nat} {T : List Cel} (hM : OpMap w mb M T) (hT : TabG T) (c : Cel) (k : Fo) (hok : (Fo.node c k .nil).ok) (v : Value) (hv : NodeIn w B c (fun kv => FoIn w B k kv) v) :
    Calls Tryz.prog 88 #[.map (some mb), v] w (WwOut w T (topI T c)) := by
  have hcb := hok.1
  simp only [cellB, decide_eq_true_eq] at hcb
  have hn : ∀ (h : c.1 ≠ 3), topI T c = -1 := fun h => by unfold topI; rw [if_pos (.inl h)]
  rcases hv with ⟨h, rfl⟩ | ⟨h, rfl⟩ | ⟨h, rfl⟩ | ⟨h, b, g, vs, rfl, _, _, c0, c1, hg, cg, hk⟩
  · rw [hn (by omega)]; exact ww_var _ _ T w
  · rw [hn (by omega)]; exact ww_num _ _ T w
  · rw [hn (by omega)]; exact ww_atom _ _ T w
  · have hcnt : c.2.1 = k.count := hok.2.2.1 h
    have hvl := FoIn.count k vs hk
    have hl : c.2.2.length ≤ 1000000 := by omega
    by_cases hd : c = dot
    · have e : topI T c = -1 := by unfold topI; rw [if_pos (.inr (.inl hd))]
      have h2 : vs.length = 2 := by rw [hd] at hcnt; have e2 : (dot.2.1 : Int) = 2 := rfl; omega
      rw [h2] at c1
      rw [e]
      exact ww_dot _ b g T w _ (by rw [beq_iff_eq]; exact (str_eq hok.2.1 [46]).2 (by rw [hd]; rfl)) c0 c1
    · by_cases h2 : c.2.1 = 2
      · have hv2 : vs.length = 2 := by omega
        rw [hv2] at c1
        have hne : c ≠ curly := fun hh => by rw [hh] at h2; exact absurd h2 (by decide)
        have e : topI T c = (if 0 ≤ findW T c.2.2 false ∧ infB (opW T (findW T c.2.2 false)).2.1 = false then -1 else findW T c.2.2 false) := by
          unfold topI
          rw [if_neg (by rintro (hh | hh | hh | hh); exact hh h; exact hd hh; exact hne hh; omega), if_pos h2]
        have hnd : ((strOfNums c.2.2).toList == [46]) = false := by
          cases hh : ((strOfNums c.2.2).toList == [46]) with
          | false => rfl
          | true =>
            rw [beq_iff_eq] at hh
            have := (str_eq hok.2.1 [46]).1 hh
            have h9 : c.2.2 = [46] := by simpa using this
            exact absurd (Prod.ext h (Prod.ext h2 h9)) hd
        refine ww_two hM c.2.2 hl hnd b g (topI T c) ?_ ?_ c0 c1
        · rw [e]
          by_cases hf : 0 ≤ findW T c.2.2 false
          · have hp := find_post hT hf
            cases hi : infB (opW T (findW T c.2.2 false)).2.1 with
            | false => rw [if_pos ⟨hf, rfl⟩, hp, hi]; simp
            | true => rw [if_neg (by simp), hp, hi]; simp
          · rw [if_neg (fun hh => hf hh.1)]
            exact ⟨fun hh => absurd hh hf, fun hh => absurd hh.1 hf⟩
        · rw [e]
          split
          · intro hh; exact absurd hh (by decide)
          · intro _; rfl
      · by_cases h1 : c.2.1 = 1
        · have hv1 : vs.length = 1 := by omega
          rw [hv1] at c1
          refine ww_one hM c.2.2 hl b g (topI T c) ?_ c0 c1
          by_cases hc : c = curly
          · have e : topI T c = -1 := by unfold topI; rw [if_pos (.inr (.inr (.inl hc)))]
            have ec : c.2.2 = [123, 125] := by rw [hc]; rfl
            rw [e, ec, hT.cur true, hT.cur false, if_neg (by decide), if_neg (fun hh => absurd hh.1 (by decide))]
          · have e : topI T c = (if 0 ≤ findW T c.2.2 true then findW T c.2.2 true
                else if 0 ≤ findW T c.2.2 false ∧ infB (opW T (findW T c.2.2 false)).2.1 = true then -1 else findW T c.2.2 false) := by
              unfold topI
              rw [if_neg (by rintro (hh | hh | hh | hh); exact hh h; exact hd hh; exact hc hh; omega), if_neg h2]
            rw [e]
            by_cases hf : 0 ≤ findW T c.2.2 true
            · rw [if_pos hf, if_pos hf]
            · rw [if_neg hf, if_neg hf]
              by_cases hg : 0 ≤ findW T c.2.2 false
              · have hp := find_post hT hg
                cases hi : infB (opW T (findW T c.2.2 false)).2.1 with
                | false => rw [if_neg (by simp), if_pos ⟨hg, by rw [hp, hi]; rfl⟩]
                | true => rw [if_pos ⟨hg, rfl⟩, if_neg (fun hh => by rw [hp, hi] at hh; simp at hh)]
              · rw [if_neg (fun hh => hg hh.1), if_neg (fun hh => hg hh.1), find_neg hg]
        · have e : topI T c = -1 := by unfold topI; rw [if_pos (.inr (.inr (.inr (by omega))))]
          refine ww_many hM c.2.2 hl b g vs.length (by omega) (topI T c) e c0 c1
end Go.Proofs.YtelcfcgdnebdgaaGreatDoor
namespace Go.Proofs.YtelcfcgdnebdgaaGreatDoor
open Go Go.RowKit
set_option linter.unusedVariables false
structure EnvK (W0 : Bas) (wb : Nat) (K : WK) (T : List Cel) (N : List (List Int)) (M : Nat) : Prop where
  tabs : TabsK W0 wb
  names : NamesK W0 wb K N
  ops : ∀ W, W0.grownBy W (some wb) → OpMap W K.1 M T
  tab : TabG T
def NodeK (W0 : Bas) (wb : Nat) (c : Cel) (k : Fo) (v : Value) : Prop := (Fo.node c k .nil).ok ∧ ∀ W, W0.grownBy W (some wb) → NodeIn W 0 c (fun kv => FoIn W 0 k kv) v
def opdW (T : List Cel) (c : Cel) (X : List Int) : List Int := if c.1 = 2 ∧ (0 ≤ findW T c.2.2 true ∨ 0 ≤ findW T c.2.2 false) then parW X else X
set_option maxRecDepth 100000 in
theorem operand_oth {W0 : Bas} {wb : Nat} {K : WK} {T : List Cel} {N : List (List Int)} {M : Nat} (hE : EnvK W0 wb K T N M) (ty : TypeId) (x : Value) (hty : ∀ w : World, (Instr.typeAssert (.iface ty x) 79 106 true).run Tryz.prog w = .ok (.tuple #[.string ⟨#[]⟩, .bool false]) w) (X : List Int) (pr : Int) (ht : TermAt W0 wb K (.iface ty x) pr X)
    (w : World) (R : List Int) (k : Nat) (hR : Byte R) (hl : (putR R k X).length ≤ 10000000000) (hst : startB R k) (hs : ∃ p n c, WS W0 w wb K p n c R k) :
    Calls Tryz.prog 123 #[.pointer (some ⟨wb, 0, none⟩), .iface ty x, .int .i64 pr] w (TxtOut W0 w wb K R k X) := by
  have hgr : W0.grownBy w (some wb) := by obtain ⟨_, _, _, h⟩ := hs; exact h.gr
  have HT := ht w R k hR hl hst (hE.tabs.tab _ hgr) (hE.tabs.pow _ hgr) hs
  clear ht hgr hl hR hst hs hE
  go_enter Tryz.func123, Tryz.ntmps123
  go_wp2_with fail
  refine HT.mono ?_
  rintro e w1 ⟨rfl, h2, h3⟩
  have HO : Hid (TxtOut W0 w wb K R k X (.returned (.tuple #[])) w1) := ⟨rfl, h2, h3⟩
  clear h2 h3 HT
  go_wp2_with fail
  exact bodyPost_end (v := .tuple #[]) (by simp [results, Tryz.results123, go_sem]) rfl HO.out
theorem TxtOut.behind {W0 : Bas} {w w1 : World} {wb : Nat} {K : WK} {R X : List Int} {k : Nat} {e : Ending} {w' : World} (h : TxtOut W0 w1 wb K R k X e w') (hb : Below w.heap.size w w1) : TxtOut W0 w wb K R k X e w' := ⟨h.1, h.2.1, (Kept.below hb).trans h.2.2⟩
set_option maxRecDepth 100000 in
theorem operand_atom {W0 : Bas} {wb : Nat} {K : WK} {T : List Cel} {N : List (List Int)} {M : Nat} (hE : EnvK W0 wb K T N M) (xs : List Int) (hx : xs.length ≤ 100) (X Y : List Int) (hX : Byte X) (pr : Int) (ht : TermAt W0 wb K (.iface 106 (.string (strOfNums xs))) pr X) (ht2 : TermAt W0 wb K (.iface 106 (.string (strOfNums xs))) 1200 X)
    (hY : Y = if 0 ≤ findW T xs true ∨ 0 ≤ findW T xs false then parW X else X)
    (w : World) (R : List Int) (k : Nat) (hR : Byte R) (hl : (putR R k Y).length ≤ 10000000000) (hst : startB R k) (hs : ∃ p n c, WS W0 w wb K p n c R k) :
    Calls Tryz.prog 123 #[.pointer (some ⟨wb, 0, none⟩), .iface 106 (.string (strOfNums xs)), .int .i64 pr] w (TxtOut W0 w wb K R k Y) := by
  have hgr : W0.grownBy w (some wb) := by obtain ⟨_, _, _, h⟩ := hs; exact h.gr
  have c2 : w.cell? ⟨wb, 2, none⟩ = some (.map (some K.1)) := by obtain ⟨_, _, _, h⟩ := hs; exact h.c2
  have hty := wiT_atom_atom
  have HH := has_any (hE.ops w hgr) xs (by omega)
  have hws : ∀ W, Below w.heap.size w W → ∃ p n c, WS W0 W wb K p n c R k := fun W hW => by obtain ⟨p, n, c, h⟩ := hs; exact ⟨p, n, c, h.below hW⟩
  have hgw : ∀ W, Below w.heap.size w W → W0.grownBy W (some wb) := fun W hW => by obtain ⟨_, _, _, h⟩ := hws W hW; exact h.gr
  cases hb : (decide (0 ≤ findW T xs true) || decide (0 ≤ findW T xs false)) with
  | false =>
    have hYX : Y = X := by rw [hY, if_neg]; simpa using hb
    rw [hYX] at hl ⊢
    rw [hb] at HH
    have HT : Hid (∀ W, Below w.heap.size w W → Calls Tryz.prog 40 #[.pointer (some ⟨wb, 0, none⟩), .iface 106 (.string (strOfNums xs)), .int .i64 pr] W (TxtOut W0 w wb K R k X)) := fun W hW => (ht W R k hR hl hst (hE.tabs.tab _ (hgw W hW)) (hE.tabs.pow _ (hgw W hW)) (hws W hW)).mono fun e w' h => h.behind hW
    clear ht ht2 hgr hl hR hst hs hE hws hgw hY hYX hb
    generalize strOfNums xs = sx at HH HT ⊢
    go_enter Tryz.func123, Tryz.ntmps123
    go_wp2_with fail
    refine HH.mono ?_
    rintro e w1 ⟨rfl, hb1⟩
    have HT1 := HT.out w1 hb1
    clear HH HT hb1
    go_wp2_with fail
    refine HT1.mono ?_
    rintro e w2 ⟨rfl, h2, h3⟩
    have HO : Hid (TxtOut W0 w wb K R k X (.returned (.tuple #[])) w2) := ⟨rfl, h2, h3⟩
    clear h2 h3 HT1
    go_wp2_with fail
    exact bodyPost_end (v := .tuple #[]) (by simp [results, Tryz.results123, go_sem]) rfl HO.out
  | true =>
    have hYX : Y = parW X := by rw [hY, if_pos]; simpa using hb
    rw [hYX] at hl ⊢
    rw [hb] at HH
    have HT : Hid (∀ W, Below w.heap.size w W → Calls Tryz.prog 89 #[.pointer (some ⟨wb, 0, none⟩), .iface 106 (.string (strOfNums xs))] W (TxtOut W0 w wb K R k (parW X))) := fun W hW => (inParens_any hE.tabs _ _ X hX ht2 W R k hR hl (hws W hW)).mono fun e w' h => h.behind hW
    clear ht ht2 hgr hl hR hst hs hE hws hgw hY hYX hb
    generalize strOfNums xs = sx at HH HT ⊢
    go_enter Tryz.func123, Tryz.ntmps123
    go_wp2_with fail
    refine HH.mono ?_
    rintro e w1 ⟨rfl, hb1⟩
    have HT1 := HT.out w1 hb1
    clear HH HT hb1
    go_wp2_with fail
    refine HT1.mono ?_
    rintro e w2 ⟨rfl, h2, h3⟩
    have HO : Hid (TxtOut W0 w wb K R k (parW X) (.returned (.tuple #[])) w2) := ⟨rfl, h2, h3⟩
    clear h2 h3 HT1
    go_wp2_with fail
    exact bodyPost_ret (v := .tuple #[]) (by simp [results, Tryz.results123, go_sem]) rfl HO.out
theorem opdI_any {W0 : Bas} {wb : Nat} {K : WK} {T : List Cel} {N : List (List Int)} {M : Nat} (hE : EnvK W0 wb K T N M) (c : Cel) (kk : Fo) (v : Value) (hv : NodeK W0 wb c kk v) (X : List Int) (hX : Byte X) (pr : Int) (ht : TermAt W0 wb K v pr X) (ha : c.1 = 2 → TermAt W0 wb K v 1200 X)
    (w : World) (R : List Int) (k : Nat) (hR : Byte R) (hl : (putR R k (opdW T c X)).length ≤ 10000000000) (hst : startB R k) (hs : ∃ p n c, WS W0 w wb K p n c R k) :
    Calls Tryz.prog 123 #[.pointer (some ⟨wb, 0, none⟩), v, .int .i64 pr] w (TxtOut W0 w wb K R k (opdW T c X)) := by
  have hgr : W0.grownBy w (some wb) := by obtain ⟨_, _, _, h⟩ := hs; exact h.gr
  have hcb := hv.1.1
  simp only [cellB, decide_eq_true_eq] at hcb
  have hn : c.1 ≠ 2 → opdW T c X = X := fun h => by unfold opdW; rw [if_neg (fun hh => h hh.1)]
  rcases hv.2 w hgr with ⟨h, rfl⟩ | ⟨h, rfl⟩ | ⟨h, rfl⟩ | ⟨h, b, g, vs, rfl, _⟩
  · rw [hn (by omega)] at hl ⊢; exact operand_oth hE _ _ (fun w => wiT_var_atom w _) X pr ht w R k hR hl hst hs
  · rw [hn (by omega)] at hl ⊢; exact operand_oth hE _ _ (fun w => wiT_num_atom w _) X pr ht w R k hR hl hst hs
  · refine operand_atom hE c.2.2 (by omega) X _ hX pr ht (ha h) ?_ w R k hR hl hst hs
    unfold opdW
    by_cases hh : 0 ≤ findW T c.2.2 true ∨ 0 ≤ findW T c.2.2 false
    · rw [if_pos ⟨h, hh⟩, if_pos hh]
    · rw [if_neg (fun h9 => hh h9.2), if_neg hh]
  · rw [hn (by omega)] at hl ⊢; exact operand_oth hE _ _ (fun w => wiT_comp_atom w _) X pr ht w R k hR hl hst hs
end Go.Proofs.YtelcfcgdnebdgaaGreatDoor
namespace Go.Proofs.YtelcfcgdnebdgaaGreatDoor
open Go Go.RowKit
set_option linter.unusedVariables false
theorem joinI_snoc : ∀ (L : List (List Int)) (x : List Int), L ≠ [] → joinW (L ++ [x]) = joinW L ++ 44 :: x
  | [], x, h => absurd rfl h
  | [a], x, _ => rfl
  | a :: b :: r, x, _ => by
    have := joinI_snoc (b :: r) x (by simp)
    show joinW (a :: b :: (r ++ [x])) = _
    rw [show joinW (a :: b :: (r ++ [x])) = a ++ (44 :: joinW ((b :: r) ++ [x])) from rfl, this]
    show _ = a ++ (44 :: joinW (b :: r)) ++ 44 :: x
    simp
theorem take_snocW {α : Type} (L : List α) (d : α) (j : Nat) (h : j < L.length) : L.take (j + 1) = L.take j ++ [L.getD j d] := by
  rw [List.take_add_one]; simp [List.getD, h]
theorem join_pre : ∀ (L : List (List Int)) (j : Nat), ∃ Y, joinW L = joinW (L.take j) ++ Y
  | [], j => ⟨[], by simp [joinW]⟩
  | a :: r, 0 => ⟨joinW (a :: r), by simp [joinW]⟩
  | [a], j + 1 => ⟨[], by simp [joinW]⟩
  | a :: b :: r, 1 => ⟨44 :: joinW (b :: r), rfl⟩
  | a :: b :: r, j + 2 => by
    obtain ⟨Y, hY⟩ := join_pre (b :: r) (j + 1)
    refine ⟨Y, ?_⟩
    show a ++ (44 :: joinW (b :: r)) = joinW (a :: b :: r.take j) ++ Y
    rw [hY]
    show a ++ (44 :: (joinW (b :: r.take j) ++ Y)) = (a ++ (44 :: joinW (b :: r.take j))) ++ Y
    simp
theorem join_byteL (L : List (List Int)) (h : ∀ i, i < L.length → Byte (L.getD i [])) (j : Nat) : Byte (joinW (L.take j)) :=
  join_byte _ fun a ha => by
    have hm := List.mem_of_mem_take ha
    obtain ⟨i, hi, rfl⟩ := List.getElem_of_mem hm
    have := h i hi
    rwa [List.getD, List.getElem?_eq_getElem hi] at this
theorem putR_mono (R : List Int) (k : Nat) (A B : List Int) : (putR R k A).length ≤ (putR R k (A ++ B)).length := by
  by_cases h : A = []
  · subst h
    have := putR_ge R ([] ++ B) k
    rw [show putR R k [] = R from rfl]
    omega
  · rw [← putR_more h]; simp
theorem start_comma (R : List Int) (k : Nat) (J : List Int) {y : Int} (hy : closeB y) (h8 : isOfB y 8 = false) (k' : Nat) : startB (putR R k (J ++ [y])) k' := by
  by_cases h : J = []
  · subst h
    rw [List.nil_append, putR_close hy]
    exact start_behind h8 k'
  · rw [← putR_more h]; exact start_behind h8 k'
set_option maxRecDepth 100000 in
theorem terms_any {W0 : Bas} {wb : Nat} {K : WK} (hK : TabsK W0 wb) (g n cap : Nat) (vs : List Value) (Xs : List (List Int)) (hn : n ≤ 100000) (hXn : Xs.length = n) (w : World) (R : List Int) (k : Nat)
    (hc : ∀ W, W0.grownBy W (some wb) → Kept w W wb → ∀ i, i < n → ∃ vt vx, vs.getD i .nilIface = .iface vt vx ∧ W.cell? ⟨g, i, none⟩ = some (vs.getD i .nilIface))
    (ht : ∀ i, i < n → TermAt W0 wb K (vs.getD i .nilIface) 999 (Xs.getD i [])) (hb : ∀ i, i < n → Byte (Xs.getD i [])) (hR : Byte R) (hl : (putR R k (joinW Xs)).length ≤ 10000000000) (hst : startB R k) (hs : ∃ p n c, WS W0 w wb K p n c R k) :
    Calls Tryz.prog 94 #[.pointer (some ⟨wb, 0, none⟩), .slice (some ⟨g, 0, none⟩) n cap] w (TxtOut W0 w wb K R k (joinW Xs)) := by
  have b44 : Byte [44] := fun x hx => by simp at hx; omega
  have e44 : strOfNums [44] = ⟨#[44]⟩ := rfl
  have HK : Hid (TabsK W0 wb) := hK
  have HXN : Hid (Xs.length = n) := hXn
  have HC : Hid (∀ W, W0.grownBy W (some wb) → Kept w W wb → ∀ i, i < n → ∃ vt vx, vs.getD i .nilIface = .iface vt vx ∧ W.cell? ⟨g, i, none⟩ = some (vs.getD i .nilIface)) := hc
  have HT : Hid (∀ i, i < n → TermAt W0 wb K (vs.getD i .nilIface) 999 (Xs.getD i [])) := ht
  have HBJ : Hid (∀ j, Byte (putR R k (joinW (Xs.take j)))) := fun j => byte_putR hR (join_byteL Xs (by rw [hXn]; exact hb) j)
  have HL : Hid (∀ j, (putR R k (joinW (Xs.take j))).length ≤ 10000000000) := fun j => by
    obtain ⟨Y, hY⟩ := join_pre Xs j
    have := putR_mono R k (joinW (Xs.take j)) Y
    rw [← hY] at this
    omega
  have HR : Hid (Byte R ∧ startB R k ∧ Byte [44]) := ⟨hR, hst, b44⟩
  have HS0 : Hid (∃ p n c, WS W0 w wb K p n c R k) := hs
  clear hK hc ht hb hR hl hst hs b44 hXn
  go_enter Tryz.func94, Tryz.ntmps94
  go_wp2_with fail
  go_loopw [8] (fun i wr => ∃ (j : Nat), j ≤ n ∧ i = .int .i64 j ∧ Hid (∃ k', (joinW (Xs.take j) = [] → k' = k) ∧ ∃ p n c, WS W0 wr wb K p n c (putR R k (joinW (Xs.take j))) k') ∧ Hid (Kept w wr wb)) (fun i _ => n - (intOf i).toNat)
  case atStart => exact ⟨0, Nat.zero_le _, rfl, ⟨k, fun _ => rfl, HS0.out⟩, Kept.refl w wb⟩
  case round =>
    obtain ⟨j, hj, rfl, HS, HKP⟩ := hrel
    by_cases hlt : j < n
    · obtain ⟨k', hk', hs'⟩ := HS.out
      have hgr : W0.grownBy wr (some wb) := by obtain ⟨_, _, _, h⟩ := hs'; exact h.gr
      obtain ⟨vt, vx, ev, hcell⟩ := HC.out wr hgr HKP.out j hlt
      have hterm := HT.out j hlt
      rw [ev] at hcell hterm
      have etake := take_snocW Xs [] j (by rw [HXN.out]; exact hlt)
      generalize Xs.getD j [] = X at hterm etake
      by_cases h0 : j = 0
      · subst h0
        have e1 : joinW (Xs.take 1) = X := by rw [etake]; rfl
        have hk0 : k' = k := hk' rfl
        subst hk0
        have HT0 := hterm wr R k' HR.out.1 (by have := HL.out 1; rw [e1] at this; exact this) HR.out.2.1 (HK.out.tab _ hgr) (HK.out.pow _ hgr) hs'
        have HE1 : Hid (joinW (Xs.take 1) = X) := e1
        clear hs' hk' hgr hterm etake e1 ev
        go_wp2_with fail
        refine HT0.mono ?_
        rintro e w1 ⟨rfl, h2, h3⟩
        have HN : Hid (∃ k'', (joinW (Xs.take 1) = [] → k'' = k') ∧ ∃ p n c, WS W0 w1 wb K p n c (putR R k' (joinW (Xs.take 1))) k'') := by
          show ∃ _, _
          rw [HE1.out]; exact h2
        have HKN : Hid (Kept w w1 wb) := HKP.out.trans h3
        clear h2 h3 HT0
        go_wp2_with fail
        go_roundw
        case rel => exact ⟨1, by omega, by go_num, HN, HKN⟩
        case measure => simp [intOf]; omega
      · have hjne : Xs.take j ≠ [] := fun hh => by
          have := congrArg List.length hh
          rw [List.length_take, HXN.out] at this
          simp at this
          omega
        have e1 : joinW (Xs.take (j + 1)) = joinW (Xs.take j) ++ 44 :: X := by rw [etake, joinI_snoc _ _ hjne]
        have hl1 := HL.out (j + 1)
        rw [e1] at hl1
        have hl2 := HL.out j
        have H1 := put_any W0 wr wb K (putR R k (joinW (Xs.take j))) [44] k' (HK.out.tab _ hgr) (HBJ.out j) HR.out.2.2 (by simp; omega) hs'
        rw [e44, putR_end (.inr (.inr (.inl rfl))) R (joinW (Xs.take j)) k k' hk' []] at H1
        have HST : Hid (startB (putR R k (joinW (Xs.take j) ++ [44])) 0) := start_comma R k _ (.inr (.inr (.inl rfl))) rfl 0
        have HB1 : Hid (Byte (putR R k (joinW (Xs.take j) ++ [44]))) := by
          have hb0 := HBJ.out j
          show Byte _
          by_cases hJ : joinW (Xs.take j) = []
          · rw [hJ]; exact byte_putR HR.out.1 HR.out.2.2
          · rw [← putR_more hJ]; exact byte_app hb0 HR.out.2.2
        have EQ : Hid (putR R k (joinW (Xs.take j) ++ [44]) ++ X = putR R k (joinW (Xs.take (j + 1)))) := by
          show _ = _
          rw [e1, putR_more (by simp)]; simp
        have HL1 : Hid ((putR R k (joinW (Xs.take j) ++ [44]) ++ X).length ≤ 10000000000) := by
          show _ ≤ _
          rw [EQ.out]; exact HL.out _
        have HNE : Hid (joinW (Xs.take (j + 1)) ≠ []) := by
          show _ ≠ _
          rw [e1]; simp
        have HTM : Hid _ := hterm
        have hg : (decide ((0 : Int) < (j : Int))) = true := by simp; omega
        clear hs' hk' hgr hterm etake e1 ev hl1 hl2 hjne
        go_wp2_with fail
        refine H1.mono ?_
        rintro e w1 ⟨rfl, hs1, hk1⟩
        rw [show putG k' [44] = 0 from rfl] at hs1
        have gr1 : W0.grownBy w1 (some wb) := by obtain ⟨_, _, _, h⟩ := hs1; exact h.gr
        have HT1 := HTM.out w1 _ 0 HB1.out (by rw [putR_zero]; exact HL1.out) HST.out (HK.out.tab _ gr1) (HK.out.pow _ gr1) hs1
        have HK1 : Hid (Kept w w1 wb) := HKP.out.trans hk1
        clear hs1 hk1 gr1 H1
        go_wp2_with fail
        refine HT1.mono ?_
        rintro e w2 ⟨rfl, ⟨k2, hk2, hs2⟩, h3⟩
        rw [putR_zero, EQ.out] at hs2
        have HN : Hid (∃ k'', (joinW (Xs.take (j + 1)) = [] → k'' = k) ∧ ∃ p n c, WS W0 w2 wb K p n c (putR R k (joinW (Xs.take (j + 1)))) k'') := ⟨k2, fun h => absurd h HNE.out, hs2⟩
        have HKN : Hid (Kept w w2 wb) := HK1.out.trans h3
        clear hs2 hk2 h3 HT1
        go_wp2_with fail
        go_roundw
        case rel => exact ⟨j + 1, by omega, by go_num, HN, HKN⟩
        case measure => simp [intOf]; omega
    · obtain rfl : j = n := by omega
      have HF : Hid (TxtOut W0 w wb K R k (joinW Xs) (.returned (.tuple #[])) wr) := by
        have h1 := HS.out
        have e : Xs.take j = Xs := by rw [← HXN.out]; exact List.take_length
        rw [e] at h1
        exact ⟨rfl, h1, HKP.out⟩
      go_wp2_with fail
      exact bodyPost_end (v := .tuple #[]) (by simp [results, Tryz.results94, go_sem]) rfl HF.out
end Go.Proofs.YtelcfcgdnebdgaaGreatDoor
