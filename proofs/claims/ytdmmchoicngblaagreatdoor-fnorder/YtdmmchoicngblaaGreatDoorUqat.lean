/- Texts of Cmp15, OrA, OrU, OrV, OrW, Make5, Stk5, OrZ5. Own work of the verifier. -/
import Derived.Test.YtdmmchoicngblaaGreatDoorUqap
import Derived.Test.YtdmmchoicngblaaGreatDoorUqan
import Derived.Test.YtdmmchoicngblaaGreatDoorUqar
import Derived.Test.YtdmmchoicngblaaGreatDoorUqas
import Derived.Test.YtdmmchoicngblaaGreatDoorUqao
import Derived.Deep.LoopGhost
import Derived.Lib.SliceRun
import Derived.Laws.IdiomCopy
namespace Go.Proofs.YtdmmchoicngblaaGreatDoor
set_option linter.unusedVariables false
set_option linter.unusedSimpArgs false
set_option maxRecDepth 100000
section
open Go Go.RowKit Go.Maps
theorem putF_self (ks : List Fun) (f : Fun) : f ∈ putF ks f := by unfold putF; split <;> simp_all
theorem putF_sub {ks : List Fun} {f g : Fun} (h : g ∈ ks) : g ∈ putF ks f := by unfold putF; split <;> simp_all
theorem putF_nd {ks : List Fun} (h : ks.Pairwise (· ≠ ·)) (f : Fun) : (putF ks f).Pairwise (· ≠ ·) := by
 unfold putF
 split
 ·exact h
 ·rename_i hf
  rw [List.pairwise_append]
  exact ⟨h, by simp, fun a ha b hb => by
   have e : b = f := by simpa using hb
   rw [e]; intro e2; exact hf (e2 ▸ ha)⟩
theorem putF_len (ks : List Fun) (f : Fun) : (putF ks f).length ≤ ks.length + 1 := by unfold putF; split <;> simp
theorem noteL_sub {ks : List Fun} {c : Cel} {g : Fun} (h : g ∈ ks) : g ∈ noteL ks c := by unfold noteL; split; exact putF_sub h; exact h
theorem noteL_nd {ks : List Fun} (h : ks.Pairwise (· ≠ ·)) (c : Cel) : (noteL ks c).Pairwise (· ≠ ·) := by unfold noteL; split; exact putF_nd h _; exact h
theorem noteL_len (ks : List Fun) (c : Cel) : (noteL ks c).length ≤ ks.length + 1 := by unfold noteL; split; exact putF_len _ _; omega
theorem notes_sub : ∀ (cs : List Cel) {ks : List Fun} {g : Fun}, g ∈ ks → g ∈ notes ks cs
 | [], _, _, h => h
 | c :: r, ks, g, h => by rw [notes_cons]; exact notes_sub r (noteL_sub h)
theorem notes_nd : ∀ (cs : List Cel) {ks : List Fun}, ks.Pairwise (· ≠ ·) → (notes ks cs).Pairwise (· ≠ ·)
 | [], _, h => h
 | c :: r, ks, h => by rw [notes_cons]; exact notes_nd r (noteL_nd h c)
theorem notes_len : ∀ (cs : List Cel) (ks : List Fun), (notes ks cs).length ≤ ks.length + cs.length
 | [], ks => by simp [notes]
 | c :: r, ks => by
   have h1 := notes_len r (noteL ks c); have h2 := noteL_len ks c; rw [notes_cons, List.length_cons]; omega
theorem notes_names : ∀ (cs : List Cel) (ks : List Fun), NamesIn (notes ks cs) cs
 | [], ks => fun x h => by simp at h
 | c :: r, ks => fun x hx hk => by
   rw [notes_cons]
   rcases List.mem_cons.1 hx with rfl | h
   ·refine notes_sub r ?_
    rw [noteL, if_pos hk]; exact putF_self _ _
   ·exact notes_names r _ x h hk
def StdOut (w : World) (cs cs' : List Cel) (e : Ending) (w' : World) : Prop :=
 ∃ b N ks rk, e = .returned (.func (.func 47) #[.map (some b)] #[]) ∧ FunMap w' b N ks rk ∧ RankOk rk ks ∧ NamesIn ks cs ∧ NamesIn ks cs' ∧ Below w.heap.size w w'
set_option maxHeartbeats 1000000 in
theorem standard_any (c : Cel) (k : Fo) (v : Value) (c' : Cel) (k' : Fo) (v' : Value) (Bt g : Nat) (w0 w : World) (hok : (Fo.node c k .nil).ok) (hok' : (Fo.node c' k' .nil).ok) (hfo : FoIn w0 Bt (.node c k .nil) [v]) (hfo' : FoIn w0 Bt (.node c' k' .nil) [v']) (hw : Below w0.heap.size w0 w)
  (g0 : w.cell? ⟨g, 0, none⟩ = some v) (g1 : w.cell? ⟨g, 1, none⟩ = some v') (hl : k.cells.length + 1 ≤ 2000) (hl' : k'.cells.length + 1 ≤ 2000) :
  Calls Tryz.prog 25 #[.slice (some ⟨g, 0, none⟩) 2 2] w (StdOut w (c :: k.cells) (c' :: k'.cells)) := by
 have hmm := @run_makeMap Tryz.prog
 have HN0 : Hid (NState (w.alloc (.map #[] 0)) w.heap.size 0 []) := ⟨0, Nat.le_refl _, FunMap.made w _⟩
 have HB0 : Hid (Below w.heap.size w (w.alloc (.map #[] 0))) := (Below.refl _ _).alloc (Nat.le_refl _) _
 have HSL : Hid (w.heap.size < (w.alloc (.map #[] 0)).heap.size) := by show _ < _; simp
 have HW1 : Hid (∀ W, Below w.heap.size w W → w.heap.size < W.heap.size → NState W w.heap.size 0 [] → Calls Tryz.prog 44 #[v, .func (.func 45) #[.map (some w.heap.size)] #[]] W (NWalk W w.heap.size w.heap.size (0 + (k.cells.length + 1)) (notes [] (c :: k.cells)))) := fun W hW hlt hs =>
  noteWalk_any k.cells.length c k v Bt w.heap.size w.heap.size 0 [] w0 W (Nat.le_refl _) hok hfo (Below.on hw hW) hw.size (Nat.le_of_lt hlt) (Nat.le_refl _) hs (by omega)
 have HW2 : Hid (∀ W, Below w.heap.size w W → w.heap.size < W.heap.size → NState W w.heap.size (0 + (k.cells.length + 1)) (notes [] (c :: k.cells)) → Calls Tryz.prog 44 #[v', .func (.func 45) #[.map (some w.heap.size)] #[]] W (NWalk W w.heap.size w.heap.size (0 + (k.cells.length + 1) + (k'.cells.length + 1)) (notes (notes [] (c :: k.cells)) (c' :: k'.cells)))) := fun W hW hlt hs =>
  noteWalk_any k'.cells.length c' k' v' Bt w.heap.size w.heap.size (0 + (k.cells.length + 1)) _ w0 W (Nat.le_refl _) hok' hfo' (Below.on hw hW) hw.size (Nat.le_of_lt hlt) (Nat.le_refl _) hs (by omega)
 have HSO : Hid (∀ W, NState W w.heap.size (0 + (k.cells.length + 1) + (k'.cells.length + 1)) (notes (notes [] (c :: k.cells)) (c' :: k'.cells)) → Calls Tryz.prog 46 #[.map (some w.heap.size)] W fun e w' => e = .returned (.tuple #[]) ∧ ∃ rk N', RankOk rk (notes (notes [] (c :: k.cells)) (c' :: k'.cells)) ∧ FunMap w' w.heap.size N' (notes (notes [] (c :: k.cells)) (c' :: k'.cells)) rk ∧ W.grownBy w' (some w.heap.size)) := fun W ⟨N, hN, hm⟩ =>
  sort_any w.heap.size N _ W hm (by omega) (by
   have h1 := notes_len (c' :: k'.cells) (notes [] (c :: k.cells)); have h2 := notes_len (c :: k.cells) []; simp only [List.length_cons, List.length_nil] at h1 h2
   omega) (notes_nd _ (notes_nd _ (by simp)))
 have HNM : Hid (NamesIn (notes (notes [] (c :: k.cells)) (c' :: k'.cells)) (c :: k.cells) ∧ NamesIn (notes (notes [] (c :: k.cells)) (c' :: k'.cells)) (c' :: k'.cells)) := ⟨fun x hx hk => notes_sub _ (notes_names _ _ x hx hk), notes_names _ _⟩
 obtain ⟨t1, x1, rfl⟩ := hfo.iface; obtain ⟨t2, x2, rfl⟩ := hfo'.iface; have G0 : Hid (w.cell? ⟨g, 0, none⟩ = some (.iface t1 x1)) := g0; have G1 : Hid (w.cell? ⟨g, 1, none⟩ = some (.iface t2 x2)) := g1; clear g0 g1 hok hok' hfo hfo' hw hl hl'
 generalize hk0 : notes [] (c :: k.cells) = K1 at *
 generalize hk1 : notes K1 (c' :: k'.cells) = K2 at *
 generalize 0 + (k.cells.length + 1) = m1 at *
 generalize m1 + (k'.cells.length + 1) = m2 at *
 clear hk0 hk1
 go_enter Tryz.func25, Tryz.ntmps25
 go_wp2_with fail; clear hmm
 go_loopw [9] (fun i wr => (i = .int .i64 0 ∧ Hid (NState wr w.heap.size 0 []) ∨ i = .int .i64 1 ∧ Hid (NState wr w.heap.size m1 K1) ∨ i = .int .i64 2 ∧ Hid (NState wr w.heap.size m2 K2)) ∧ Hid (Below w.heap.size w wr) ∧ Hid (w.heap.size < wr.heap.size)) (fun i _ => 2 - (intOf i).toNat)
 case atStart => exact ⟨.inl ⟨rfl, HN0⟩, HB0, HSL⟩
 case round =>
  obtain ⟨hcase, HB, HLT⟩ := hrel; have e0 := (HB.out.cell (World.block_lt_of_cell? _ _ G0.out)).trans G0.out; have e1 := (HB.out.cell (World.block_lt_of_cell? _ _ G1.out)).trans G1.out
  rcases hcase with ⟨rfl, HS⟩ | ⟨rfl, HS⟩ | ⟨rfl, HS⟩
  ·have HC := HW1.out wr HB.out HLT.out HS.out
   go_wp2_with fail; refine HC.mono ?_; rintro e w2 ⟨rfl, hs2, hb2⟩; have HS2 : Hid (NState w2 w.heap.size m1 K1) := hs2; have HB2 : Hid (Below w.heap.size w w2) := HB.out.trans hb2; have HL2 : Hid (w.heap.size < w2.heap.size) := Nat.lt_of_lt_of_le HLT.out hb2.size; clear hs2 hb2 HC; go_wp2_with fail; go_roundw
   case rel => exact ⟨.inr (.inl ⟨by go_num, HS2⟩), HB2, HL2⟩
   case measure => simp [intOf]
  ·have HC := HW2.out wr HB.out HLT.out HS.out
   go_wp2_with fail; refine HC.mono ?_; rintro e w2 ⟨rfl, hs2, hb2⟩; have HS2 : Hid (NState w2 w.heap.size m2 K2) := hs2; have HB2 : Hid (Below w.heap.size w w2) := HB.out.trans hb2; have HL2 : Hid (w.heap.size < w2.heap.size) := Nat.lt_of_lt_of_le HLT.out hb2.size; clear hs2 hb2 HC; go_wp2_with fail; go_roundw
   case rel => exact ⟨.inr (.inr ⟨by go_num, HS2⟩), HB2, HL2⟩
   case measure => simp [intOf]
  ·have HC := HSO.out wr HS.out
   go_wp2_with fail; refine HC.mono ?_; rintro e w2 ⟨rfl, rk, N', hrk, hfm, hgr⟩
   have HFIN : Hid (StdOut w (c :: k.cells) (c' :: k'.cells) (.returned (.func (.func 47) #[.map (some w.heap.size)] #[])) w2) := ⟨_, N', K2, rk, rfl, hfm, hrk, HNM.out.1, HNM.out.2, HB.out.grown hgr HB.out.size (fun j hj => by cases hj; exact Nat.le_refl _)⟩
   clear hrk hfm hgr HC; go_wp2_with fail; go_ret; exact HFIN.out
def StdN (w : World) (cs : List Cel) (e : Ending) (w' : World) : Prop :=
 ∃ b N ks rk, e = .returned (.func (.func 47) #[.map (some b)] #[]) ∧ w.heap.size ≤ b ∧ FunMap w' b N ks rk ∧ RankOk rk ks ∧ NamesIn ks cs ∧ Below w.heap.size w w'
set_option maxHeartbeats 1000000 in
theorem standardN_any (F : Fo) (vs : List Value) (p : Option Addr) (q c Bt : Nat) (w0 w : World) (hok : F.ok) (hfo : FoIn w0 Bt F vs) (ha : ArgIn w p vs) (hq : q = vs.length) (hw : Below w0.heap.size w0 w) (hl : F.cells.length ≤ 4000) :
  Calls Tryz.prog 25 #[.slice p q c] w (StdN w F.cells) := by
 have hmm := @run_makeMap Tryz.prog
 have HN0 : Hid (NState (w.alloc (.map #[] 0)) w.heap.size 0 []) := ⟨0, Nat.le_refl _, FunMap.made w _⟩
 have HB0 : Hid (Below w.heap.size w (w.alloc (.map #[] 0))) := (Below.refl _ _).alloc (Nat.le_refl _) _
 have HSL : Hid (w.heap.size < (w.alloc (.map #[] 0)).heap.size) := by show _ < _; simp
 have HWK : Hid (∀ c k v m ks W, (Fo.node c k .nil).ok → FoIn w0 Bt (.node c k .nil) [v] → Below w.heap.size w W → w.heap.size < W.heap.size → NState W w.heap.size m ks → m + 1 + k.cells.length ≤ 100000 → Calls Tryz.prog 44 #[v, .func (.func 45) #[.map (some w.heap.size)] #[]] W (NWalk W w.heap.size w.heap.size (m + (k.cells.length + 1)) (notes ks (c :: k.cells)))) := fun c k v m ks W hok1 hfo1 hW hlt hs hle =>
  noteWalk_any k.cells.length c k v Bt w.heap.size w.heap.size m ks w0 W (Nat.le_refl _) hok1 hfo1 (Below.on hw hW) hw.size (Nat.le_of_lt hlt) (Nat.le_refl _) hs hle
 have HSO : Hid (∀ W, NState W w.heap.size F.cells.length (notes [] F.cells) → Calls Tryz.prog 46 #[.map (some w.heap.size)] W fun e w' => e = .returned (.tuple #[]) ∧ ∃ rk N', RankOk rk (notes [] F.cells) ∧ FunMap w' w.heap.size N' (notes [] F.cells) rk ∧ W.grownBy w' (some w.heap.size)) := fun W ⟨N, hN, hm⟩ =>
  sort_any w.heap.size N _ W hm (by omega) (by
   have h1 := notes_len F.cells []; simp only [List.length_nil] at h1
   omega) (notes_nd _ (by simp))
 have HNM : Hid (NamesIn (notes [] F.cells) F.cells) := notes_names _ _
 have HQ : Hid (q = vs.length ∧ q ≤ 4000) := ⟨hq, by
  have h1 := FoIn.count F vs hfo; have h2 := Fo.count_le F
  omega⟩
 have HOK : Hid (F.ok ∧ F.cells.length ≤ 4000) := ⟨hok, hl⟩
 have HFO : Hid (FoIn w0 Bt F vs) := hfo; have HA : Hid (ArgIn w p vs) := ha; have HQB := HQ.out.2; clear hok hfo ha hw hl hq
 go_enter Tryz.func25, Tryz.ntmps25
 go_wp2_with fail; clear hmm
 go_loopw [9] (fun i wr => ∃ (D R : Fo) (us vr : List Value) (j : Nat), j ≤ q ∧ i = .int .i64 j ∧ Hid (F = D.cat R ∧ vs = us ++ vr ∧ us.length = j) ∧ Hid (FoIn w0 Bt R vr) ∧ Hid (NState wr w.heap.size D.cells.length (notes [] D.cells)) ∧ Hid (Below w.heap.size w wr) ∧ Hid (w.heap.size < wr.heap.size)) (fun i _ => q - (intOf i).toNat)
 case atStart => exact ⟨.nil, F, [], vs, 0, Nat.zero_le _, rfl, ⟨rfl, rfl, rfl⟩, HFO, HN0, HB0, HSL⟩
 case round =>
  obtain ⟨D, R, us, vr, j, hj, rfl, HF, HR, HS, HB, HLT⟩ := hrel
  by_cases hlt : j < q
  ·obtain ⟨c, k, r, rfl⟩ : ∃ c k r, R = .node c k r := by
    cases R with
    | nil =>
      have h1 := HF.out; have h2 : vr = [] := HR.out; have h3 := HQ.out.1; rw [h1.2.1, h2, List.append_nil] at h3
      omega
    | node c k r => exact ⟨c, k, r, rfl⟩
   obtain ⟨v, vt, rfl, hnode, hrest⟩ := HR.out; obtain ⟨g, rfl, hg⟩ := HA.out j (by rw [← HQ.out.1]; exact hlt)
   have hat : w.cell? ⟨g, j, none⟩ = some v := by rw [hg, HF.out.2.1]; simp [List.getD, HF.out.2.2]
   have d1 : wr.cell? ⟨g, j, none⟩ = some v := (HB.out.cell (World.block_lt_of_cell? _ _ hat)).trans hat; have ho := (Fo.ok_cat D (.node c k r)).1 (HF.out.1 ▸ HOK.out.1)
   have hl : D.cells.length + 1 + k.cells.length ≤ 100000 := by
    have := HOK.out.2; rw [HF.out.1, Fo.cells_cat] at this; simp [Fo.cells] at this; omega
   have HC := HWK.out c k v D.cells.length (notes [] D.cells) wr ⟨ho.2.1, ho.2.2.1, ho.2.2.2.1, ho.2.2.2.2.1, ho.2.2.2.2.2.1, trivial⟩ ⟨v, [], rfl, hnode, rfl⟩ HB.out HLT.out HS.out hl; rw [← notes_append] at HC
   have HN : Hid (F = (D.cat (.node c k .nil)).cat r ∧ vs = (us ++ [v]) ++ vt ∧ (us ++ [v]).length = j + 1) := ⟨by rw [Fo.cat_assoc]; exact HF.out.1, by rw [HF.out.2.1]; simp, by simp [HF.out.2.2]⟩
   have HRR : Hid (FoIn w0 Bt r vt) := hrest
   have HDC : Hid (D.cells.length + (k.cells.length + 1) = (D.cat (.node c k .nil)).cells.length ∧ D.cells ++ (c :: k.cells) = (D.cat (.node c k .nil)).cells) := ⟨by rw [Fo.cells_cat]; simp [Fo.cells], by rw [Fo.cells_cat]; simp [Fo.cells]⟩
   obtain ⟨t1, x1, rfl⟩ := hnode.iface; clear ho hl hat hg hnode hrest; go_wp2_with fail; refine HC.mono ?_; rintro e w2 ⟨rfl, hs2, hb2⟩; rw [HDC.out.1, HDC.out.2] at hs2; have HS2 : Hid (NState w2 w.heap.size (D.cat (.node c k .nil)).cells.length (notes [] (D.cat (.node c k .nil)).cells)) := hs2; have HB2 : Hid (Below w.heap.size w w2) := HB.out.trans hb2; have HL2 : Hid (w.heap.size < w2.heap.size) := Nat.lt_of_lt_of_le HLT.out hb2.size; clear hs2 hb2 HC; go_wp2_with fail; go_roundw
   case rel => exact ⟨_, r, _, vt, j + 1, by omega, by go_num, HN, HRR, HS2, HB2, HL2⟩
   case measure => simp [intOf]; omega
  ·obtain rfl : j = q := by omega
   obtain rfl : R = .nil := by
    have h1 := FoIn.count _ _ HR.out; have h2 := HQ.out.1; rw [HF.out.2.1, List.length_append] at h2; have h3 := HF.out.2.2
    cases R with
    | nil => rfl
    | node a b d => simp [Fo.count] at h1; omega
   have hDF : D = F := by have := HF.out.1; rw [Fo.cat_nil] at this; exact this.symm
   subst hDF; have HC := HSO.out wr HS.out; go_wp2_with fail; refine HC.mono ?_; rintro e w2 ⟨rfl, rk, N', hrk, hfm, hgr⟩
   have HFIN : Hid (StdN w D.cells (.returned (.func (.func 47) #[.map (some w.heap.size)] #[])) w2) := ⟨_, N', _, rk, rfl, Nat.le_refl _, hfm, hrk, HNM.out, HB.out.grown hgr HB.out.size (fun j hj => by cases hj; exact Nat.le_refl _)⟩
   clear hrk hfm hgr HC; go_wp2_with fail; go_ret; exact HFIN.out
end
section
open Go Go.RowKit Go.Shelf Go.Lib Go.Sort Go.Maps
theorem valid_cellsO : ∀ (F : Fo) (m : Nat) (rest : List Cel), F.ok → validFrom ((m + F.count : Nat) : Int) (F.cells ++ rest) = validFrom (m : Int) rest
 | .nil, m, rest, _ => by simp [Fo.cells, Fo.count]
 | .node c k r, m, rest, ho => by
   have h1 := ho.1
   have hg : grows c.1 c.2.1 = (k.count : Int) := by
    unfold grows
    by_cases h3 : c.1 = 3
    ·rw [if_pos h3, ho.2.2.1 h3]
    ·rw [if_neg h3, ho.2.2.2.1 h3]; rfl
   have hk := valid_cellsO k (m + r.count) (r.cells ++ rest) ho.2.2.2.2.1; have hr := valid_cellsO r m rest ho.2.2.2.2.2; simp only [Fo.cells, Fo.count, List.cons_append, List.append_assoc, validFrom, hg]; rw [if_neg (by rw [h1]; simp; omega), ← hr, ← hk]
   congr 1
   push_cast
   omega
theorem okB_cells : ∀ F : Fo, F.ok → ∀ x ∈ F.cells, Byte x.2.2
 | .nil, _, x, h => by simp [Fo.cells] at h
 | .node c k r, ⟨_, h2, _, _, h5, h6⟩, x, h => by
   simp only [Fo.cells, List.mem_cons, List.mem_append] at h
   rcases h with rfl | h | h
   ·exact h2
   ·exact okB_cells k h5 x h
   ·exact okB_cells r h6 x h
theorem okV_cells {c : Cel} {k : Fo} (h : (Fo.node c k .nil).ok) : validFrom 1 (c :: k.cells) = true := by
 have := valid_cellsO (.node c k .nil) 0 [] h
 simpa [Fo.count, Fo.cells, validFrom] using this
abbrev TmE (w : World) (blk : Nat) (ks : List Fun) := { z : (TypeId × Value) × (Cel × Fo) // FoIn w (blk + 1) (.node z.2.1 z.2.2 .nil) [.iface z.1.1 z.1.2] ∧ (Fo.node z.2.1 z.2.2 .nil).ok ∧ NamesIn ks (z.2.1 :: z.2.2.cells) ∧ z.2.2.cells.length + 1 ≤ 5000 }
def encT {w : World} {blk : Nat} {ks : List Fun} (z : TmE w blk ks) : Value := .iface z.1.1.1 z.1.1.2
def cfT {w : World} {blk : Nat} {ks : List Fun} (x y : TmE w blk ks) : Int := cmpC (itC x.1.2) (itC y.1.2)
theorem cfT_swo {w : World} {blk : Nat} {ks : List Fun} : SWO (ltOf (cfT (w := w) (blk := blk) (ks := ks))) := by
 have tr : ∀ x y z : TmE w blk ks, cfT x y ≤ 0 → cfT y z ≤ 0 → cfT x z ≤ 0 := fun x y z =>
  cmpC_trans _ _ _ 1 (okV_cells x.2.2.1) (okV_cells y.2.2.1) (okV_cells z.2.2.1) (fun c hc => okB_cells _ x.2.2.1 c (by simpa [Fo.cells, itC] using hc)) (fun c hc => okB_cells _ y.2.2.1 c (by simpa [Fo.cells, itC] using hc)) (fun c hc => okB_cells _ z.2.2.1 c (by simpa [Fo.cells, itC] using hc))
 have sw : ∀ x y : TmE w blk ks, cfT y x = - cfT x y := fun x y => cmpC_swap _ _
 refine ⟨fun x => ?_, fun x y z h1 h2 => ?_, fun x y z h1 h2 => ?_⟩
 ·simp [ltOf, cfT, cmpC_self]
 ·simp only [ltOf, decide_eq_true_eq] at h1 h2 ⊢
  by_cases h : cfT x z < 0
  ·exact h
  ·have h3 := tr z x y (by rw [sw]; omega) (by omega)
   have h4 := sw y z
   omega
 ·simp only [ltOf, decide_eq_false_iff_not, Int.not_lt] at h1 h2 ⊢
  have h3 := tr z y x (by rw [sw]; omega) (by rw [sw]; omega); have h4 := sw x z
  omega
theorem grown_sortT {w : World} {blk : Nat} {α : Type} [Inhabited α] {enc : α → Value} {dk : Array α} {W : World} (S : SW enc w blk 0 dk W) : w.grownBy W (some blk) := by
 obtain ⟨n, os, rfl⟩ := S; refine ⟨rfl, rfl, rfl, by simp [sortWorld], fun k hk hne => ?_⟩; rw [sortWorld, heap_grow_old _ _ (by simpa using hk)]
 have : blk ≠ k := fun e => hne (by rw [e])
 simp [putRow, mapBlock, Sort.ahead, Array.getElem?_modify, this]
theorem cmpB_terms {w : World} {b N blk n : Nat} {ks : List Fun} {rk : Fun → Int} [Inhabited (TmE w blk ks)] (hm : FunMap w b N ks rk) (hr : RankOk rk ks) (hne : b ≠ blk) (hbl : blk < w.heap.size) : CmpB (encT (w := w) (blk := blk) (ks := ks)) cfT b blk n w := fun W dk hs S x y => by
 have hg := grown_sortT S
 have hck : CK (strike w blk) W := ⟨fun {p v} hp => by
  obtain ⟨h1, h2⟩ := strike_cell hbl hp
  exact (World.cell?_of_block (hg.block p.block (World.block_lt_of_cell? _ _ h2) (fun e => h1 (Option.some.inj e)))).trans h2, by rw [strike_size]; exact hg.size⟩
 have hfx : ∀ z : TmE w blk ks, FoIn (strike w blk) (blk + 1) (.node z.1.2.1 z.1.2.2 .nil) [.iface z.1.1.1 z.1.1.2] := fun z =>
  FoIn.imp (Nat.le_refl _) (fun b' o hb hlt => by
   have : b' ≠ blk := by omega
   simp only [strike, World.cell?, World.putObj_heap_other this]) (by rw [strike_size]; exact Nat.le_refl _) _ _ z.2.1
 have h := compareG_any (strike w blk) (blk + 1) b N ks rk 5000 (by omega) x.1.2.1 x.1.2.2 (encT x) y.1.2.1 y.1.2.2 (encT y) W x.2.2.2.2 x.2.2.1 y.2.2.1 (hfx x) (hfx y) x.2.2.2.1 y.2.2.2.1 hck (hm.of_block (hg.block b hm.lt (fun e => hne (Option.some.inj e)))); rw [compare_cells hr _ _ _ _ x.2.2.1 y.2.2.1 x.2.2.2.1 y.2.2.2.1] at h
 exact h.mono fun e w' ⟨h1, h2⟩ => ⟨h1, h2.grown⟩
theorem packT {w : World} {blk : Nat} {ks : List Fun} : ∀ (its : List (Cel × Fo)) (us : List Value), FoIn w (blk + 1) (itsF its) us → (itsF its).ok → NamesIn ks (itsF its).cells → (itsF its).cells.length ≤ 5000 →
  ∃ L : List (TmE w blk ks), L.map (fun z => z.1.2) = its ∧ L.map encT = us
 | [], us, h, _, _, _ => ⟨[], rfl, by rw [show us = [] from h]; rfl⟩
 | x :: r, us, ⟨v, vr, e, hn, hr⟩, hok, hns, hl => by
   obtain ⟨t, y, rfl⟩ := hn.iface; simp only [itsF, Fo.cells, List.length_cons, List.length_append] at hl; obtain ⟨L, h1, h2⟩ := packT r vr hr hok.2.2.2.2.2 (hns.sub fun z hz => by simp only [itsF, Fo.cells, List.mem_cons, List.mem_append]; exact .inr (.inr hz)) (by omega); refine ⟨⟨((t, y), x), ⟨_, [], rfl, hn, rfl⟩, ⟨hok.1, hok.2.1, hok.2.2.1, hok.2.2.2.1, hok.2.2.2.2.1, trivial⟩, hns.sub fun z hz => by simp only [itsF, Fo.cells, List.mem_cons, List.mem_append] at hz ⊢; rcases hz with h | h <;> simp [h], by show x.2.cells.length + 1 ≤ 5000; omega⟩ :: L, by simp [h1], by rw [List.map_cons, h2, e]; rfl⟩
theorem unpackT {w w' : World} {blk : Nat} {ks : List Fun} (hg : w.grownBy w' (some blk)) : ∀ L : List (TmE w blk ks), FoIn w' (blk + 1) (itsF (L.map (fun z => z.1.2))) (L.map encT)
 | [] => rfl
 | z :: L => by
   obtain ⟨v, vr, e, hn, hr⟩ := FoIn.imp (w' := w') (Nat.le_refl _) (fun b o hb hlt => World.cell?_of_block (a := ⟨b, o, none⟩) (hg.block b hlt (fun e => by have := Option.some.inj e; omega))) hg.size _ _ z.2.1; obtain ⟨rfl, rfl⟩ := List.cons.inj e; exact ⟨_, _, rfl, hn, unpackT hg L⟩
theorem unpack_ok {w : World} {blk : Nat} {ks : List Fun} : ∀ L : List (TmE w blk ks), (itsF (L.map (fun z => z.1.2))).ok
 | [] => trivial
 | z :: L => ⟨z.2.2.1.1, z.2.2.1.2.1, z.2.2.1.2.2.1, z.2.2.1.2.2.2.1, z.2.2.1.2.2.2.2.1, unpack_ok L⟩
def SortOut (w : World) (blk : Nat) (its : List (Cel × Fo)) (e : Ending) (w' : World) : Prop :=
 e = .returned (.tuple #[]) ∧ ∃ its' us', its'.Perm its ∧ its'.Pairwise (fun x y => cmpC (itC x) (itC y) ≤ 0) ∧ us'.length = its.length ∧ (∀ i, i < its.length → w'.cell? ⟨blk, i, none⟩ = some (us'.getD i .nilIface) ∧ w'.frozen? ⟨blk, i, none⟩ = false) ∧ FoIn w' (blk + 1) (itsF its') us' ∧ (itsF its').ok ∧ w.grownBy w' (some blk)
theorem sortT_any (its : List (Cel × Fo)) (us : List Value) (blk cap n b N : Nat) (ks : List Fun) (rk : Fun → Int) (w : World) (hn : n = its.length) (h0 : 0 < n) (h12 : n ≤ 12) (hrow : ∀ i, i < us.length → w.cell? ⟨blk, i, none⟩ = some (us.getD i .nilIface) ∧ w.frozen? ⟨blk, i, none⟩ = false)
  (hfo : FoIn w (blk + 1) (itsF its) us) (hok : (itsF its).ok) (hns : NamesIn ks (itsF its).cells) (hl : (itsF its).cells.length ≤ 5000) (hm : FunMap w b N ks rk) (hr : RankOk rk ks) (hne : b ≠ blk) (hbl : blk < w.heap.size) :
  Calls Tryz.prog 223 #[.slice (some ⟨blk, 0, none⟩) n cap, .func (.func 47) #[.map (some b)] #[]] w (SortOut w blk its) := by
 obtain ⟨L, hL1, hL2⟩ := packT (w := w) (blk := blk) (ks := ks) its us hfo hok hns hl
 have hLn : L.length = n := by rw [hn, ← hL1]; simp
 haveI : Inhabited (TmE w blk ks) := ⟨L[0]'(by omega)⟩
 have hH : Holds (encT (w := w) (blk := blk) (ks := ks)) w blk 0 L.toArray := fun j hj => by
  have hj' : j < L.length := by simpa using hj
  have h1 := hrow j (by rw [← hL2]; simpa using hj'); rw [← hL2] at h1; rw [Nat.zero_add]; refine ⟨h1.1.trans ?_, h1.2⟩
  have e1 : L.toArray[j]! = L[j] := by simp [hj']
  rw [e1]
  simp [List.getD, hj']
 refine (sortB_any (encT (w := w) (blk := blk) (ks := ks)) cfT b blk cap n L.toArray L.toArray w w (cmpB_terms hm hr hne hbl) ⟨fun _ => rfl, hH, hbl⟩ (by simpa using hLn) (by simpa using hLn) (SW.start hH) h12).mono ?_; rintro e w' ⟨rfl, S⟩; have hs := insertionSort_holds (lt := ltOf (cfT (w := w) (blk := blk) (ks := ks))) cfT_swo L.toArray 0 n (Nat.zero_le _) (by simp [hLn])
 obtain ⟨d', hd⟩ : ∃ d', d' = Sort.insertionSort (ltOf (cfT (w := w) (blk := blk) (ks := ks))) L.toArray 0 n := ⟨_, rfl⟩
 rw [← hd] at S hs
 have hsz : d'.size = n := by have := hs.1.1; simpa [hLn] using this
 have hperm : d'.toList.Perm L := by
  have := hs.1.2.2; rw [Array.extract_eq_self_of_le (by omega), Array.extract_eq_self_of_le (by simp [hLn])] at this
  simpa using this
 have hg := grown_sortT S; have hHo := S.holds hbl hH (by simp [hsz, hLn]); refine ⟨rfl, d'.toList.map (fun z => z.1.2), d'.toList.map encT, by rw [← hL1]; exact hperm.map _, ?_, by simp [hsz, hn], fun i hi => ?_, unpackT hg _, unpack_ok _, hg⟩
 ·rw [List.pairwise_map, List.pairwise_iff_getElem]
  intro i j h1 h2 hij
  have h := hs.2 i j (Nat.zero_le _) hij (by simpa [hsz] using h2)
  have e1 : d'[i]! = d'.toList[i] := by simp [show i < d'.size by simpa using h1]
  have e2 : d'[j]! = d'.toList[j] := by simp [show j < d'.size by simpa using h2]
  rw [e1, e2] at h; simp only [ltOf, decide_eq_false_iff_not, Int.not_lt] at h; have h3 : cfT d'.toList[j] d'.toList[i] = - cfT d'.toList[i] d'.toList[j] := cmpC_swap _ _
  show cfT d'.toList[i] d'.toList[j] ≤ 0
  omega
 ·have hi' : i < d'.size := by omega
  have h := hHo i hi'; rw [Nat.zero_add] at h; refine ⟨h.1.trans ?_, h.2⟩
  have e1 : d'[i]! = d'.toList[i] := by simp [hi']
  rw [e1]
  simp [List.getD, hi']
end
section
open Go Go.RowKit Go.Maps
def mpT (f : Cel → Cel) (x : Cel × Fo) : Cel × Fo := (f x.1, x.2.map f)
theorem itsF_map (f : Cel → Cel) : ∀ its : List (Cel × Fo), (itsF its).map f = itsF (its.map (mpT f))
 | [] => rfl
 | x :: r => by simp only [itsF, Fo.map, List.map_cons, mpT, itsF_map f r]
theorem lk_ren {L : List Int} {c : Cel} (h : c.1 = 0 → c.2.1 ∈ L) : lkI L (renI L c) = c := by
 by_cases h0 : c.1 = 0
 ·have hm := h h0
  have hlt : L.idxOf c.2.1 < L.length := List.idxOf_lt_length_iff.2 hm; rw [renI, if_pos h0, lkI, if_pos h0]; simp only [Int.toNat_natCast]; rw [List.getD, List.getElem?_eq_getElem hlt]
  simp [List.getElem_idxOf]
 ·rw [renI, if_neg h0, lkI, if_neg h0]
theorem lk_ren_fo {L : List Int} : ∀ F : Fo, (∀ c ∈ F.cells, c.1 = 0 → c.2.1 ∈ L) → (F.map (renI L)).map (lkI L) = F
 | .nil, _ => rfl
 | .node c k r, h => by
   simp only [Fo.cells, List.mem_cons, List.mem_append] at h; simp only [Fo.map]; rw [lk_ren (h c (.inl rfl)), lk_ren_fo k fun x hx => h x (.inr (.inl hx)), lk_ren_fo r fun x hx => h x (.inr (.inr hx))]
theorem visits_memW : ∀ (cs : List Cel) (ks : List Int), ∀ c ∈ cs, c.1 = 0 → c.2.1 ∈ visits ks cs
 | [], _, c, h, _ => by simp at h
 | x :: r, ks, c, h, h0 => by
   rw [visits_cons]
   rcases List.mem_cons.1 h with rfl | h
   ·have h1 : c.2.1 ∈ visitL ks c := by rw [visitL, if_pos h0]; exact putV_mem _ _
    exact (visits_prefix r _).subset h1
   ·exact visits_memW r _ c h h0
theorem itsF_at_cells : ∀ (its : List (Cel × Fo)) (x : Cel × Fo), x ∈ its → ∀ c ∈ x.1 :: x.2.cells, c ∈ (itsF its).cells
 | [], x, h, _, _ => by simp at h
 | y :: r, x, h, c, hc => by
   simp only [itsF, Fo.cells, List.mem_cons, List.mem_append]
   rcases List.mem_cons.1 h with rfl | h
   ·rcases List.mem_cons.1 hc with h | h
    ·exact .inl h
    ·exact .inr (.inl h)
   ·exact .inr (.inr (itsF_at_cells r x h c hc))
def InOut (w : World) (its : List (Cel × Fo)) (e : Ending) (w' : World) : Prop :=
 ∃ g its' us', e = .returned (.slice (some ⟨g, 0, none⟩) its.length its.length) ∧ w.heap.size ≤ g ∧ its'.Perm its ∧ its'.Pairwise (fun x y => cmpC ((itC x).map (renI (visits [] (itsF its).cells))) ((itC y).map (renI (visits [] (itsF its).cells))) ≤ 0) ∧ us'.length = its.length ∧
   (∀ i, i < its.length → w'.cell? ⟨g, i, none⟩ = some (us'.getD i .nilIface) ∧ w'.frozen? ⟨g, i, none⟩ = false) ∧ FoIn w' (g + 1) (itsF its') us' ∧ g < w'.heap.size ∧ Below w.heap.size w w'
structure IO (w3 : World) (g : Nat) (L : List Int) (its2 : List (Cel × Fo)) (j : Nat) (D R : List (Cel × Fo)) (ns vr : List Value) (W : World) : Prop where
 its : its2 = D ++ R
 len : D.length = j
 nsl : ns.length = j
 low : Below w3.heap.size w3 W
 gl : g < W.heap.size
 row : ∀ i, i < its2.length → W.cell? ⟨g, i, none⟩ = some ((ns ++ vr).getD i .nilIface) ∧ W.frozen? ⟨g, i, none⟩ = false
 don : FoIn W (g + 1) (itsF (D.map (mpT (lkI L)))) ns
 rest : FoIn W (g + 1) (itsF R) vr
theorem IO.next {w3 : World} {g : Nat} {L : List Int} {its2 : List (Cel × Fo)} {j : Nat} {D : List (Cel × Fo)} {x : Cel × Fo} {R : List (Cel × Fo)} {ns vr : List Value} {u v : Value} {W w4 : World} (h : IO w3 g L its2 j D (x :: R) ns (u :: vr) W) (hg3 : w3.heap.size ≤ g)
  (hb : Below W.heap.size W w4) (hf : FoIn w4 W.heap.size (.node (lkI L x.1) (x.2.map (lkI L)) .nil) [v]) : IO w3 g L its2 (j + 1) (D ++ [x]) R (ns ++ [v]) vr (w4.setCell ⟨g, j, none⟩ v) := by
 have hgl := h.gl; have hs4 := hb.size
 have hj : j < its2.length := by rw [h.its]; simp [h.len]
 have hr : FoIn W (g + 1) (itsF R) vr := by
  obtain ⟨a, b, e, _, h2⟩ := h.rest; obtain ⟨_, rfl⟩ := List.cons.inj e; exact h2
 have c4 : ∀ i, i < its2.length → w4.cell? ⟨g, i, none⟩ = some ((ns ++ u :: vr).getD i .nilIface) ∧ w4.frozen? ⟨g, i, none⟩ = false := fun i hi =>
  ⟨(hb.cell (p := ⟨g, i, none⟩) hgl).trans (h.row i hi).1, (World.frozen?_of_block (a := ⟨g, i, none⟩) (hb.block g hgl)).trans (h.row i hi).2⟩
 have hset : Below w3.heap.size w4 (w4.setCell ⟨g, j, none⟩ v) := ⟨rfl, rfl, rfl, by simp, fun k hk => Below.heap_setCell _ _ _ _ (show k ≠ g by omega)⟩
 refine ⟨by rw [h.its]; simp, by simp [h.len], by simp [h.nsl], (Below.on h.low hb).trans hset, by simp; omega, fun i hi => ?_, ?_, (hr.below hb).setCell (show g < g + 1 by omega) _⟩
 ·refine ⟨?_, by rw [World.frozen?_setCell]; exact (c4 i hi).2⟩
  by_cases e : i = j
  ·subst e
   rw [World.cell?_setCell_same _ _ _ (c4 i hi).1]; rw [List.getD, List.append_assoc, List.getElem?_append_right (by rw [h.nsl]; exact Nat.le_refl _), h.nsl, Nat.sub_self]; rfl
  ·rw [World.cell?_setCell_other _ _ _ _ (fun h' => e (by have := congrArg Addr.off h'; simpa using this.symm)), (c4 i hi).1]
   congr 1
   rcases Nat.lt_or_ge i j with hlt | hge
   ·rw [List.getD, List.getD, List.append_assoc, List.getElem?_append_left (by rw [h.nsl]; exact hlt), List.getElem?_append_left (by rw [h.nsl]; exact hlt)]
   ·rw [List.getD, List.getD, List.append_assoc, List.getElem?_append_right (by rw [h.nsl]; exact hge), List.getElem?_append_right (by rw [h.nsl]; exact hge), h.nsl]
    obtain ⟨m, hm⟩ : ∃ m, i - j = m + 1 := ⟨i - j - 1, by omega⟩
    rw [hm]; rfl
 ·rw [List.map_append, List.map_cons, List.map_nil, itsF_snoc]
  exact (FoIn.cat _ _ _ _ (h.don.below hb) (hf.mono (by omega))).setCell (show g < g + 1 by omega) _
end
section
open Go Go.RowKit
theorem trees_of : ∀ (css : List (List Cel)), (∀ i, i < css.length → ∀ j, j < (css.getD i []).length → Byte ((css.getD i []).getD j Cel.none).2.2) → css.all validB = true → ∃ ts : List (Cel × Fo), css = ts.map itC ∧ ∀ x ∈ ts, (Fo.node x.1 x.2 .nil).ok
 | [], _, _ => ⟨[], rfl, fun x h => by simp at h⟩
 | cs :: r, hb, hv => by
   simp only [List.all_cons, Bool.and_eq_true] at hv; obtain ⟨ts, e, h⟩ := trees_of r (fun i hi j hj => by have := hb (i + 1) (by simp; omega) j (by simpa using hj); simpa using this) hv.2; obtain ⟨c, k, e1, e2, _⟩ := tree_of (cs := cs) (fun j hj => by have := hb 0 (by simp) j (by simpa using hj); simpa using this) hv.1
   exact ⟨(c, k) :: ts, by rw [List.map_cons, ← e, e1]; rfl, fun x hx => by
    rcases List.mem_cons.1 hx with rfl | hx
    ·exact e2
    ·exact h x hx⟩
theorem trees_at {css : List (List Cel)} {ts : List (Cel × Fo)} (e : css = ts.map itC) (i : Nat) (h : i < ts.length) : css.getD i [] = ts[i].1 :: ts[i].2.cells := by
 rw [e, List.getD, List.getElem?_map, List.getElem?_eq_getElem h]; rfl
theorem listT_node (ts : List (Cel × Fo)) : ∃ c k, listT ts = .node c k .nil := by cases ts <;> exact ⟨_, _, rfl⟩
theorem get_set_ne {α : Type} (l : List α) (i j : Nat) (a : α) (h : i ≠ j) : (l.set i a)[j]? = l[j]? := List.getElem?_set_ne h
theorem zs_snoc_at (zs : List (Nat × Value)) (z : Nat × Value) (i k : Nat) (hk : zs.length = k) : (zs ++ [z])[i]?.getD (0, .nilIface) = if i = k then z else zs[i]?.getD (0, .nilIface) := by
 by_cases e : i = k
 ·rw [if_pos e, e, ← hk]; simp
 ·rw [if_neg e]
  by_cases h : i < zs.length
  ·rw [List.getElem?_append_left h]
  ·rw [List.getElem?_append_right (by omega)]
   have : ([z] : List (Nat × Value))[i - zs.length]? = none := by simp; omega
   rw [this]
   have h2 : zs[i]? = none := by simp; omega
   rw [h2]
def PartsAt (wr : World) (B g n : Nat) (ts : List (Cel × Fo)) (zs : List (Nat × Value)) (j : Nat) : Prop :=
 zs.length = j ∧ (∃ vs, wr.ownsRow B 58 1 (.slice (some ⟨g, 0, none⟩) n n) n vs ∧ ∀ i, i < j → vs[i]? = some (.iface (zs[i]?.getD (0, .nilIface)).1 (zs[i]?.getD (0, .nilIface)).2)) ∧
 ∀ i (h : i < ts.length), i < j → FoIn wr (g + 1) (.node ts[i].1 ts[i].2 .nil) [.iface (zs[i]?.getD (0, .nilIface)).1 (zs[i]?.getD (0, .nilIface)).2]
theorem PartsAt.below {wr w2 : World} {B g n : Nat} {ts : List (Cel × Fo)} {zs : List (Nat × Value)} {j : Nat} (h : PartsAt wr B g n ts zs j) (hb : Below wr.heap.size wr w2) : PartsAt w2 B g n ts zs j := by
 obtain ⟨h1, ⟨vs, h2, h3⟩, h4⟩ := h; exact ⟨h1, ⟨vs, row_below h2 hb, h3⟩, fun i h hi => (h4 i h hi).below hb⟩
theorem PartsAt.next {w2 : World} {B g n : Nat} {ts : List (Cel × Fo)} {zs : List (Nat × Value)} {j : Nat} (h : PartsAt w2 B g n ts zs j) (hjn : j < n) (hj : j < ts.length) {t : Nat} {u : Value} (hfo : FoIn w2 (g + 1) (.node ts[j].1 ts[j].2 .nil) [.iface t u]) :
  PartsAt (w2.setCell ⟨g, j, none⟩ (.iface t u)) B g n ts (zs ++ [(t, u)]) (j + 1) := by
 obtain ⟨h1, ⟨vs, h2, h3⟩, h4⟩ := h
 have hlen : vs.length = n := by have := h2.1; omega
 have hc : ∀ b o, g + 1 ≤ b → b < w2.heap.size → (w2.setCell ⟨g, j, none⟩ (.iface t u)).cell? ⟨b, o, none⟩ = w2.cell? ⟨b, o, none⟩ := fun b o hb _ => World.cell?_of_block (Below.heap_setCell _ _ _ _ (show b ≠ g by omega))
 refine ⟨by simp [h1], ⟨vs.set j (.iface t u), (h2.stored j _).1, fun i hi => ?_⟩, fun i h hi => ?_⟩
 ·rw [zs_snoc_at _ _ _ _ h1]
  by_cases e : i = j
  ·rw [if_pos e, e, List.getElem?_set_self (by omega)]
  ·rw [if_neg e, get_set_ne _ _ _ _ (fun x => e x.symm)]; exact h3 i (by omega)
 ·rw [zs_snoc_at _ _ _ _ h1]
  by_cases e : i = j
  ·subst e
   rw [if_pos rfl]; exact FoIn.imp (Nat.le_refl _) hc (by simp) _ _ hfo
  ·rw [if_neg e]
   exact FoIn.imp (Nat.le_refl _) hc (by simp) _ _ (h4 i h (by omega))
theorem PartsAt.cell {wr : World} {B g n : Nat} {ts : List (Cel × Fo)} {zs : List (Nat × Value)} {j : Nat} (h : PartsAt wr B g n ts zs j) (i : Nat) (hi : i < n) : ∃ y, wr.cell? ⟨g, i, none⟩ = some y ∧ wr.frozen? ⟨g, i, none⟩ = false := by
 obtain ⟨h1, ⟨vs, h2, h3⟩, h4⟩ := h
 have hlen : vs.length = n := by have := h2.1; omega
 exact ⟨vs[i], (h2.cellAt i (by omega)).trans (List.getElem?_eq_getElem (by omega)), h2.frozenAt i⟩
theorem PartsAt.cells {wr : World} {B g n : Nat} {ts : List (Cel × Fo)} {zs : List (Nat × Value)} {j : Nat} (h : PartsAt wr B g n ts zs j) (i : Nat) (hi : i < j) (hin : i < n) : wr.cell? ⟨g, i, none⟩ = some (.iface (zs[i]?.getD (0, .nilIface)).1 (zs[i]?.getD (0, .nilIface)).2) := by
 obtain ⟨h1, ⟨vs, h2, h3⟩, h4⟩ := h; exact (h2.cellAt i (by omega)).trans (h3 i hi)
set_option maxHeartbeats 1000000 in
theorem implMakeC_any (css : List (List Cel)) (p : Option Addr) (n c : Nat) (w : World) (hn : n = css.length) (hb : css.length + tll css ≤ 1048576) (hby : ∀ i, i < css.length → ∀ j, j < (css.getD i []).length → Byte ((css.getD i []).getD j Cel.none).2.2) (hcp : CapCC w p css) :
  Calls Tryz.prog 16 #[.slice p n c] w (MakeOut w (mkR css).1 (mkR css).2) := by
 have HI : Hid (CCIn w p css) := hcp.ccin; have HTI : Hid (CapCC w p css) := hcp; have HBY : Hid (∀ i, i < css.length → ∀ j, j < (css.getD i []).length → Byte ((css.getD i []).getD j Cel.none).2.2) := hby; have HN : Hid (n = css.length) := hn
 have hnb : n ≤ 1048576 := by omega
 clear hcp hby
 by_cases hl : n ≤ 2000
 ·have hl' : ¬ (2000 : Int) < n := by omega
  clear hn
  go_enter Tryz.func16, Tryz.ntmps16
  go_wp2_with fail; clear hl'
  go_loopw [4, 15] (fun s i wr => ∃ (j m : Nat), j ≤ n ∧ m ≤ 2001 * j + 1 ∧ i = .int .i64 j ∧ s = .int .i64 m ∧ Hid (m = mkN css j ∧ ∀ i, i < j → validB (css.getD i []) = true) ∧ Hid (Below w.heap.size w wr)) (fun _ i _ => n - (intOf i).toNat)
  case atStart => exact ⟨0, 1, Nat.zero_le _, by decide, rfl, rfl, ⟨rfl, fun i h => by omega⟩, Below.refl _ _⟩
  case round =>
   obtain ⟨j, m, hj, hm, rfl, rfl, HM, HB⟩ := hrel
   by_cases hlt : j < n
   ·have hjl : j < css.length := by rw [← HN.out]; exact hlt
    obtain ⟨b, o, rfl, hcss⟩ := (HI.out.below HB.out) (by omega)
    obtain ⟨qi, ci, x0, x1⟩ := hcss j hjl; have hbj := tll_at css j hjl; have HV := implValid_any qi ci (css.getD j []) wr (by omega) x1
    obtain ⟨li, eli⟩ : ∃ li, li = (css.getD j []).length := ⟨_, rfl⟩
    have HLI : Hid (li = (css.getD j []).length) := eli; rw [← eli] at x0 HV; have X0 : Hid (wr.cell? ⟨b, o + j, none⟩ = some (.slice qi li ci)) := x0; have HSU : Hid _ := mkN_succ css j hjl; clear hcss x1 hbj eli
    by_cases hv : validB (css.getD j []) = true
    ·rw [hv] at HV
     have hli : li ≤ 2000 := by rw [HLI.out]; exact (valid_len hv).2
     have HVV : Hid _ := hv; clear hv; go_wp2_with fail; refine HV.mono ?_; rintro e w2 ⟨rfl, hb2⟩; have HB2 : Hid (Below w.heap.size w w2) := Below.on HB.out hb2; clear hb2 HV x0; go_wp2_with fail; go_roundw
     case rel => exact ⟨j + 1, m + (1 + li), by omega, by omega, by go_num, by go_num, ⟨by rw [HSU.out, HM.out.1, HLI.out], fun i hi => by
      by_cases e : i = j
      ·subst e; exact HVV.out
      ·exact HM.out.2 i (by omega)⟩, HB2⟩
     case measure => simp [intOf]; omega
    ·have hvf : validB (css.getD j []) = false := by simpa using hv
     rw [hvf] at HV
     have HR : Hid (mkR css = ([], 1)) := by
      show _ = _
      rw [mkR, if_pos]
      right
      cases h : css.all validB with
      | false => rfl
      | true => exact absurd (all_at h j hjl) hv
     clear hv hvf; go_wp2_with fail; refine HV.mono ?_; rintro e w2 ⟨rfl, hb2⟩
     have HF : Hid (MakeOut w (mkR css).1 (mkR css).2 (.returned (.tuple #[.slice none 0 0, .int .i64 1])) w2) := by
      rw [HR.out]; exact ⟨_, _, _, rfl, OwnC.nil _ _, Below.on HB.out hb2⟩
     clear hb2; go_wp2_with fail
     go_ret2
     exact HF.out
   ·obtain rfl : j = n := by omega
    have hall : css.all validB = true := all_of (by rw [← HN.out]; exact HM.out.2)
    have hmk : m = (mkL css).length + 1 := by
     rw [HM.out.1, mkN, List.take_of_length_le (by rw [← HN.out]; exact Nat.le_refl _)]
    by_cases hbig : 2000 < m
    ·have hbig' : (2000 : Int) < m := by omega
     have HF : Hid (MakeOut w (mkR css).1 (mkR css).2 (.returned (.tuple #[.slice none 0 0, .int .i64 3])) wr) := by
      have e : mkR css = ([], 3) := by rw [mkR, if_neg (by rw [hall, ← HN.out]; simp; omega), if_pos (by omega)]
      rw [e]; exact ⟨_, _, _, rfl, OwnC.nil _ _, HB.out⟩
     clear hall hmk hbig; go_wp2_with fail
     go_ret2
     exact HF.out
    ·have hbig' : ¬ (2000 : Int) < m := by omega
     have HR : Hid (mkR css = (mkL css ++ [nilC], 0)) := by show _ = _; rw [mkR, if_neg (by rw [hall, ← HN.out]; simp; omega), if_neg (by omega)]
     have HSZ : Hid ((mkL css).length ≤ 2000) := by show _ ≤ _; omega
     obtain ⟨ts, ets, hok⟩ := trees_of css HBY.out hall
     have HTS : Hid (css = ts.map itC ∧ (∀ x ∈ ts, (Fo.node x.1 x.2 .nil).ok) ∧ j = ts.length) := ⟨ets, hok, by rw [HN.out, ets, List.length_map]⟩
     obtain ⟨i0, hi, hz0, hz1, hz2⟩ := info_parts infoTerm
     have hmx : j ≤ maxLen := by unfold maxLen; omega
     clear hall hmk hbig ets hok; go_wp2_with (at_make; refine wpList_make_full _ rfl _ _ 83 rfl wr.heap.size 58 i0 .nilIface 1 Tryz.underlying83 hi hz0 hz1 _ _ _ _ j rfl rfl rfl rfl (by rw [hz2]; omega) hmx (Nat.le_refl _) ?_; intro w1 hown hgrow)
     obtain ⟨g, eg⟩ : ∃ g, g = wr.heap.size := ⟨_, rfl⟩
     have HB1 : Hid (Below w.heap.size w w1) := Below.on HB.out ((Below.refl _ _).grown hgrow (Nat.le_refl _) (fun k h => by cases h))
     have hg1 : w.heap.size ≤ g ∧ g < w1.heap.size := by
      rw [eg]; exact ⟨HB.out.size, (hown.lt wr.heap.size rfl).2⟩
     rw [← eg] at hown ⊢
     have HP : Hid (PartsAt w1 g g j ts [] 0) := ⟨rfl, ⟨_, hown, fun i h => by omega⟩, fun i _ h => by omega⟩
     clear hown hgrow eg
     go_loopw [35] (fun i wr => ∃ (k : Nat) (zs : List (Nat × Value)), k ≤ j ∧ i = .int .i64 k ∧ Hid (PartsAt wr g g j ts zs k) ∧ Hid (Below w.heap.size w wr) ∧ g < wr.heap.size) (fun i _ => j - (intOf i).toNat)
     case atStart => exact ⟨0, [], Nat.zero_le _, rfl, HP, HB1, hg1.2⟩
     case round =>
      obtain ⟨k, zs, hk, rfl, HPk, HBk, hgk⟩ := hrel
      by_cases hlt : k < j
      ·have hkl : k < css.length := by rw [← HN.out]; exact hlt
       have hkt : k < ts.length := by rw [← HTS.out.2.2]; exact hlt
       obtain ⟨b, o, rfl, hcss⟩ := (HTI.out.below HBk.out) (by omega)
       obtain ⟨qi, ci, x0, x1, hci1, hci2⟩ := hcss k hkl; have hbj := tll_at css k hkl; have eit := trees_at HTS.out.1 k hkt; have HT := termOf_any ts[k].1 ts[k].2 qi (css.getD k []).length ci wr (HTS.out.2.1 _ (List.getElem_mem hkt)) (by rw [eit]; simp) hci1 hci2 (by rw [← eit]; exact x1)
       obtain ⟨li, eli⟩ : ∃ li, li = (css.getD k []).length := ⟨_, rfl⟩
       rw [← eli] at x0 HT; clear hcss x1 hbj eli eit hci1 hci2; go_wp2_with fail; refine HT.mono ?_; rintro e w2 ⟨v, rfl, hfo, hb2⟩; obtain ⟨vt, vu, rfl⟩ := hfo.iface; have HP2 : Hid (PartsAt w2 g g j ts zs k) := HPk.out.below hb2; obtain ⟨y, y0, y1⟩ := PartsAt.cell HP2.out k hlt
       have HNX : Hid (PartsAt (w2.setCell ⟨g, k, none⟩ (.iface vt vu)) g g j ts (zs ++ [(vt, vu)]) (k + 1)) := PartsAt.next HP2.out hlt hkt (FoIn.imp (B' := g + 1) (by omega) (fun _ _ _ _ => rfl) (Nat.le_refl _) _ _ hfo)
       have HB2 : Hid (Below w.heap.size w w2) := Below.on HBk.out hb2
       have hgk2 : g < w2.heap.size := by have := hb2.size; omega
       clear hfo hb2 HT x0; go_wp2_with fail; go_roundw
       case rel => exact ⟨k + 1, _, by omega, by go_num, HNX, HB2.out.setCell (p := ⟨g, k, none⟩) hg1.1 _, by simp; omega⟩
       case measure => simp [intOf]; omega
      ·obtain rfl : k = j := by omega
       have HLO := listOf_any ts zs g ts.length (g + 1) wr (by rw [← HTS.out.2.2]; exact hl) hgk hgk (fun i hi => HPk.out.cells i (by rw [HTS.out.2.2]; exact hi) (by rw [HTS.out.2.2]; exact hi)) (fun i hi => HPk.out.2.2 i hi (by rw [HTS.out.2.2]; exact hi)); rw [← HTS.out.2.2] at HLO; go_wp2_with fail; refine HLO.mono ?_; rintro e w2 ⟨v, rfl, hfo, hb2⟩; have HB2 : Hid (Below w.heap.size w w2) := Below.on HBk.out hb2; obtain ⟨cT, kT, eT⟩ := listT_node ts
       have hcT : cT :: kT.cells = mkL css ++ [nilC] := by
        have h1 := listT_cells ts; rw [eT] at h1; simp only [Fo.cells, List.append_nil] at h1; rw [h1, HTS.out.1]; rfl
       have hokT := listT_ok ts HTS.out.2.1; rw [eT] at hokT hfo
       have HCO := cellsOf_any cT kT v (g + 1) w2 hokT hfo (by
        have := congrArg List.length hcT; have h2 := HSZ.out
        simp at this
        omega)
       rw [hcT] at HCO; obtain ⟨vt, vu, rfl⟩ := hfo.iface; clear hfo hb2 HLO hokT; go_wp2_with fail; refine HCO.mono ?_; rintro e w3 ⟨r3, m3, c3, rfl, ho3, hb3⟩
       have HF : Hid (MakeOut w (mkR css).1 (mkR css).2 (.returned (.tuple #[.slice r3 m3 c3, .int .i64 0])) w3) := by
        rw [HR.out]; exact ⟨_, _, _, rfl, ho3.mono HB2.out.size, Below.on HB2.out hb3⟩
       clear ho3 hb3 HCO; go_wp2_with fail
       go_ret2
       exact HF.out
 ·have hl' : (2000 : Int) < n := by omega
  have HF : Hid (MakeOut w (mkR css).1 (mkR css).2 (.returned (.tuple #[.slice none 0 0, .int .i64 1])) w) := by
   have e : mkR css = ([], 1) := by rw [mkR, if_pos (.inl (by omega))]
   rw [e]; exact ⟨_, _, _, rfl, OwnC.nil _ _, Below.refl _ _⟩
  clear hn
  go_enter Tryz.func16, Tryz.ntmps16
  go_wp2_with fail
  go_ret2
  exact HF.out
theorem open_any (W0 : World) (Bt : Nat) (w : World) (B sb so : Nat) (p : Option Addr) (n c : Nat) (st : List TT) (x : TT) (v1 v2 : Value) (h : Stk W0 Bt w B sb so p n c st) (hW : Below W0.heap.size W0 w) (hB0 : W0.heap.size ≤ B) (hBs : B ≤ sb) (hn : n ≤ 1000000)
  (hx1 : FoIn W0 Bt x.1.fo [v1]) (hx2 : FoIn W0 Bt x.2.fo [v2]) (ho1 : x.1.ok) (ho2 : x.2.ok) :
  Calls Tryz.prog 225 #[.pointer (some ⟨sb, so, none⟩), .agg #[v1, v2]] w (OpenOut W0 Bt w B sb so (Value.ownBlock (.slice p n c)) st x) := by
 by_cases h3 : x.1.1.1 = 3 ∧ x.2.1.1 = 3
 ·obtain ⟨u1, r1, e1, hn1, _⟩ := hx1
  obtain ⟨rfl, rfl⟩ := List.cons.inj e1; obtain ⟨u2, r2, e2, hn2, _⟩ := hx2; obtain ⟨rfl, rfl⟩ := List.cons.inj e2
  have comp : ∀ {c : Cel} {k : Fo} {v : Value}, NodeIn W0 Bt c (fun kv => FoIn W0 Bt k kv) v → c.1 = 3 → ∃ b g vs, v = .iface 139 (.pointer (some ⟨b, 0, none⟩)) ∧ CompAt W0 Bt c.2.2 k b g vs := fun {c k v} hn h => by
   rcases hn with ⟨e, _⟩ | ⟨e, _⟩ | ⟨e, _⟩ | ⟨_, b, g, vs, hv, hc⟩
   ·omega
   ·omega
   ·omega
   ·exact ⟨b, g, vs, hv, hc⟩
  obtain ⟨b1, g1, vs1, rfl, hc1⟩ := comp hn1 h3.1; obtain ⟨b2, g2, vs2, rfl, hc2⟩ := comp hn2 h3.2; exact callsIn_wide.1 (openComp_wide W0 Bt w B sb so p n c st x b1 g1 b2 g2 vs1 vs2 h hW hB0 hBs hn hc1 hc2 ho1 ho2 h3.1 h3.2)
 ·exact openLeaf_any W0 Bt w B sb so p n c st x v1 v2 h hx1 hx2 ho1 ho2 h3
theorem Stk.made {W0 : World} {Bt : Nat} (w : World) (x : TT) (v1 v2 : Value) (t : TypeId) (h1 : FoIn W0 Bt x.1.fo [v1]) (h2 : FoIn W0 Bt x.2.fo [v2]) :
  Stk W0 Bt ((w.alloc (.cells #[v1, v2] 135)).alloc (.cells #[.slice (some ⟨w.heap.size, 0, none⟩) 1 1] t)) w.heap.size (w.heap.size + 1) 0 (some ⟨w.heap.size, 0, none⟩) 1 1 [x] := by
 have hb := heap_alloc_new (w.alloc (.cells #[v1, v2] 135)) (.cells #[.slice (some ⟨w.heap.size, 0, none⟩) 1 1] t); rw [World.size_alloc] at hb; have hr : ((w.alloc (.cells #[v1, v2] 135)).alloc (.cells #[.slice (some ⟨w.heap.size, 0, none⟩) 1 1] t)).heap[w.heap.size]? = some (.cells #[v1, v2] 135) := (Below.heap_alloc _ _ _ (by simp)).trans (heap_alloc_new _ _); refine ⟨cell_of_row _ _ 0 _ _ _ hb, frozen_of_row _ _ 0 _ _ hb, rfl, ⟨[(v1, v2)], ⟨rfl, .inr ⟨w.heap.size, 1, #[v1, v2], rfl, Nat.le_refl _, hr, Nat.le_refl _, by decide, rfl, rfl⟩⟩, ⟨_, [], rfl, h1, h2, rfl⟩⟩, fun g e => by cases e; omega⟩
set_option maxHeartbeats 1000000 in
theorem isSame_any (W0 : World) (Bt : Nat) (w : World) (x : TT) (v1 v2 : Value) (hW : Below W0.heap.size W0 w) (hx1 : FoIn W0 Bt x.1.fo [v1]) (hx2 : FoIn W0 Bt x.2.fo [v2]) (ho1 : x.1.ok) (ho2 : x.2.ok) (hl : x.1.2.cells.length ≤ 10000) :
  Calls Tryz.prog 164 #[v1, v2] w fun e w' => e = .returned (.bool (eqT x)) ∧ Below w.heap.size w w' := by
 obtain ⟨t1, y1, rfl⟩ := FoIn.iface (show FoIn W0 Bt (.node x.1.1 x.1.2 .nil) [v1] from hx1); obtain ⟨t2, y2, rfl⟩ := FoIn.iface (show FoIn W0 Bt (.node x.2.1 x.2.2 .nil) [v2] from hx2); have HS : Hid _ := Stk.made w x (.iface t1 y1) (.iface t2 y2) 289 hx1 hx2
 have HB : Hid (∀ a b, Below w.heap.size w ((w.alloc a).alloc b)) := fun a b => ((Below.refl _ _).alloc (Nat.le_refl _) _).alloc (by simp) _
 have HW : Hid (Below W0.heap.size W0 w) := hW
 have HOK : Hid (x.1.ok ∧ x.2.ok) := ⟨ho1, ho2⟩
 have HE : Hid (sames [x] = eqT x) := by simp [sames, Hid]
 obtain ⟨R, eR⟩ : ∃ R, R = eqT x := ⟨_, rfl⟩
 rw [← eR] at HE ⊢; clear hW hx1 hx2 ho1 ho2 eR
 go_enter Tryz.func164, Tryz.ntmps164
 go_wp2
 go_loopg [] (load [x]) (fun k wr => ∃ (p : Option Addr) (n c : Nat) (st : List TT), wr.cell? ⟨w.heap.size + 1, 0, none⟩ = some (.slice p n c) ∧ n ≤ 100000 ∧ Hid (Stk W0 Bt wr w.heap.size (w.heap.size + 1) 0 p n c st ∧ (∀ y ∈ st, y.1.ok ∧ y.2.ok) ∧ load st = k ∧ k ≤ 20000 ∧ sames st = R ∧ Below w.heap.size w wr))
 case atStart => exact ⟨_, _, _, [x], HS.out.cell, by decide, HS.out, fun y hy => by rw [List.mem_singleton.1 hy]; exact HOK.out, rfl, by simp [load]; omega, HE.out, HB.out _ _⟩
 case round =>
  obtain ⟨p, n, c, st, hcell, hn, HR⟩ := hrel
  rcases List.eq_nil_or_concat st with rfl | ⟨st', y, rfl⟩
  ·have hn0 : n = 0 := HR.out.1.len
   subst hn0; have HF : Hid (R = true) := HR.out.2.2.2.2.1.symm
   go_wp2
   go_ret; exact ⟨ret_bool HF.out.symm, HR.out.2.2.2.2.2⟩
  ·rw [List.concat_eq_append] at HR
   have hst := HR.out.1; have hlen := hst.len
   have hn1 : n = st'.length + 1 := by rw [hlen]; simp
   have hpos : (0 : Int) < (n : Int) := by omega
   have HT := take_any W0 Bt wr w.heap.size (w.heap.size + 1) 0 p n c st' y (by omega) hst; have hoy : y.1.ok ∧ y.2.ok := HR.out.2.1 y (by simp); have HOY : Hid (y.1.ok ∧ y.2.ok) := hoy; have HBwr : Hid (w.heap.size + 1 < wr.heap.size) := World.block_lt_of_cell? _ _ hcell
   have hrl : ∀ k, Value.ownBlock (.slice p n c) = some k → w.heap.size ≤ k := fun k e => by
    obtain ⟨_, hr, _⟩ := hst.row; exact (hr.lt k e).1
   have HRL : Hid (∀ k, Value.ownBlock (.slice p n c) = some k → w.heap.size ≤ k) := hrl; have HN1 : Hid (n = st'.length + 1) := hn1; clear hst hlen hn1 hoy hrl; go_wp2_with fail; refine HT.mono ?_; rintro e w1 ⟨v1, v2, rfl, f1, f2, ⟨p', n', c', hs', hrow'⟩, hk⟩; have hB1 : Below w.heap.size w w1 := HR.out.2.2.2.2.2.trans (hk.below (by omega) (fun k e => by cases e) (by have := HBwr.out; omega)); have HO := open_any W0 Bt w1 w.heap.size (w.heap.size + 1) 0 p' n' c' st' y v1 v2 hs' (HW.out.trans (hB1.mono HW.out.size)) HW.out.size (by omega) (by have := hs'.len; have := HN1.out; omega) f1 f2 HOY.out.1 HOY.out.2
   have HRL' : Hid (∀ k, Value.ownBlock (.slice p' n' c') = some k → w.heap.size ≤ k) := by show ∀ k, _ → _; rw [hrow']; exact HRL.out
   have HB1 : Hid (Below w.heap.size w w1) := hB1; clear hs' hrow' hk hB1 HT f1 f2
   by_cases hy : y.1.1 = y.2.1
   ·have hd : decide (y.1.1 = y.2.1) = true := by simpa using hy
    unfold OpenOut at HO
    rw [hd] at HO
    have HLD : Hid (load (st' ++ opened y) < gk ∧ sames (st' ++ opened y) = R ∧ (∀ z ∈ st' ++ opened y, z.1.ok ∧ z.2.ok)) := by
     obtain ⟨_, h2, h3, _, h5, _⟩ := HR.out; refine ⟨?_, ?_, ?_⟩
     ·have := load_opened y
      rw [← h3, load_append, load_append]
      simp [load]; omega
     ·rw [sames_open _ _ hy (ok_count HOY.out.1 HOY.out.2 hy)]; exact h5
     ·intro z hz
      rcases List.mem_append.1 hz with hz | hz
      ·exact h2 z (by simp [hz])
      ·exact opened_ok HOY.out.1 HOY.out.2 z hz
    clear hd hy; go_wp2_with fail; refine HO.mono ?_; rintro e w2 ⟨rfl, ⟨p2, n2, c2, hs2, _⟩, hk2⟩; have HS2 : Hid _ := hs2; have HB2 : Hid (Below w.heap.size w w2) := HB1.out.trans (hk2.below (by omega) HRL'.out (by have := HB1.out.size; omega)); clear hk2 HO hs2; go_wp2_with fail
    go_roundg (load (st' ++ opened y))
    case measure => exact HLD.out.1
    case rel =>
     have h4 := HR.out.2.2.2.1; have h1 := HLD.out.1; exact ⟨p2, n2, c2, st' ++ opened y, HS2.out.cell, by have := HS2.out.len; have := len_load (st' ++ opened y); omega, HS2.out, HLD.out.2.2, rfl, by omega, HLD.out.2.1, HB2.out⟩
   ·have hd : decide (y.1.1 = y.2.1) = false := by simpa using hy
    unfold OpenOut at HO
    rw [hd] at HO
    have HF : Hid (R = false) := by show _ = _; rw [← HR.out.2.2.2.2.1, sames_no _ _ hy]
    clear hd hy; go_wp2_with fail; refine HO.mono ?_; rintro e w2 ⟨rfl, _, hk2⟩; have HB2 : Hid (Below w.heap.size w w2) := HB1.out.trans (hk2.below (by omega) HRL'.out (by have := HB1.out.size; omega)); clear hk2 HO; go_wp2_with fail; go_ret; exact ⟨ret_bool HF.out.symm, HB2.out⟩
end
section
open Go Go.RowKit
theorem grow5 {w w' : World} {o : Option Nat} (h : Below w.heap.size w w') : w.grownBy w' o := ⟨h.os, h.tape, h.output, h.size, fun k hk _ => h.block k hk⟩
def CpOut (w : World) (blk cap : Nat) (d : List (Value × (Cel × Fo))) (e : Ending) (w' : World) : Prop :=
 e = .returned (.slice (some ⟨blk, 0, none⟩) (compB fE d).length cap) ∧ (∀ i (h : i < (compB fE d).length), w'.cell? ⟨blk, i, none⟩ = some (compB fE d)[i].1) ∧ w.grownBy w' (some blk)
theorem grownCell_z (w : World) (b o : Nat) (v : Value) : w.grownBy (w.setCell ⟨b, o, none⟩ v) (some b) := ⟨rfl, rfl, rfl, by simp, fun k hk hne => Below.heap_setCell _ _ _ _ (fun e => hne (by rw [e]))⟩
theorem grownCells_z (b : Nat) : ∀ (vs : List Value) (o : Nat) (w : World), w.grownBy (w.setCells b o vs) (some b)
 | [], o, w => World.grownBy.refl _ _
 | v :: vs, o, w => grown2 (grownCell_z w b o v) (grownCells_z b vs (o + 1) (w.setCell ⟨b, o, none⟩ v))
theorem zeroTermC (w : World) : (zeroValue 58).run Tryz.prog w = .ok .nilIface w := by kernel_rfl
theorem isSameD_any {d : List (Value × (Cel × Fo))} {blk : Nat} {w : World} (hgl : blk < w.heap.size) (hfo : ∀ i (h : i < d.length), FoIn w (blk + 1) (.node d[i].2.1 d[i].2.2 .nil) [d[i].1]) (hok : ∀ x ∈ d, (Fo.node x.2.1 x.2.2 .nil).ok) (hl : ∀ x ∈ d, x.2.2.cells.length ≤ 3900)
  (W : World) (i j : Nat) (hi : i < d.length) (hj : j < d.length) (hg : w.grownBy W (some blk)) : Calls Tryz.prog 164 #[d[i].1, d[j].1] W fun e w' => e = .returned (.bool (fE d[i] d[j])) ∧ Below W.heap.size W w' := by
 have hF : ∀ k (h : k < d.length), FoIn W (blk + 1) (.node d[k].2.1 d[k].2.2 .nil) [d[k].1] := fun k h =>
  FoIn.imp (Nat.le_refl _) (fun b o hb hlt => World.cell?_of_block (a := ⟨b, o, none⟩) (hg.block b hlt (fun e => by have := Option.some.inj e; omega))) hg.size _ _ (hfo k h)
 exact isSame_any W (blk + 1) W (d[i].2, d[j].2) d[i].1 d[j].1 (Below.refl _ _) (hF i hi) (hF j hj) (hok _ (List.getElem_mem hi)) (hok _ (List.getElem_mem hj)) (by have := hl _ (List.getElem_mem hi); show d[i].2.2.cells.length ≤ 10000; omega)
set_option maxHeartbeats 4000000 in
theorem compactB_any (d : List (Value × (Cel × Fo))) (blk n cap : Nat) (w : World) (hn : n = d.length) (h0 : 0 < n) (h12 : n ≤ 12) (hcap : n ≤ cap) (hc2 : cap ≤ 100) (hgl : blk < w.heap.size)
  (hrow : ∀ i (h : i < d.length), w.cell? ⟨blk, i, none⟩ = some d[i].1 ∧ w.frozen? ⟨blk, i, none⟩ = false)
  (hfo : ∀ i (h : i < d.length), FoIn w (blk + 1) (.node d[i].2.1 d[i].2.2 .nil) [d[i].1]) (hok : ∀ x ∈ d, (Fo.node x.2.1 x.2.2 .nil).ok) (hl : ∀ x ∈ d, x.2.2.cells.length ≤ 3900) :
  Calls Tryz.prog 163 #[.slice (some ⟨blk, 0, none⟩) n cap, .func (.func 164) #[] #[]] w (CpOut w blk cap d) := by
 have HIS : Hid (∀ (W : World) (i j : Nat) (hi : i < d.length) (hj : j < d.length), w.grownBy W (some blk) → Calls Tryz.prog 164 #[d[i].1, d[j].1] W fun e w' => e = .returned (.bool (fE d[i] d[j])) ∧ Below W.heap.size W w') := isSameD_any hgl hfo hok hl; have eg : ∀ args w, (callFunc 164 args).run Tryz.prog w = .ok (.enter 164 args) w := enters_of Tryz.func164 (by kernel_rfl) rfl
 have HIF : Hid (∀ i (h : i < d.length), ∃ t x, d[i].1 = .iface t x) := fun i h => (hfo i h).iface
 have HN : Hid (n = d.length) := hn; have HROW : Hid _ := hrow; have HGL : Hid (blk < w.heap.size) := hgl
 have FIN : Hid (∀ W, w.grownBy W (some blk) → compB fE d = d → (∀ i (h : i < d.length), W.cell? ⟨blk, i, none⟩ = some d[i].1) → CpOut w blk cap d (.returned (.slice (some ⟨blk, 0, none⟩) n cap)) W) := fun W hg he hr => by
  refine ⟨by rw [he, hn], fun i h => ?_, hg⟩; simp only [he] at h ⊢; exact hr i h
 clear hfo hok hl hrow hgl hn
 by_cases h2 : n < 2
 ·have HF : Hid (CpOut w blk cap d (.returned (.slice (some ⟨blk, 0, none⟩) n cap)) w) := by
   refine FIN.out w (World.grownBy.refl _ _) ?_ (fun i h => (HROW.out i h).1); have h1 := HN.out; have h3 := compB_all d 0 (by omega) (fun j h hj => by omega)
   rwa [List.take_of_length_le (by omega)] at h3
  clear HIS HROW FIN
  go_enter Tryz.func163, Tryz.ntmps163
  go_wp2_with fail; go_ret; exact HF.out
 ·go_enter Tryz.func163, Tryz.ntmps163
  go_wp2_with fail
  go_loopg [5] n (fun g s5 wr => ∃ k : Nat, k + 1 ≤ n ∧ n - (k + 1) ≤ g ∧ s5 = .int .i64 (k + 1 : Nat) ∧ Hid (Below w.heap.size w wr ∧ ∀ j (h : j + 1 < d.length), j < k → fE d[j + 1] d[j] = false))
  case atStart => exact ⟨0, by omega, by omega, rfl, Below.refl _ _, fun j h hj => by omega⟩
  case round =>
   obtain ⟨k, hk, hg, rfl, HL⟩ := hrel
   by_cases hlt : k + 1 < n
   ·have hk1 : k + 1 < d.length := by rw [← HN.out]; exact hlt
    have hblk : blk < wr.heap.size := Nat.lt_of_lt_of_le HGL.out HL.out.1.size
    have HGR : Hid (w.grownBy wr (some blk)) := ⟨HL.out.1.os, HL.out.1.tape, HL.out.1.output, HL.out.1.size, fun b hb _ => HL.out.1.block b hb⟩
    have HRW : Hid (∀ i (h : i < d.length), wr.cell? ⟨blk, i, none⟩ = some d[i].1 ∧ wr.frozen? ⟨blk, i, none⟩ = false) := fun i h =>
     ⟨(HL.out.1.cell (p := ⟨blk, i, none⟩) HGL.out).trans (HROW.out i h).1, (World.frozen?_of_block (a := ⟨blk, i, none⟩) (HL.out.1.block blk HGL.out)).trans (HROW.out i h).2⟩
    have c1 := (HRW.out (k + 1) hk1).1; have c0 := (HRW.out k (by omega)).1
    have HI1 : Hid (∀ W, Below wr.heap.size wr W → Calls Tryz.prog 164 #[d[k + 1].1, d[k].1] W fun e w' => e = .returned (.bool (fE d[k + 1] d[k])) ∧ Below W.heap.size W w') := fun W hW => HIS.out _ _ _ _ _ (grown2 HGR.out (grow5 hW))
    have HD : Hid (∀ j (h : j + 1 < d.length), j < k + 1 → fE d[k + 1] d[k] = false → fE d[j + 1] d[j] = false) := fun j h hj hf => by
     by_cases e : j = k
     ·subst e; exact hf
     ·exact HL.out.2 j h (by omega)
    obtain ⟨u, hu⟩ : ∃ u, u = d[k + 1].1 := ⟨_, rfl⟩
    obtain ⟨v, hv⟩ : ∃ v, v = d[k].1 := ⟨_, rfl⟩
    obtain ⟨t, ht⟩ : ∃ t, t = fE d[k + 1] d[k] := ⟨_, rfl⟩
    rw [← hu] at c1; rw [← hv] at c0; rw [← hu, ← hv, ← ht] at HI1; have HT : Hid (t = fE d[k + 1] d[k]) := ht; clear hu hv ht; have tok0 : True := trivial
    have hS : wr.cell? ⟨blk, k + 1, none⟩ = some u ∧ wr.cell? ⟨blk, k, none⟩ = some v := ⟨c1, c0⟩
    have HHB : Hid (blk < wr.heap.size) := hblk; have HLW : Hid (Below w.heap.size w wr) := HL.out.1; clear c1 c0 hblk
    have p1 : (0 : Int) ≤ (k : Int) + 1 := by omega
    have p2 : (k : Int) + 1 < (n : Int) := by omega
    have p3 : (0 : Int) ≤ (k : Int) := by omega
    have p4 : (k : Int) < (n : Int) := by omega
    have p5 : IntKind.i64.wrap ((k : Int) + 1) = (k : Int) + 1 := by rw [IntKind.wrap_i64]; omega
    have p6 : IntKind.i64.wrap (k : Int) = (k : Int) := by rw [IntKind.wrap_i64]; omega
    have p7 : ((k : Int) + 1).toNat = k + 1 := by omega
    cases t with
    | false =>
      go_wp2_with fail
      go_region_held3 (fun W => W.cell? ⟨blk, k + 1, none⟩ = some u ∧ W.cell? ⟨blk, k, none⟩ = some v) (first | exact kk | exact hS | go_keep)
       ((go_at_call 164; refine Calls.mono (HI1.out _ (Below.refl _ _).drew) ?_; rintro e w4 ⟨rfl, hb4⟩; have kk : w4.cell? ⟨blk, k + 1, none⟩ = some u ∧ w4.cell? ⟨blk, k, none⟩ = some v := ⟨(hb4.cell (p := ⟨blk, k + 1, none⟩) HHB.out).trans hS.1, (hb4.cell (p := ⟨blk, k, none⟩) HHB.out).trans hS.2⟩; have HB4 : Hid (Below w.heap.size w w4) := Below.on (HLW.out.drew) hb4; clear hb4))
      rename_i hheld
      clear hheld; go_wp2_with fail
      go_roundg (n - (k + 1 + 1))
      case measure => omega
      case rel => exact ⟨k + 1, by omega, Nat.le_refl _, by go_num, HB4.out, fun j h hj => HD.out j h hj HT.out.symm⟩
    | true =>
      have HCS : Hid (∀ W, Below wr.heap.size wr W → CF w blk d (k + 2) (k + 1) W) := fun W hW =>
       CF.start (grown2 HGR.out (grow5 hW)) HGL.out hk1 (fun i h => ⟨(hW.cell (p := ⟨blk, i, none⟩) HHB.out).trans (HRW.out i h).1, (World.frozen?_of_block (a := ⟨blk, i, none⟩) (hW.block blk HHB.out)).trans (HRW.out i h).2⟩) HL.out.2 HT.out.symm
      go_wp2_with fail
      go_region_held3 (fun W => W.cell? ⟨blk, k + 1, none⟩ = some u ∧ W.cell? ⟨blk, k, none⟩ = some v) (first | exact kk | exact hS | go_keep)
       ((go_at_call 164; refine Calls.mono (HI1.out _ (Below.refl _ _).drew) ?_; rintro e w4 ⟨rfl, hb4⟩; have kk : w4.cell? ⟨blk, k + 1, none⟩ = some u ∧ w4.cell? ⟨blk, k, none⟩ = some v := ⟨(hb4.cell (p := ⟨blk, k + 1, none⟩) HHB.out).trans hS.1, (hb4.cell (p := ⟨blk, k, none⟩) HHB.out).trans hS.2⟩; have HC4 : Hid (CF w blk d (k + 2) (k + 1) w4) := HCS.out _ (Below.on (Below.refl _ _).drew hb4); clear hb4))
      rename_i hheld
      clear hheld kk hS HHB HLW HI1 HD HL HCS HRW HGR HT; go_wp2_with fail
      go_loopg [5, 7] n (fun g s5 s7 wr => ∃ kk k2 : Nat, s5 = .int .i64 (kk : Nat) ∧ s7 = .int .i64 (k2 + 1 : Nat) ∧ k + 1 + (k2 + 1) ≤ n ∧ n - (k + 1 + (k2 + 1)) ≤ g ∧ kk ≤ k + 1 + k2 ∧ Hid (CF w blk d (k + 1 + k2 + 1) kk wr))
      case atStart => exact ⟨k + 1, 0, by go_num, by go_num, by omega, by omega, by omega, HC4.out⟩
      case round =>
       obtain ⟨kk, k2, rfl, rfl, hk2, hg2, hkk, HC⟩ := hrel
       by_cases hlt2 : k + 1 + (k2 + 1) < n
       ·have hm1 : k + 1 + k2 + 1 < d.length := by rw [← HN.out]; exact hlt2
        have hbz : blk < wr.heap.size := Nat.lt_of_lt_of_le HGL.out HC.out.gr.size; have z1 : wr.cell? ⟨blk, k + 1 + (k2 + 1), none⟩ = some d[k + 1 + k2 + 1].1 := HC.out.at_ hm1 (by omega); have z0 : wr.cell? ⟨blk, k + 1 + k2, none⟩ = some d[k + 1 + k2].1 := HC.out.at_ (by omega) hkk
        have HI1 : Hid (∀ W, Below wr.heap.size wr W → Calls Tryz.prog 164 #[d[k + 1 + k2 + 1].1, d[k + 1 + k2].1] W fun e w' => e = .returned (.bool (fE d[k + 1 + k2 + 1] d[k + 1 + k2])) ∧ Below W.heap.size W w') := fun W hW => HIS.out _ _ _ _ _ (grown2 HC.out.gr (grow5 hW))
        have HSK : Hid (∀ W, Below wr.heap.size wr W → fE d[k + 1 + k2 + 1] d[k + 1 + k2] = true → CF w blk d (k + 1 + (k2 + 1) + 1) kk W) := fun W hW hf => (HC.out.on hW).skip hm1 hf
        have HKE : Hid (∀ W, Below wr.heap.size wr W → fE d[k + 1 + k2 + 1] d[k + 1 + k2] = false → CF w blk d (k + 1 + (k2 + 1) + 1) (kk + 1) (W.setCell ⟨blk, kk, none⟩ d[k + 1 + k2 + 1].1)) := fun W hW hf => (HC.out.on hW).keep hm1 hf
        have hkd := HC.out.row kk (by omega)
        obtain ⟨ov, eov⟩ : ∃ ov, wr.cell? ⟨blk, kk, none⟩ = some ov := ⟨_, hkd.1⟩
        have fov := hkd.2
        obtain ⟨u2, hu⟩ : ∃ u, u = d[k + 1 + k2 + 1].1 := ⟨_, rfl⟩
        obtain ⟨v2, hv⟩ : ∃ v, v = d[k + 1 + k2].1 := ⟨_, rfl⟩
        obtain ⟨t2, ht⟩ : ∃ t, t = fE d[k + 1 + k2 + 1] d[k + 1 + k2] := ⟨_, rfl⟩
        obtain ⟨ty, xv, rfl⟩ : ∃ ty xv, u2 = .iface ty xv := by rw [hu]; exact HIF.out _ hm1
        rw [← hu] at z1; rw [← hv] at z0; rw [← hu, ← hv, ← ht] at HI1; rw [← ht] at HSK; rw [← hu, ← ht] at HKE
        have hS : wr.cell? ⟨blk, k + 1 + (k2 + 1), none⟩ = some (.iface ty xv) ∧ wr.cell? ⟨blk, k + 1 + k2, none⟩ = some v2 := ⟨z1, z0⟩
        have HO : Hid (wr.cell? ⟨blk, kk, none⟩ = some ov ∧ wr.frozen? ⟨blk, kk, none⟩ = false ∧ blk < wr.heap.size) := ⟨eov, fov, hbz⟩
        clear hu hv ht hm1 hkd z1 z0 eov fov hbz
        have r1 : (0 : Int) ≤ (k2 : Int) + 1 := by omega
        have r2 : (k2 : Int) + 1 < ((n - (k + 1) : Nat) : Int) := by omega
        have r3 : (0 : Int) ≤ (k2 : Int) := by omega
        have r4 : (k2 : Int) < ((n - (k + 1) : Nat) : Int) := by omega
        have r5 : IntKind.i64.wrap ((k2 : Int) + 1) = (k2 : Int) + 1 := by rw [IntKind.wrap_i64]; omega
        have r6 : IntKind.i64.wrap (k2 : Int) = (k2 : Int) := by rw [IntKind.wrap_i64]; omega
        have r7 : ((k2 : Int) + 1).toNat = k2 + 1 := by omega
        have r8 : (0 : Int) ≤ (kk : Int) := by omega
        have r9 : (kk : Int) < (n : Int) := by omega
        cases t2 with
        | true =>
          have HSK2 : Hid (∀ W, Below wr.heap.size wr W → CF w blk d (k + 1 + (k2 + 1) + 1) kk W) := fun W hW => HSK.out W hW rfl
          clear HSK HKE; go_wp2_with fail
          go_region_held3 (fun W => W.cell? ⟨blk, k + 1 + (k2 + 1), none⟩ = some (.iface ty xv) ∧ W.cell? ⟨blk, k + 1 + k2, none⟩ = some v2) (first | exact kq | exact hS | go_keep)
           ((go_at_call 164; refine Calls.mono (HI1.out _ (Below.refl _ _).drew) ?_; rintro e w5 ⟨rfl, hb5⟩; have kq : w5.cell? ⟨blk, k + 1 + (k2 + 1), none⟩ = some (.iface ty xv) ∧ w5.cell? ⟨blk, k + 1 + k2, none⟩ = some v2 := ⟨(hb5.cell (p := ⟨blk, k + 1 + (k2 + 1), none⟩) HO.out.2.2).trans hS.1, (hb5.cell (p := ⟨blk, k + 1 + k2, none⟩) HO.out.2.2).trans hS.2⟩; have HC5 : Hid (CF w blk d (k + 1 + (k2 + 1) + 1) kk w5) := HSK2.out _ (Below.on (Below.refl _ _).drew hb5); clear hb5))
          rename_i hheld
          clear hheld kq hS HO HI1 HSK2; go_wp2_with fail
          go_roundg (n - (k + 1 + (k2 + 1 + 1)))
          case measure => omega
          case rel => exact ⟨kk, k2 + 1, rfl, by go_num, by omega, Nat.le_refl _, by omega, HC5.out⟩
        | false =>
          have HKE2 : Hid (∀ W, Below wr.heap.size wr W → CF w blk d (k + 1 + (k2 + 1) + 1) (kk + 1) (W.setCell ⟨blk, kk, none⟩ (.iface ty xv))) := fun W hW => HKE.out W hW rfl
          clear HSK HKE; go_wp2_with fail
          go_region_held3 (fun W => W.cell? ⟨blk, k + 1 + (k2 + 1), none⟩ = some (.iface ty xv) ∧ W.cell? ⟨blk, k + 1 + k2, none⟩ = some v2) (first | exact kq | exact hS | go_keep)
           ((go_at_call 164; refine Calls.mono (HI1.out _ (Below.refl _ _).drew) ?_; rintro e w5 ⟨rfl, hb5⟩; have kq : w5.cell? ⟨blk, k + 1 + (k2 + 1), none⟩ = some (.iface ty xv) ∧ w5.cell? ⟨blk, k + 1 + k2, none⟩ = some v2 := ⟨(hb5.cell (p := ⟨blk, k + 1 + (k2 + 1), none⟩) HO.out.2.2).trans hS.1, (hb5.cell (p := ⟨blk, k + 1 + k2, none⟩) HO.out.2.2).trans hS.2⟩; have HC5 : Hid (CF w blk d (k + 1 + (k2 + 1) + 1) (kk + 1) (w5.setCell ⟨blk, kk, none⟩ (.iface ty xv))) := HKE2.out _ (Below.on (Below.refl _ _).drew hb5); have y0 : w5.cell? ⟨blk, kk, none⟩ = some ov := (hb5.cell (p := ⟨blk, kk, none⟩) HO.out.2.2).trans HO.out.1; have y1 : w5.frozen? ⟨blk, kk, none⟩ = false := (World.frozen?_of_block (a := ⟨blk, kk, none⟩) (hb5.block blk HO.out.2.2)).trans HO.out.2.1; clear hb5))
          rename_i hheld
          clear hheld hS HO HI1 HKE2; obtain ⟨y2, y3⟩ := kq; clear y3; go_wp2_with fail
          go_roundg (n - (k + 1 + (k2 + 1 + 1)))
          case measure => omega
          case rel => exact ⟨kk + 1, k2 + 1, by go_num, by go_num, by omega, Nat.le_refl _, by omega, HC5.out⟩
       ·obtain rfl : n = k + 1 + (k2 + 1) := by omega
        have hdn : k + 1 + k2 + 1 = d.length := HN.out; have hbz : blk < wr.heap.size := Nat.lt_of_lt_of_le HGL.out HC.out.gr.size; have hrw := HC.out.row
        have hcl : ∀ ty, (Builtin.clear_ #[83] ty #[.slice (some ⟨blk, kk, none⟩) (k + 1 + (k2 + 1) - kk) (cap - kk)]).run Tryz.prog wr = .ok (.tuple #[]) (wr.setCells blk kk (List.replicate (k + 1 + (k2 + 1) - kk) .nilIface)) :=
         fun ty => Lib.run_clear_slice wr _ _ ty _ Tryz.underlying83 zeroTermC rfl rfl blk kk _ _ (by omega) (fun j hj => by rw [(hrw (kk + j) (by omega)).1]; rfl) (fun j hj => (hrw (kk + j) (by omega)).2)
        have HF : Hid (CpOut w blk cap d (.returned (.slice (some ⟨blk, 0, none⟩) kk cap)) (wr.setCells blk kk (List.replicate (k + 1 + (k2 + 1) - kk) .nilIface))) := by
         have e1 : compB fE (d.take (k + 1 + k2 + 1)) = compB fE d := by rw [List.take_of_length_le (by omega)]
         have hl0 := HC.out.len; have hl := hl0; rw [e1] at hl; refine ⟨by rw [hl], fun i hi => ?_, grown2 HC.out.gr (grownCells_z _ _ _ _)⟩; rw [World.cell?_setCells_out _ _ _ _ _ (fun _ _ => .inl (show i < kk by omega)), (hrw i (by omega)).1]
         have l2 : i < (compB fE (d.take (k + 1 + k2 + 1)) ++ d.drop kk).length := by simp; omega
         rw [getB _ l2]; simp only [e1]; rw [List.getElem_append_left hi]
        clear hrw hdn HC HN FIN HROW HIS hbz; go_wp2_with fail; go_ret; exact HF.out
   ·obtain rfl : n = k + 1 := by omega
    have HF : Hid (CpOut w blk cap d (.returned (.slice (some ⟨blk, 0, none⟩) (k + 1) cap)) wr) := by
     have hdn := HN.out; refine FIN.out wr ⟨HL.out.1.os, HL.out.1.tape, HL.out.1.output, HL.out.1.size, fun b hb _ => HL.out.1.block b hb⟩ ?_ (fun i h => (HL.out.1.cell (p := ⟨blk, i, none⟩) HGL.out).trans (HROW.out i h).1); have h3 := compB_all d k (by omega) (fun j h hj => HL.out.2 j h hj)
     rwa [List.take_of_length_le (by omega)] at h3
    clear FIN HROW HIS HL HN; go_wp2_with fail; go_ret; exact HF.out
end
end Go.Proofs.YtdmmchoicngblaaGreatDoor
