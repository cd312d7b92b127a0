/- standardOrder, CompareTerms of the implementation. Own work of the verifier. -/
import Derived.Test.YtopdhjnpcpkmlaaCmp14
import Derived.Test.YtopdhjnpcpkmlaaVars3
namespace Go.Proofs.Ytopdhjnpcpkmlaa
open Go Go.RowKit Go.Maps
set_option linter.unusedVariables false

theorem putF_self (ks : List Fun) (f : Fun) : f ∈ putF ks f := by unfold putF; split <;> simp_all
theorem putF_sub {ks : List Fun} {f g : Fun} (h : g ∈ ks) : g ∈ putF ks f := by unfold putF; split <;> simp_all
theorem putF_nd {ks : List Fun} (h : ks.Pairwise (· ≠ ·)) (f : Fun) : (putF ks f).Pairwise (· ≠ ·) := by
  unfold putF
  split
  · exact h
  · rename_i hf
    rw [List.pairwise_append]
    exact ⟨h, by simp, fun a ha b hb => by
      have e : b = f := by simpa using hb
      rw [e]; intro e2; exact hf (e2 ▸ ha)⟩
theorem putF_len (ks : List Fun) (f : Fun) : (putF ks f).length ≤ ks.length + 1 := by unfold putF; split <;> simp
theorem noteL_sub {ks : List Fun} {c : Cel} {g : Fun} (h : g ∈ ks) : g ∈ noteL ks c := by unfold noteL; split; exact putF_sub h; exact h
theorem noteL_nd {ks : List Fun} (h : ks.Pairwise (· ≠ ·)) (c : Cel) : (noteL ks c).Pairwise (· ≠ ·) := by unfold noteL; split; exact putF_nd h _; exact h
theorem noteL_len (ks : List Fun) (c : Cel) : (noteL ks c).length ≤ ks.length + 1 := by unfold noteL; split; exact putF_len _ _; omega
theorem notes_sub : ∀ (cs : List Cel) {ks : List Fun} {g : Fun}, g ∈ ks → g ∈ notes ks cs
  | [], _, _, h => h
  | c :: r, ks, g, h => by rw [notes_cons]; exact notes_sub r (noteL_sub h)
theorem notes_nd : ∀ (cs : List Cel) {ks : List Fun}, ks.Pairwise (· ≠ ·) → (notes ks cs).Pairwise (· ≠ ·)
  | [], _, h => h
  | c :: r, ks, h => by rw [notes_cons]; exact notes_nd r (noteL_nd h c)
theorem notes_len : ∀ (cs : List Cel) (ks : List Fun), (notes ks cs).length ≤ ks.length + cs.length
  | [], ks => by simp [notes]
  | c :: r, ks => by
    have h1 := notes_len r (noteL ks c)
    have h2 := noteL_len ks c
    rw [notes_cons, List.length_cons]; omega
theorem notes_names : ∀ (cs : List Cel) (ks : List Fun), NamesIn (notes ks cs) cs
  | [], ks => fun x h => by simp at h
  | c :: r, ks => fun x hx hk => by
    rw [notes_cons]
    rcases List.mem_cons.1 hx with rfl | h
    · refine notes_sub r ?_
      rw [noteL, if_pos hk]; exact putF_self _ _
    · exact notes_names r _ x h hk

def StdOut (w : World) (cs cs' : List Cel) (e : Ending) (w' : World) : Prop :=
  ∃ b N ks rk, e = .returned (.func (.func 64) #[.map (some b)] #[]) ∧ FunMap w' b N ks rk ∧ RankOk rk ks ∧ NamesIn ks cs ∧ NamesIn ks cs' ∧ Below w.heap.size w w'

set_option maxRecDepth 100000 in
set_option maxHeartbeats 1000000 in
theorem standard_any (c : Cel) (k : Fo) (v : Value) (c' : Cel) (k' : Fo) (v' : Value) (Bt g : Nat) (w0 w : World) (hok : (Fo.node c k .nil).ok) (hok' : (Fo.node c' k' .nil).ok) (hfo : FoIn w0 Bt (.node c k .nil) [v]) (hfo' : FoIn w0 Bt (.node c' k' .nil) [v']) (hw : Below w0.heap.size w0 w)
    (g0 : w.cell? ⟨g, 0, none⟩ = some v) (g1 : w.cell? ⟨g, 1, none⟩ = some v') (hl : k.cells.length + 1 ≤ 2000) (hl' : k'.cells.length + 1 ≤ 2000) :
    Calls Try.prog 41 #[.slice (some ⟨g, 0, none⟩) 2 2] w (StdOut w (c :: k.cells) (c' :: k'.cells)) := by
  have hmm := @run_makeMap Try.prog
  have HN0 : Hid (NState (w.alloc (.map #[] 0)) w.heap.size 0 []) := ⟨0, Nat.le_refl _, FunMap.made w _⟩
  have HB0 : Hid (Below w.heap.size w (w.alloc (.map #[] 0))) := (Below.refl _ _).alloc (Nat.le_refl _) _
  have HSL : Hid (w.heap.size < (w.alloc (.map #[] 0)).heap.size) := by show _ < _; simp
  have HW1 : Hid (∀ W, Below w.heap.size w W → w.heap.size < W.heap.size → NState W w.heap.size 0 [] → Calls Try.prog 61 #[v, .func (.func 62) #[.map (some w.heap.size)] #[]] W (NWalk W w.heap.size w.heap.size (0 + (k.cells.length + 1)) (notes [] (c :: k.cells)))) := fun W hW hlt hs =>
    noteWalk_any k.cells.length c k v Bt w.heap.size w.heap.size 0 [] w0 W (Nat.le_refl _) hok hfo (Below.on hw hW) hw.size (Nat.le_of_lt hlt) (Nat.le_refl _) hs (by omega)
  have HW2 : Hid (∀ W, Below w.heap.size w W → w.heap.size < W.heap.size → NState W w.heap.size (0 + (k.cells.length + 1)) (notes [] (c :: k.cells)) → Calls Try.prog 61 #[v', .func (.func 62) #[.map (some w.heap.size)] #[]] W (NWalk W w.heap.size w.heap.size (0 + (k.cells.length + 1) + (k'.cells.length + 1)) (notes (notes [] (c :: k.cells)) (c' :: k'.cells)))) := fun W hW hlt hs =>
    noteWalk_any k'.cells.length c' k' v' Bt w.heap.size w.heap.size (0 + (k.cells.length + 1)) _ w0 W (Nat.le_refl _) hok' hfo' (Below.on hw hW) hw.size (Nat.le_of_lt hlt) (Nat.le_refl _) hs (by omega)
  have HSO : Hid (∀ W, NState W w.heap.size (0 + (k.cells.length + 1) + (k'.cells.length + 1)) (notes (notes [] (c :: k.cells)) (c' :: k'.cells)) → Calls Try.prog 63 #[.map (some w.heap.size)] W fun e w' => e = .returned (.tuple #[]) ∧ ∃ rk N', RankOk rk (notes (notes [] (c :: k.cells)) (c' :: k'.cells)) ∧ FunMap w' w.heap.size N' (notes (notes [] (c :: k.cells)) (c' :: k'.cells)) rk ∧ W.grownBy w' (some w.heap.size)) := fun W ⟨N, hN, hm⟩ =>
    sort_any w.heap.size N _ W hm (by omega) (by
      have h1 := notes_len (c' :: k'.cells) (notes [] (c :: k.cells))
      have h2 := notes_len (c :: k.cells) []
      simp only [List.length_cons, List.length_nil] at h1 h2
      omega) (notes_nd _ (notes_nd _ (by simp)))
  have HNM : Hid (NamesIn (notes (notes [] (c :: k.cells)) (c' :: k'.cells)) (c :: k.cells) ∧ NamesIn (notes (notes [] (c :: k.cells)) (c' :: k'.cells)) (c' :: k'.cells)) := ⟨fun x hx hk => notes_sub _ (notes_names _ _ x hx hk), notes_names _ _⟩
  obtain ⟨t1, x1, rfl⟩ := hfo.iface
  obtain ⟨t2, x2, rfl⟩ := hfo'.iface
  have G0 : Hid (w.cell? ⟨g, 0, none⟩ = some (.iface t1 x1)) := g0
  have G1 : Hid (w.cell? ⟨g, 1, none⟩ = some (.iface t2 x2)) := g1
  clear g0 g1 hok hok' hfo hfo' hw hl hl'
  generalize hk0 : notes [] (c :: k.cells) = K1 at *
  generalize hk1 : notes K1 (c' :: k'.cells) = K2 at *
  generalize 0 + (k.cells.length + 1) = m1 at *
  generalize m1 + (k'.cells.length + 1) = m2 at *
  clear hk0 hk1
  go_enter Try.func41, Try.ntmps41
  go_wp2_with fail
  clear hmm
  go_loopw [9] (fun i wr => (i = .int .i64 0 ∧ Hid (NState wr w.heap.size 0 []) ∨ i = .int .i64 1 ∧ Hid (NState wr w.heap.size m1 K1) ∨ i = .int .i64 2 ∧ Hid (NState wr w.heap.size m2 K2)) ∧ Hid (Below w.heap.size w wr) ∧ Hid (w.heap.size < wr.heap.size)) (fun i _ => 2 - (intOf i).toNat)
  case atStart => exact ⟨.inl ⟨rfl, HN0⟩, HB0, HSL⟩
  case round =>
    obtain ⟨hcase, HB, HLT⟩ := hrel
    have e0 := (HB.out.cell (World.block_lt_of_cell? _ _ G0.out)).trans G0.out
    have e1 := (HB.out.cell (World.block_lt_of_cell? _ _ G1.out)).trans G1.out
    rcases hcase with ⟨rfl, HS⟩ | ⟨rfl, HS⟩ | ⟨rfl, HS⟩
    · have HC := HW1.out wr HB.out HLT.out HS.out
      go_wp2_with fail
      refine HC.mono ?_
      rintro e w2 ⟨rfl, hs2, hb2⟩
      have HS2 : Hid (NState w2 w.heap.size m1 K1) := hs2
      have HB2 : Hid (Below w.heap.size w w2) := HB.out.trans hb2
      have HL2 : Hid (w.heap.size < w2.heap.size) := Nat.lt_of_lt_of_le HLT.out hb2.size
      clear hs2 hb2 HC
      go_wp2_with fail
      go_roundw
      case rel => exact ⟨.inr (.inl ⟨by go_num, HS2⟩), HB2, HL2⟩
      case measure => simp [intOf]
    · have HC := HW2.out wr HB.out HLT.out HS.out
      go_wp2_with fail
      refine HC.mono ?_
      rintro e w2 ⟨rfl, hs2, hb2⟩
      have HS2 : Hid (NState w2 w.heap.size m2 K2) := hs2
      have HB2 : Hid (Below w.heap.size w w2) := HB.out.trans hb2
      have HL2 : Hid (w.heap.size < w2.heap.size) := Nat.lt_of_lt_of_le HLT.out hb2.size
      clear hs2 hb2 HC
      go_wp2_with fail
      go_roundw
      case rel => exact ⟨.inr (.inr ⟨by go_num, HS2⟩), HB2, HL2⟩
      case measure => simp [intOf]
    · have HC := HSO.out wr HS.out
      go_wp2_with fail
      refine HC.mono ?_
      rintro e w2 ⟨rfl, rk, N', hrk, hfm, hgr⟩
      have HFIN : Hid (StdOut w (c :: k.cells) (c' :: k'.cells) (.returned (.func (.func 64) #[.map (some w.heap.size)] #[])) w2) := ⟨_, N', K2, rk, rfl, hfm, hrk, HNM.out.1, HNM.out.2, HB.out.grown hgr HB.out.size (fun j hj => by cases hj; exact Nat.le_refl _)⟩
      clear hrk hfm hgr HC
      go_wp2_with fail
      go_ret
      exact HFIN.out

end Go.Proofs.Ytopdhjnpcpkmlaa
