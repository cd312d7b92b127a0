/- Texts of UnV5, UnU1, KeysW. Own work of the verifier. -/
import Derived.Test.YtedlcmkhbccjgaaUqbg
import Derived.Test.YtedlcmkhbccjgaaKeysL
import Derived.Test.YtedlcmkhbccjgaaUqai
namespace Go.Proofs.Ytedlcmkhbccjgaa
open Go Go.RowKit
set_option linter.unusedVariables false

theorem zeroSol (w : World) : (zeroValue 128).run Try.prog w = .ok (.agg #[.nilIface, .int .i64 0]) w := by kernel_rfl
theorem grown_of_below {w w' : World} {s : Nat} (h : Below w.heap.size w w') : w.grownBy w' (some s) := ⟨h.os, h.tape, h.output, h.size, fun k hk _ => h.block k hk⟩
theorem SV.fresh {W0 : World} {P : BM} {EP : List (Int × Value)} {b s ub : Nat} {A : Nat → Prop} {ES : List (Int × Value)} {W W' : World} (h : SV W0 P EP b s ub A ES W) (hB : Below W.heap.size W W') : SV W0 P EP b s ub A ES W' :=
  h.grow ⟨hB.os, hB.tape, hB.output, hB.size, fun k hk _ => hB.block k hk⟩
theorem FoA.fresh {A : Nat → Prop} {W W' : World} {F : Fo} {vs : List Value} (h : FoA A W F vs) (hB : Below W.heap.size W W') : FoA A W' F vs :=
  h.move (fun p v hp hv => ⟨hp, (hB.cell (World.block_lt_of_cell? _ _ hv)).trans hv⟩) hB.size
section
variable (W0 : World) (Bt : Nat) (P : BM) (EP : List (Int × Value)) (b s ub : Nat) (r : Int → Nat)
set_option maxRecDepth 100000 in
set_option maxHeartbeats 2000000 in
theorem solve_next (hwf : WfU P) (hbm : BMIn W0 Bt P EP) (hPok : ∀ x u, P x = some u → u.fo.ok ∧ (tcs u).length ≤ 2000) (hac : Acyc P r) (m : Nat) (hI : SolveOk W0 P EP b s ub r m) : SolveOk W0 P EP b s ub r (m + 1) := by
  intro x A ES w hrx hx hs
  obtain ⟨wb, ewb⟩ : ∃ wb, wb = (w.alloc (.cells #[.pointer (some ⟨ub, 0, none⟩)] 81)).alloc (.cells #[.nilIface, .int .i64 0] 128) := ⟨_, rfl⟩
  have hB : Below w.heap.size w wb := by rw [ewb]; exact ((Below.refl _ _).alloc (Nat.le_refl _) _).alloc (by simp) _
  have k0 : wb.heap[w.heap.size]? = some (.cells #[.pointer (some ⟨ub, 0, none⟩)] 81) := by rw [ewb]; exact (Below.heap_alloc _ _ _ (by simp)).trans (heap_alloc_new _ _)
  have k1 : wb.heap[w.heap.size + 1]? = some (.cells #[.nilIface, .int .i64 0] 128) := by
    have := heap_alloc_new (w.alloc (.cells #[.pointer (some ⟨ub, 0, none⟩)] 81)) (.cells #[.nilIface, .int .i64 0] 128)
    rw [World.size_alloc] at this
    rw [ewb]; exact this
  have hsb := hs.fresh hB
  have u0 : wb.cell? ⟨w.heap.size, 0, none⟩ = some (.pointer (some ⟨ub, 0, none⟩)) := cell_of_row _ _ 0 _ _ _ k0
  have r0 : wb.cell? ⟨w.heap.size + 1, 0, none⟩ = some .nilIface := cell_of_row _ _ 0 _ _ _ k1
  have r1 : wb.cell? ⟨w.heap.size + 1, 1, none⟩ = some (.int .i64 0) := cell_of_row _ _ 1 _ _ _ k1
  have q0 : wb.frozen? ⟨w.heap.size + 1, 0, none⟩ = false := frozen_of_row _ _ 0 _ _ k1
  have q1 : wb.frozen? ⟨w.heap.size + 1, 1, none⟩ = false := frozen_of_row _ _ 1 _ _ k1
  have cb := hsb.ubc
  have cs := hsb.sbc
  have hlb := hsb.bnd.look (t := 89) Try.underlying89 (zeroTerm wb) x hx.1 hx.2
  cases hP : P x with
  | none =>
    rw [hbm.2 _ hP] at hlb
    simp only [Option.isSome_none] at hlb
    have HFN : Hid (∀ w', Below w.heap.size w w' → SolOut W0 P EP b s ub A x w (.returned (.agg #[.iface 67 (.int .i64 x), .int .i64 1])) w') := fun w' hB' => ⟨((0, x, []), .nil), _, _, rfl, .keep (fun _ => hP) .nil .nil, ⟨_, [], rfl, .inl ⟨rfl, rfl⟩, rfl⟩, ⟨⟨ES, hs.fresh hB'⟩, grown_of_below hB'⟩⟩
    have HBB : Hid (∀ v1 v2, Below w.heap.size w ((wb.setCell ⟨w.heap.size + 1, 0, none⟩ v1).setCell ⟨w.heap.size + 1, 1, none⟩ v2)) := fun v1 v2 => (hB.setCell (p := ⟨w.heap.size + 1, 0, none⟩) (by simp) _).setCell (p := ⟨w.heap.size + 1, 1, none⟩) (by simp) _
    clear hI hrx hx hs hB k0 k1 hsb hP hwf hbm hPok hac u0 r0 r1 q0 q1 cs
    subst ewb
    go_enter Try.func83, Try.ntmps83
    go_wp2_with fail
    refine bodyPost_ret (v := .agg #[.iface 67 (.int .i64 x), .int .i64 1]) (by simp [results, Try.results83, go_sem]) rfl ?_
    exact HFN.out _ (((Below.refl _ _).alloc (Nat.le_refl _) _).alloc (by simp) _)
  | some u =>
    obtain ⟨vu, hlu, hfu⟩ := hbm.1 _ _ hP
    obtain ⟨tu, yu, rfl⟩ := FoIn.iface (show FoIn W0 Bt (.node u.1 u.2 .nil) [vu] from hfu)
    rw [hlu] at hlb
    simp only [Option.isSome_some] at hlb
    have hls := hsb.sol.look (t := 117) Try.underlying117 (zeroSol wb) x hx.1 hx.2
    cases hE : look ES x with
    | some sv =>
      obtain ⟨u', g, t, y, hP', hfull, rfl, hfa⟩ := hs.ent x sv hE
      obtain rfl := Option.some.inj (hP.symm.trans hP')
      rw [hE] at hls
      simp only [Option.isSome_some] at hls
      have HFN : Hid (∀ w', Below w.heap.size w w' → SolOut W0 P EP b s ub A x w (.returned (solV (.iface t y) g)) w') := fun w' hB' => ⟨g, t, y, rfl, .put rfl hP hfull .nil, hfa.fresh hB', ⟨⟨ES, hs.fresh hB'⟩, grown_of_below hB'⟩⟩
      unfold solV at HFN hls
      obtain ⟨z, ez⟩ : ∃ z, z = ((min (tcs g).length 2001 : Nat) : Int) := ⟨_, rfl⟩
      rw [← ez] at HFN hls
      clear hI hrx hx hs hB k0 k1 hsb hP hP' hwf hbm hPok hac u0 r0 r1 q0 q1 hE hfull hfa hfu hlu ez
      subst ewb
      go_enter Try.func83, Try.ntmps83
      go_wp2_with fail
      refine bodyPost_ret (v := .agg #[.iface t y, .int .i64 z]) (by simp [results, Try.results83, go_sem]) rfl ?_
      exact HFN.out _ ((((Below.refl _ _).alloc (Nat.le_refl _) _).alloc (by simp) _).alloc (by simp; omega) _)
    | none =>
      rw [hE] at hls
      simp only [Option.isSome_none] at hls
      obtain ⟨w3, e3⟩ : ∃ w3, w3 = wb.alloc (.cells #[.nilIface, .int .i64 0] 128) := ⟨_, rfl⟩
      have hB3 : Below wb.heap.size wb w3 := by rw [e3]; exact (Below.refl _ _).alloc (Nat.le_refl _) _
      obtain ⟨A1, eA1⟩ : ∃ A1 : Nat → Prop, A1 = fun a => A a ∨ a = w.heap.size + 1 := ⟨_, rfl⟩
      have HA1 : Hid (∀ a, A1 a ↔ A a ∨ a = w.heap.size + 1) := fun a => by rw [eA1]
      have HAV : Hid (∀ a, A a → W0.heap.size ≤ a ∧ a < w.heap.size) := hs.av
      have hBw : Below w.heap.size w w3 := Below.on hB hB3
      have hs3 : SV W0 P EP b s ub A1 ES w3 := by
        refine hs.move (Below.on hs.low hBw) (hBw.block _ hs.bnd.lt) (hBw.block _ hs.sol.lt) (hBw.block _ (World.block_lt_of_cell? _ _ hs.ubc)) (fun p v hp hv => ?_) hBw.size (fun a ha => ?_)
        · have hlt := World.block_lt_of_cell? _ _ hv
          refine ⟨fun ha => ?_, (hBw.cell hlt).trans hv⟩
          rcases (HA1.out _).1 ha with h | h
          · exact hp h
          · omega
        · rcases (HA1.out _).1 ha with h | h
          · have := hs.av a h; have := hBw.size; omega
          · have := hs.low.size
            have h9 := World.block_lt_of_cell? _ _ ((hB3.cell (World.block_lt_of_cell? _ _ r0)).trans r0)
            simp at h9
            omega
      obtain ⟨ou, lu⟩ := hPok _ _ hP
      have hvs : ∀ z ∈ vsT u, r z < m := fun z hz => by have := hac _ _ hP z hz; omega
      have u3 : w3.cell? ⟨w.heap.size, 0, none⟩ = some (.pointer (some ⟨ub, 0, none⟩)) := (hB3.cell (World.block_lt_of_cell? _ _ u0)).trans u0
      have HRC := replaceF_any W0 Bt P EP b s ub r m hI w.heap.size u.2.cells.length u.1 u.2 (.iface tu yu) A1 ES w3 (Nat.le_refl _) ou hfu hvs hs3 u3 (by simp only [tcs, List.length_cons] at lu; omega)
      have HSZ : Hid (∀ ES4 w4, SV W0 P EP b s ub A1 ES4 w4 → w4.cell? ⟨w.heap.size, 0, none⟩ = some (.pointer (some ⟨ub, 0, none⟩)) → Calls Try.prog 44 #[.iface tu yu, .func (.func 94) #[] #[.pointer (some ⟨w.heap.size, 0, none⟩)]] w4 fun e w' => e = .returned (.int .i64 ((min (szU P (tcs u)) 2001 : Nat) : Int)) ∧ After W0 P EP b s ub A1 w4 w') := fun ES4 w4 h4 hu4 => sizeWithU_any W0 Bt P EP b s ub r m hI A1 w.heap.size u (.iface tu yu) ES4 w4 ou hfu hvs lu h4 hu4
      have HCT : Hid (∀ g : Tr, FullF P u.fo g.fo → min (szU P (tcs u)) 2001 = min (tcs g).length 2001) := fun g hg => by
        have h1 := hwf.count 2001 u ou
        rw [fullC_eq hg, tcs_fo] at h1
        exact h1.symm
      have HUX3 : Hid (w3.cell? ⟨w.heap.size, 0, none⟩ = some (.pointer (some ⟨ub, 0, none⟩)) ∧ w3.cell? ⟨w.heap.size + 1, 0, none⟩ = some .nilIface ∧ w3.cell? ⟨w.heap.size + 1, 1, none⟩ = some (.int .i64 0) ∧ w3.frozen? ⟨w.heap.size + 1, 0, none⟩ = false ∧ w3.frozen? ⟨w.heap.size + 1, 1, none⟩ = false) := ⟨u3, (hB3.cell (World.block_lt_of_cell? _ _ r0)).trans r0, (hB3.cell (World.block_lt_of_cell? _ _ r1)).trans r1, (hB3.frozen (p := ⟨w.heap.size + 1, 0, none⟩) (World.block_lt_of_cell? _ _ r0)).trans q0, (hB3.frozen (p := ⟨w.heap.size + 1, 1, none⟩) (World.block_lt_of_cell? _ _ r1)).trans q1⟩
      have HS3 : Hid (SV W0 P EP b s ub A1 ES w3) := hs3
      have HBW : Hid (Below w.heap.size w w3) := Below.on hB hB3
      have HX : Hid ((0 ≤ x ∧ x ≤ 1000000) ∧ P x = some u ∧ x ∈ EP.map Prod.fst) := ⟨hx, hP, by
        cases hq : decide (x ∈ EP.map Prod.fst) with
        | true => exact of_decide_eq_true hq
        | false => rw [(look_none EP x).2 (of_decide_eq_false hq)] at hlu; cases hlu⟩
      have HSL : Hid (s < w.heap.size ∧ ub < w.heap.size ∧ b < w.heap.size ∧ W0.heap.size ≤ w.heap.size) := ⟨hs.sol.lt, World.block_lt_of_cell? _ _ hs.ubc, hs.bnd.lt, hs.low.size⟩
      clear hI hrx hx hs hB k0 k1 hsb hP hwf hbm hPok hac u0 r0 r1 q0 q1 hE hfu hlu hB3 hs3 ou lu hvs u3 eA1 hBw
      subst ewb
      rw [e3] at HRC
      go_enter Try.func83, Try.ntmps83
      go_wp2_with fail
      refine HRC.mono ?_
      rw [← e3]
      rintro e w4 ⟨g, t, y, rfl, hfull, hfa4, ⟨ES4, hsv4⟩, hg4⟩
      have hu4 := HS3.out.cell hg4 HUX3.out.1
      have hsn : w.heap.size + 1 ≠ s := by have := HSL.out.1; omega
      have a0 := HS3.out.cell hg4 HUX3.out.2.1
      have a1 := HS3.out.cell hg4 HUX3.out.2.2.1
      have b0 := frz_grown HUX3.out.2.1 HUX3.out.2.2.2.1 hg4 hsn
      have b1 := frz_grown HUX3.out.2.2.1 HUX3.out.2.2.2.2 hg4 hsn
      have HSZ4 := HSZ.out ES4 w4 hsv4 hu4
      have HS4 : Hid (SV W0 P EP b s ub A1 ES4 w4) := hsv4
      have HGE : Hid (FullF P u.fo g.fo) := hfull
      rw [HCT.out g hfull] at HSZ4
      have HFA : Hid (FoA A1 w4 g.fo [.iface t y]) := hfa4
      have HG4 : Hid (w3.grownBy w4 (some s)) := hg4
      have HAB : Hid ((w4.cell? ⟨w.heap.size + 1, 0, none⟩ = some .nilIface ∧ w4.cell? ⟨w.heap.size + 1, 1, none⟩ = some (.int .i64 0)) ∧ w4.frozen? ⟨w.heap.size + 1, 0, none⟩ = false ∧ w4.frozen? ⟨w.heap.size + 1, 1, none⟩ = false) := ⟨⟨a0, a1⟩, b0, b1⟩
      have HU4 : Hid (w4.cell? ⟨w.heap.size, 0, none⟩ = some (.pointer (some ⟨ub, 0, none⟩))) := hu4
      obtain ⟨z, ez⟩ : ∃ z, z = ((min (tcs g).length 2001 : Nat) : Int) := ⟨_, rfl⟩
      have HZ : Hid (z = ((min (tcs g).length 2001 : Nat) : Int)) := ez
      rw [← ez] at HSZ4
      clear hfull hfa4 hsv4 hg4 hu4 a0 a1 b0 b1 HRC HSZ ez
      go_wp2_with fail
      refine HSZ4.mono ?_
      rintro e w5 ⟨rfl, ⟨ES5, hsv5⟩, hg5⟩
      have hu5 := HS4.out.cell hg5 HU4.out
      have a0 := HS4.out.cell hg5 HAB.out.1.1
      have a1 := HS4.out.cell hg5 HAB.out.1.2
      have b0 := frz_grown HAB.out.1.1 HAB.out.2.1 hg5 hsn
      have b1 := frz_grown HAB.out.1.2 HAB.out.2.2 hg5 hsn
      obtain ⟨w6, e6⟩ : ∃ w6, w6 = (w5.alloc (.cells #[.iface t y, .int .i64 z] 128)).drew := ⟨_, rfl⟩
      have hB6 : Below w5.heap.size w5 w6 := by rw [e6]; exact ((Below.refl _ _).alloc (Nat.le_refl _) _).drew
      have h6n : w6.heap[w5.heap.size]? = some (.cells #[.iface t y, .int .i64 z] 128) := by rw [e6]; exact heap_alloc_new w5 _
      have hsv6 := hsv5.fresh hB6
      have hlen5 : ES5.length ≤ 20000 := by have := hsv5.cost; omega
      obtain ⟨w7, hput, hm7, hg7⟩ := hsv6.sol.put (t := 117) Try.underlying117 (by omega) x HX.out.1.1 HX.out.1.2 (.agg #[.iface t y, .int .i64 z])
      have hsw : w5.heap.size ≠ s := by have := hsv5.sol.lt; omega
      have v0 : w6.cell? ⟨w.heap.size, 0, none⟩ = some (.pointer (some ⟨ub, 0, none⟩)) := (hB6.cell (World.block_lt_of_cell? _ _ hu5)).trans hu5
      have v1 := hsv6.sbc
      have v2 : w6.cell? ⟨w5.heap.size, 0, none⟩ = some (.iface t y) := cell_of_row _ _ 0 _ _ _ h6n
      have v3 : w6.cell? ⟨w5.heap.size, 1, none⟩ = some (.int .i64 z) := cell_of_row _ _ 1 _ _ _ h6n
      have x0 := hsv6.cell hg7 v0
      have x1 := hsv6.cell hg7 v1
      have x2 := hsv6.cell hg7 v2
      have x3 := hsv6.cell hg7 v3
      have y0 := hsv6.cell hg7 ((hB6.cell (World.block_lt_of_cell? _ _ a0)).trans a0)
      have y1 := hsv6.cell hg7 ((hB6.cell (World.block_lt_of_cell? _ _ a1)).trans a1)
      have z0 := frz_grown ((hB6.cell (World.block_lt_of_cell? _ _ a0)).trans a0) ((hB6.frozen (p := ⟨w.heap.size + 1, 0, none⟩) (World.block_lt_of_cell? _ _ a0)).trans b0) hg7 hsn
      have z1 := frz_grown ((hB6.cell (World.block_lt_of_cell? _ _ a1)).trans a1) ((hB6.frozen (p := ⟨w.heap.size + 1, 1, none⟩) (World.block_lt_of_cell? _ _ a1)).trans b1) hg7 hsn
      have HFIN : Hid (SolOut W0 P EP b s ub A x w (.returned (.agg #[.iface t y, .int .i64 z])) ((w7.setCell ⟨w.heap.size + 1, 0, none⟩ (.iface t y)).setCell ⟨w.heap.size + 1, 1, none⟩ (.int .i64 z))) := by
        have hgA : ∀ p v, ¬ A1 p.block → w7.cell? p = some v → ¬ A p.block ∧ ((w7.setCell ⟨w.heap.size + 1, 0, none⟩ (.iface t y)).setCell ⟨w.heap.size + 1, 1, none⟩ (.int .i64 z)).cell? p = some v := fun p v hp hv => by
          have hne : p.block ≠ w.heap.size + 1 := fun e => hp ((HA1.out _).2 (.inr e))
          refine ⟨fun ha => hp ((HA1.out _).2 (.inl ha)), ?_⟩
          rw [World.cell?_setCell_other _ _ _ _ (fun e => hne (by rw [← e])), World.cell?_setCell_other _ _ _ _ (fun e => hne (by rw [← e]))]
          exact hv
        have hfa5 : FoA A1 w5 g.fo [.iface t y] := HFA.out.move (fun p v hp hv => ⟨hp, HS4.out.cell hg5 hv⟩) hg5.size
        have hfa7 : FoA A1 w7 g.fo [.iface t y] := (hfa5.fresh hB6).move (fun p v hp hv => ⟨hp, hsv6.cell hg7 hv⟩) hg7.size
        have hblk : ∀ k, k ≠ w.heap.size + 1 → ((w7.setCell ⟨w.heap.size + 1, 0, none⟩ (.iface t y)).setCell ⟨w.heap.size + 1, 1, none⟩ (.int .i64 z)).heap[k]? = w7.heap[k]? := fun k hk => (Below.heap_setCell _ _ _ _ (by simpa using hk)).trans (Below.heap_setCell _ _ _ _ (by simpa using hk))
        have hsv7 : SV W0 P EP b s ub A1 (putE ES5 x (.agg #[.iface t y, .int .i64 z])) w7 := by
          refine ⟨hsv6.low.grown hg7 hsv6.low.size (fun k e => by cases e; exact hsv6.hs), hsv6.cell hg7 hsv6.ubc, hsv6.cell hg7 hsv6.sbc, hsv6.bnd.of_block (hg7.block b hsv6.bnd.lt (fun e => hsv6.ne (Option.some.inj e))), hm7.tight, fun x' sv' hx' => ?_, fun a ha => ?_, ?_, hsv6.hs, hsv6.ne⟩
          · rw [look_putE] at hx'
            split at hx'
            · rename_i e
              subst e
              cases hx'
              exact ⟨u, g, t, y, HX.out.2.1, HGE.out, by unfold solV; rw [HZ.out], hfa7⟩
            · obtain ⟨u', g', t', y', h1, h2, h3, h4⟩ := hsv6.ent x' sv' hx'
              exact ⟨u', g', t', y', h1, h2, h3, h4.move (fun p v hp hv => ⟨hp, hsv6.cell hg7 hv⟩) hg7.size⟩
          · have := hsv6.av a ha
            have := hg7.size
            omega
          · have h1 := putE_len ES5 x (Value.agg #[.iface t y, .int .i64 z])
            have h2 := hsv6.cost
            cases hq : look ES5 x with
            | none =>
              have h3 := uns_put (v := Value.agg #[.iface t y, .int .i64 z]) HX.out.2.2 hq
              rw [hq] at h1
              simp at h1
              omega
            | some y9 =>
              rw [hq] at h1
              simp only [Option.isSome_some, if_true] at h1
              have h3 : uns (EP.map Prod.fst) (putE ES5 x (Value.agg #[.iface t y, .int .i64 z])) ≤ uns (EP.map Prod.fst) ES5 := by
                unfold uns
                have e : (EP.map Prod.fst).filter (fun x_1 => (look (putE ES5 x (Value.agg #[.iface t y, .int .i64 z])) x_1).isNone) = (EP.map Prod.fst).filter (fun x_1 => (look ES5 x_1).isNone) := List.filter_congr fun x' _ => by
                  rw [look_putE]
                  by_cases e : x' = x
                  · subst e; simp [hq]
                  · simp [e]
                rw [e]
                exact Nat.le_refl _
              omega
        refine ⟨g, t, y, by unfold solV; rw [HZ.out], .put rfl HX.out.2.1 HGE.out .nil, hfa7.move hgA (by simp), ⟨⟨_, hsv7.move ?_ (hblk b ?_) (hblk s (fun e => hsn e.symm)) (hblk ub ?_) hgA (by simp) (fun a ha => ?_)⟩, ?_⟩⟩
        · exact (hsv7.low.setCell (p := ⟨w.heap.size + 1, 0, none⟩) (by have := HSL.out.2.2.2; show W0.heap.size ≤ w.heap.size + 1; omega) _).setCell (p := ⟨w.heap.size + 1, 1, none⟩) (by have := HSL.out.2.2.2; show W0.heap.size ≤ w.heap.size + 1; omega) _
        · have := HSL.out.2.2.1; omega
        · have := HSL.out.2.1; omega
        · have := HAV.out a ha
          have h9 := HBW.out.size
          have h10 := HG4.out.size
          have h11 := hg5.size
          have h12 := hB6.size
          have h13 := hg7.size
          simp
          omega
        · have h1 := ((grown_of_below (s := s) HBW.out).andThen HG4.out (fun j hj => .inr hj)).andThen (hg5.andThen ((grown_of_below (s := s) hB6).andThen hg7 (fun j hj => .inr hj)) (fun j hj => .inr hj)) (fun j hj => .inr hj)
          exact ⟨h1.os, h1.tape, h1.output, by simpa using h1.size, fun k hk hne => (hblk k (by omega)).trans (h1.block k hk hne)⟩
      clear hsv5 hg5 hu5 a0 a1 b0 b1 hB6 h6n hsv6 hlen5 hm7 hg7 hsw HSZ4 HS4 HFA HG4 HAB HU4 HUX3 HS3 HGE HCT
      subst e6
      go_wp2_with fail
      go_region_held3 (fun W => W.cell? ⟨w.heap.size, 0, none⟩ = some (.pointer (some ⟨ub, 0, none⟩)) ∧ W.cell? ⟨ub, 1, none⟩ = some (.map (some s)) ∧ W.cell? ⟨w5.heap.size, 0, none⟩ = some (.iface t y) ∧ W.cell? ⟨w5.heap.size, 1, none⟩ = some (.int .i64 z)) (first | exact ⟨v0, v1, v2, v3⟩ | exact ⟨x0, x1, x2, x3⟩ | go_keep) (fail)
      all_goals
        go_wp2_with fail
        refine bodyPost_ret (v := .agg #[.iface t y, .int .i64 z]) (by simp [results, Try.results83, go_sem, y0, y1]) rfl ?_
        exact HFIN.out
end

end Go.Proofs.Ytedlcmkhbccjgaa

namespace Go.Proofs.Ytedlcmkhbccjgaa
open Go Go.RowKit
set_option linter.unusedVariables false

theorem solve_any (W0 : World) (Bt : Nat) (P : BM) (EP : List (Int × Value)) (b s ub : Nat) (r : Int → Nat) (hwf : WfU P) (hbm : BMIn W0 Bt P EP) (hPok : ∀ x u, P x = some u → u.fo.ok ∧ (tcs u).length ≤ 2000) (hac : Acyc P r) : ∀ m, SolveOk W0 P EP b s ub r m
  | 0 => fun x A ES w h => absurd h (Nat.not_lt_zero _)
  | m + 1 => solve_next W0 Bt P EP b s ub r hwf hbm hPok hac m (solve_any W0 Bt P EP b s ub r hwf hbm hPok hac m)
/-- The unifier as newUnifier leaves it. -/
noncomputable def newW (w : World) (v1 v2 : Value) : World := (((w.alloc (.map #[] 0)).alloc (.map #[] 0)).alloc (.cells #[v1, v2] 91)).alloc (.cells #[.map (some w.heap.size), .map (some (w.heap.size + 1)), .slice (some ⟨w.heap.size + 1 + 1, 0, none⟩) 1 1] 119)
theorem USt.made (w : World) (x y : Tr) (v1 v2 : Value) (h1 : FoIn w 0 x.fo [v1]) (h2 : FoIn w 0 y.fo [v2]) : USt w 0 (fun _ => none) [] w.heap.size (w.heap.size + 1 + 1 + 1) [(x, y)] (newW w v1 v2) := by
  have k3 : (newW w v1 v2).heap[w.heap.size + 1 + 1 + 1]? = some (.cells #[.map (some w.heap.size), .map (some (w.heap.size + 1)), .slice (some ⟨w.heap.size + 1 + 1, 0, none⟩) 1 1] 119) := by
    have := heap_alloc_new (((w.alloc (.map #[] 0)).alloc (.map #[] 0)).alloc (.cells #[v1, v2] 91)) (.cells #[.map (some w.heap.size), .map (some (w.heap.size + 1)), .slice (some ⟨w.heap.size + 1 + 1, 0, none⟩) 1 1] 119)
    simp only [World.size_alloc] at this
    exact this
  have k2 : (newW w v1 v2).heap[w.heap.size + 1 + 1]? = some (.cells #[v1, v2] 91) := by
    have := heap_alloc_new ((w.alloc (.map #[] 0)).alloc (.map #[] 0)) (.cells #[v1, v2] 91)
    simp only [World.size_alloc] at this
    exact (Below.heap_alloc _ _ _ (by simp)).trans this
  have m1 : VMap (newW w v1 v2) (w.heap.size + 1) 0 [] := by
    have := VMap.made (w.alloc (.map #[] 0))
    simp only [World.size_alloc] at this
    exact (this.allocd _).allocd _
  have m0 : VMap (newW w v1 v2) w.heap.size 0 [] := (((VMap.made w).allocd _).allocd _).allocd _
  have hB : Below w.heap.size w (newW w v1 v2) := ((((Below.refl _ _).alloc (Nat.le_refl _) _).alloc (by simp) _).alloc (by simp; omega) _).alloc (by simp; omega) _
  refine ⟨hB, cell_of_row _ _ 0 _ _ _ k3, m0, ⟨fun x u h => (by cases h), fun x _ => rfl⟩, ⟨some ⟨w.heap.size + 1 + 1, 0, none⟩, 1, 1, ?_⟩, Nat.le_refl _, by omega, ⟨w.heap.size + 1, by omega, by omega, cell_of_row _ _ 1 _ _ _ k3, m1⟩⟩
  exact ⟨cell_of_row _ _ 2 _ _ _ k3, frozen_of_row _ _ 2 _ _ k3, rfl, ⟨[(v1, v2)], ⟨rfl, .inr ⟨w.heap.size + 1 + 1, 1, #[v1, v2], rfl, by omega, k2, Nat.le_refl _, by decide, rfl, rfl⟩⟩, ⟨_, [], rfl, h1, h2, rfl⟩⟩, fun g e => by cases e; omega⟩
set_option maxRecDepth 100000 in
theorem newUnifier_any (w : World) (t1 t2 : TypeId) (y1 y2 : Value) : Calls Try.prog 54 #[.iface t1 y1, .iface t2 y2] w fun e w' => e = .returned (.pointer (some ⟨w.heap.size + 1 + 1 + 1, 0, none⟩)) ∧ w' = newW w (.iface t1 y1) (.iface t2 y2) := by
  have hmm := @run_makeMap Try.prog
  go_enter Try.func54, Try.ntmps54
  go_wp2_with fail
  go_ret
  exact ⟨rfl, rfl⟩
/-- From two trees to the end of the run. -/
theorem RI.made (w : World) (x y : Tr) (v1 v2 : Value) (h1 : FoIn w 0 x.fo [v1]) (h2 : FoIn w 0 y.fo [v2]) (ox : x.fo.ok) (oy : y.fo.ok) (lx : (tcs x).length ≤ 2000) (ly : (tcs y).length ≤ 2000) : RI w 0 w.heap.size (w.heap.size + 1 + 1 + 1) (runU 4 5 3 20000 (fun _ => none) [(x, y)]) 0 (fun _ => none) (fun _ => none) [] [(x, y)] (newW w v1 v2) :=
  ⟨.refl _, ⟨⟨fun _ => 0, fun v u h => (by cases h)⟩, fun v u h => (by cases h)⟩, fun v u h => (by cases h), USt.made w x y v1 v2 h1 h2, Nat.le_refl _, by simp, fun p hp => (by rw [List.mem_singleton.1 hp]; exact ⟨⟨ox, oy⟩, lx, ly⟩), rfl⟩

end Go.Proofs.Ytedlcmkhbccjgaa

namespace Go.Proofs.Ytedlcmkhbccjgaa
open Go Go.RowKit Go.Maps Go.Sort Go.Shelf
set_option linter.unusedVariables false

/-- All the keys, ascending. -/
def AscK (E : List (Int × Value)) (ks : List Int) : Prop := ks.Pairwise (· < ·) ∧ (∀ x, x ∈ ks ↔ (Go.Proofs.Ytedlcmkhbccjgaa.look E x).isSome = true) ∧ ks.length = E.length
theorem keys_facts {w : World} {b N : Nat} {D : DataW Value} {E : List (Int × Value)} (hown : w.ownsMap Try.prog 67 anyE b N D) (hsz : Maps.size D = E.length) (hhas : ∀ x : Int, Maps.has D (.int .i64 x) = (Go.Proofs.Ytedlcmkhbccjgaa.look E x).isSome) :
    (intKeys D).Nodup ∧ (∀ x, x ∈ intKeys D ↔ (Go.Proofs.Ytedlcmkhbccjgaa.look E x).isSome = true) ∧ (intKeys D).length = E.length := by
  obtain ⟨es, hD, hpw, _⟩ := hown.entries lawVar
  obtain ⟨es', hD', hko⟩ := hown.keysOf
  obtain rfl : es = es' := by rw [hD] at hD'; simpa using hD'
  subst hD
  have hk : ∀ p ∈ es, ∃ x, p.1 = .int .i64 x := fun p hp => by
    obtain ⟨v, hv⟩ := hko p hp
    obtain ⟨x, _, hx, _⟩ := Maps.keyOf_i64 Try.underlying67 hv
    exact ⟨x, hx⟩
  refine ⟨?_, fun x => ?_, ?_⟩
  · show (es.map fun p => Go.intOf p.1).Nodup
    refine List.pairwise_map.2 (hpw.imp_of_mem fun {p q} hp' hq' hne e => hne ?_)
    obtain ⟨a, ha⟩ := hk p hp'
    obtain ⟨b, hb⟩ := hk q hq'
    rw [ha, hb] at e ⊢
    exact congrArg _ e
  · rw [← hhas x, has_eq, List.any_eq_true]
    show x ∈ es.map (fun p => Go.intOf p.1) ↔ _
    rw [List.mem_map]
    constructor
    · rintro ⟨p, hp', rfl⟩
      obtain ⟨a, ha⟩ := hk p hp'
      exact ⟨p, hp', by rw [ha]; simp [Lit.sameKey, Go.intOf]⟩
    · rintro ⟨p, hp', hs⟩
      obtain ⟨a, ha⟩ := hk p hp'
      rw [ha] at hs
      exact ⟨p, hp', by rw [ha]; simpa [Lit.sameKey, Go.intOf] using hs⟩
  · rw [← hsz]
    simp [intKeys, Maps.size]
theorem asc_of {w : World} {b N : Nat} {D : DataW Value} {E : List (Int × Value)} (hown : w.ownsMap Try.prog 67 anyE b N D) (hsz : Maps.size D = E.length) (hhas : ∀ x : Int, Maps.has D (.int .i64 x) = (Go.Proofs.Ytedlcmkhbccjgaa.look E x).isSome) {ss : List Int} (hp : ss.Perm (intKeys D)) : AscK E (ss.mergeSort leI) := by
  obtain ⟨h1, h2, h3⟩ := keys_facts hown hsz hhas
  have hpm : (ss.mergeSort leI).Perm (intKeys D) := (List.mergeSort_perm ss leI).trans hp
  have tr : ∀ a b c : Int, leI a b = true → leI b c = true → leI a c = true := fun a b c h1 h2 => by simp only [leI, decide_eq_true_eq] at *; exact Int.le_trans h1 h2
  have to : ∀ a b : Int, (leI a b || leI b a) = true := fun a b => by simp only [leI, Bool.or_eq_true, decide_eq_true_eq]; exact Int.le_total a b
  refine ⟨?_, fun x => (hpm.mem_iff).trans (h2 x), hpm.length_eq.trans h3⟩
  have hs := List.pairwise_mergeSort tr to ss
  have hn : (ss.mergeSort leI).Nodup := hpm.nodup_iff.2 h1
  refine (hs.and hn).imp fun {a b} ⟨hab, hne⟩ => ?_
  simp only [leI, decide_eq_true_eq] at hab
  omega
theorem sortsL (m : Nat) : AnyZI.SortsIn Try.prog Try.sortedL_ren Fence.wide m :=
  ⟨fun blk off cap ss W hH hblk hsz => callsIn_wide.2 (AnyM.slices_Sort_int Try.sortL blk off cap ss W hH hblk hsz),
   fun p cap W => callsIn_wide.2 (AnyM.slices_Sort_int_none Try.sortL p cap W)⟩
abbrev fKeys : Nat := 82
abbrev fIter : Nat := 92
theorem keysC (mb : Option Nat) (W : World) : Calls Try.prog 82 #[.map mb] W fun e w' => e = .returned (.func (.func 92) #[] #[.pointer (some ⟨W.heap.size, 0, none⟩)]) ∧ w' = W.alloc (.cells #[.map mb] 89) :=
  (callsIn_wide (n := 5)).1 (AnyZI.keys_in Try.keysL Fence.wide 5 trivial rfl mb W)
set_option maxHeartbeats 1000000 in
theorem sortedC (b N : Nat) (E : List (Int × Value)) (w : World) (h : VMap w b N E) (hE : E.length ≤ 1000000) :
    Calls Try.prog 81 #[.func (.func 92) #[] #[.pointer (some ⟨w.heap.size, 0, none⟩)]] (w.alloc (.cells #[.map (some b)] 89)) fun e w' => ∃ v ks, e = .returned v ∧ AscK E ks ∧ w'.ownsRow w.heap.size 67 1 v ks.length (ks.map (Value.int .i64)) ∧ Below w.heap.size w w' := by
  obtain ⟨D, hown, hsz, hhas, _⟩ := h
  have hbl := hown.lt
  have hmax : Maps.size D ≤ maxLen := by rw [hsz]; unfold maxLen; omega
  have hbytes : Maps.size D * 8 ≤ 140737488355328 := by rw [hsz]; omega
  have hseq : SeqGives Fence.wide 2 Try.prog 92 #[.pointer (some ⟨w.heap.size, 0, none⟩)] encZ (fun ss => ss.Perm (intKeys D)) (Maps.size D) (w.alloc (.cells #[.map (some b)] 89)) :=
    AnyZI.keys_gives (ρ := Try.keysL_ren) { Try.keysL with } Fence.wide _ trivial rfl (by omega) w.heap.size b N D _ (by simp) (by simp) (by
      obtain ⟨es, clock, hb, Ft, hs, hD⟩ := hown
      exact ⟨es, clock, (Below.heap_alloc _ _ b hbl).trans hb, Ft, hs, hD⟩)
  have cS := AnyZI.sorted_in Try.sortedL Fence.wide 5 trivial trivial trivial trivial rfl (by omega) (sortsL _) (enters_of Try.func91 (by kernel_rfl) rfl) 92 #[.pointer (some ⟨w.heap.size, 0, none⟩)] trivial (enters_of Try.func92 (by kernel_rfl) rfl) _ _ hmax hbytes _ hseq
  change CallsIn _ _ Try.prog 81 _ _ _ at cS
  refine ((callsIn_wide (n := 5)).1 cS).mono ?_
  rintro e w' ⟨v, ss, rfl, hS, hrow, hnil, hb⟩
  have hl : ss.length = (ss.mergeSort leI).length := (List.length_mergeSort ss).symm
  refine ⟨v, ss.mergeSort leI, rfl, asc_of hown hsz hhas hS, ?_, ((Below.refl _ w).alloc (Nat.le_refl _) _).trans (hb.mono (by simp))⟩
  rw [← hl]
  exact ownsRow_base_a hrow (by simp)

end Go.Proofs.Ytedlcmkhbccjgaa

