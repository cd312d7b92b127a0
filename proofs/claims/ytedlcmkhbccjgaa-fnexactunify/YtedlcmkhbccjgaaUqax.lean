/- Texts of RenG, Ap4, RegK. Own work of the verifier. -/
import Derived.Test.YtedlcmkhbccjgaaUqav
import Derived.Test.YtedlcmkhbccjgaaUqaw
import Derived.Test.YtedlcmkhbccjgaaUqau
import Derived.Deep.RegionHeld3
namespace Go.Proofs.Ytedlcmkhbccjgaa
end Go.Proofs.Ytedlcmkhbccjgaa

namespace Go.Proofs.Ytedlcmkhbccjgaa
open Go Go.RowKit
set_option linter.unusedVariables false

/-- What Apply answers: cells, and a code. -/
def applyR (bs : List Bnd) (cs : List Cel) : List Cel × Int :=
  if substB bs = true ∧ validB cs = true then (if (applyC bs cs).length ≤ 2000 then (applyC bs cs, 0) else ([], 3)) else ([], 1)
def ApplyOut (w : World) (bs : List Bnd) (cs : List Cel) (e : Ending) (w' : World) : Prop :=
  ∃ q m c2, e = .returned (.tuple #[.slice q m c2, .int .i64 (applyR bs cs).2]) ∧ OwnC w' w.heap.size q m c2 (applyR bs cs).1 ∧ Below w.heap.size w w'
/-- The map that Apply makes, so far. -/
structure MSt (w wr : World) (bs : List Bnd) (pb mb k : Nat) : Prop where
  low : Below w.heap.size w wr
  cell : wr.cell? ⟨pb, 0, none⟩ = some (.map (some mb))
  map : ∃ E, VMap wr mb k E ∧ BE w (bs.take k) E
  hb : w.heap.size ≤ mb
theorem subst_node (env : Env) (c : Cel) (k : Fo) : ∃ c' k', (Fo.node c k .nil).subst env = .node c' k' .nil := by
  simp only [Fo.subst]
  split
  · split
    · exact ⟨_, _, rfl⟩
    · exact ⟨_, _, rfl⟩
  · exact ⟨_, _, rfl⟩
theorem look_take {bs : List Bnd} (hup : ∀ i j, i < j → j < bs.length → (bs.getD i Bnd.zero).1 < (bs.getD j Bnd.zero).1) (k : Nat) (hk : k < bs.length) : (bs.getD k Bnd.zero).1 ∉ (bs.take k).map Prod.fst := fun h => by
  obtain ⟨b, hb, e⟩ := List.mem_map.1 h
  obtain ⟨i, hi, e2⟩ := List.getElem_of_mem hb
  have hi' : i < k := by simp at hi; omega
  have := hup i k hi' hk
  have e3 : bs.getD i Bnd.zero = b := by
    rw [← e2]
    simp [List.getD, show i < bs.length by omega]
  rw [e3, e] at this
  omega
theorem ok_bytes {bs : List Bnd} (h : ∀ i, i < bs.length → ∀ j, j < (bs.getD i Bnd.zero).2.length → Byte ((bs.getD i Bnd.zero).2.getD j Cel.none).2.2) : ∀ b ∈ bs, ∀ j, j < b.2.length → Byte (b.2.getD j Cel.none).2.2 := fun b hb j hj => by
  obtain ⟨i, hi, e⟩ := List.getElem_of_mem hb
  have := h i hi j
  rw [List.getD, List.getElem?_eq_getElem hi, Option.getD_some, e] at this
  exact this hj

set_option maxRecDepth 100000 in
set_option maxHeartbeats 2000000 in
theorem implApply_any (bs : List Bnd) (cs : List Cel) (p q : Option Addr) (n m : Nat) (w : World) (hn : n = bs.length) (hm : m = cs.length) (hbb : ∀ i, i < bs.length → ∀ j, j < (bs.getD i Bnd.zero).2.length → Byte ((bs.getD i Bnd.zero).2.getD j Cel.none).2.2) (hcb : ∀ i, i < cs.length → Byte (cs.getD i Cel.none).2.2)
    (hl : bs.length + tll (trm bs) ≤ 1048576) (hlc : cs.length ≤ 1048576) (hb : BdIn w p bs) (hti : TightBd w p bs) (hc : CIn w q cs) :
    Calls Try.prog 17 #[.slice p n n, .slice q m m] w (ApplyOut w bs cs) := by
  have HV1 := implSubst_any p n n bs w hn (by omega) hl hb
  have HV2 : Hid (∀ W, Below w.heap.size w W → Calls Try.prog 31 #[.slice q m m] W fun e w' => e = .returned (.bool (validB cs)) ∧ Below W.heap.size W w') := fun W hW => by rw [hm]; exact implValid_any q cs.length cs W (by omega) (hc.below hW)
  by_cases h1 : substB bs = true
  · rw [h1] at HV1
    by_cases h2 : validB cs = true
    · rw [h2] at HV2
      obtain ⟨env, henv⟩ := env_of bs (-1) (by simp only [substB, Bool.and_eq_true] at h1; exact h1.2) (ok_bytes hbb)
      have hup := substFrom_up bs (-1) (by simp only [substB, Bool.and_eq_true] at h1; exact h1.2)
      have hmem := substFrom_mem bs (-1) (by simp only [substB, Bool.and_eq_true] at h1; exact h1.2)
      have hlen1 : n ≤ 1000 := by simp only [substB, Bool.and_eq_true, decide_eq_true_eq] at h1; omega
      obtain ⟨c, k, ec, hok, hlk⟩ := tree_of hcb h2
      have hR : applyR bs cs = if (applyC bs cs).length ≤ 2000 then (applyC bs cs, 0) else ([], 3) := by rw [applyR, if_pos ⟨h1, h2⟩]
      have HR : Hid (applyR bs cs = if (applyC bs cs).length ≤ 2000 then (applyC bs cs, 0) else ([], 3)) := hR
      have HENV : Hid (EnvOf bs env) := henv
      have HUP : Hid _ := hup
      have HMEM : Hid _ := hmem
      have HBD : Hid (BdIn w p bs ∧ TightBd w p bs) := ⟨hb, hti⟩
      have HN : Hid (n = bs.length) := hn
      have HT : Hid (∀ W, Below w.heap.size w W → Calls Try.prog 33 #[.slice q m m] W fun e w' => ∃ v, e = .returned v ∧ FoIn w' W.heap.size (.node c k .nil) [v] ∧ Below W.heap.size W w') := fun W hW => termOf_any c k q m m W hok (by rw [hm, ec]; simp) (Nat.le_refl _) (by omega) (by have := hc.below hW; rwa [ec] at this)
      have HOK : Hid ((Fo.node c k .nil).ok ∧ cs = c :: k.cells ∧ k.cells.length ≤ 2000) := ⟨hok, ec, by rw [ec] at hlk; simp at hlk; omega⟩
      have hmm := @run_makeMap Try.prog
      clear h1 h2 hb hc hti henv hup hmem ec hok hlk hR hn hm hbb hcb
      go_enter Try.func17, Try.ntmps17
      go_wp2_with fail
      refine HV1.mono ?_
      rintro e w1 ⟨rfl, hb1⟩
      have HB1 : Hid (Below w.heap.size w w1) := hb1
      clear hb1 HV1
      go_wp2_with fail
      refine (HV2.out w1 HB1.out).mono ?_
      rintro e w2 ⟨rfl, hb2⟩
      have HB2 : Hid (Below w.heap.size w w2) := Below.on HB1.out hb2
      clear hb2
      go_wp2_with fail
      have HM0 : Hid (MSt w ((w2.alloc (Obj.map #[] 0)).alloc (Obj.cells #[Value.map (some w2.heap.size)] 66)) bs (w2.heap.size + 1) w2.heap.size 0) := by
        have hk := heap_alloc_new (w2.alloc (Obj.map #[] 0)) (Obj.cells #[Value.map (some w2.heap.size)] 66)
        rw [World.size_alloc] at hk
        exact ⟨(HB2.out.alloc HB2.out.size _).alloc (HB2.out.alloc HB2.out.size _).size _, cell_of_row _ _ 0 _ _ _ hk, ⟨[], (VMap.made w2).below ((Below.refl _ _).alloc (Nat.le_refl _) _), rfl⟩, HB2.out.size⟩
      obtain ⟨mb, emb⟩ : ∃ mb, mb = w2.heap.size := ⟨_, rfl⟩
      rw [← emb] at HM0 ⊢
      clear emb
      go_loopw [21] (fun i wr => ∃ (j : Nat), j ≤ n ∧ i = .int .i64 j ∧ wr.cell? ⟨mb + 1, 0, none⟩ = some (.map (some mb)) ∧ Hid (MSt w wr bs (mb + 1) mb j)) (fun i _ => n - (intOf i).toNat)
      case atStart => exact ⟨0, Nat.zero_le _, rfl, HM0.out.cell, HM0⟩
      case round =>
        obtain ⟨j, hj, rfl, hcell, HM⟩ := hrel
        by_cases hlt : j < n
        · have hjl : j < bs.length := by rw [← HN.out]; exact hlt
          obtain ⟨b, o, rfl, hcs⟩ := (HBD.out.1.below HM.out.low) (by omega)
          obtain ⟨q1, c1, d0, d1, d2⟩ := hcs j hjl
          obtain ⟨q2, d1'⟩ := (HBD.out.2.below HM.out.low) b o rfl j hjl
          have hqq : q1 = q2 ∧ c1 = (bs.getD j Bnd.zero).2.length := by rw [d1] at d1'; cases d1'; exact ⟨rfl, rfl⟩
          obtain ⟨rfl, rfl⟩ := hqq
          obtain ⟨b0, o0, e0, hcs0⟩ := HBD.out.1 (by omega)
          have hcin : CIn w q1 (bs.getD j Bnd.zero).2 := by
            cases e0
            obtain ⟨q3, c3, _, f1, f2⟩ := hcs0 j hjl
            have := (HM.out.low.cell (World.block_lt_of_cell? _ _ f1)).trans f1
            rw [this] at d1
            cases d1
            exact f2
          obtain ⟨E, hvm, hbe⟩ := HM.out.map
          have hmemj := HMEM.out (bs.getD j Bnd.zero) (by simp [List.getD, hjl])
          obtain ⟨w4, hrun, hvm4, hg4⟩ := (hvm.below ((Below.refl wr.heap.size wr).alloc (Nat.le_refl _) (.cells #[.int .i64 (bs.getD j Bnd.zero).1, .slice q1 (bs.getD j Bnd.zero).2.length (bs.getD j Bnd.zero).2.length] 63))).put (t := 66) Try.underlying66 (by omega) (bs.getD j Bnd.zero).1 (by omega) hmemj.2.1 (.slice q1 (bs.getD j Bnd.zero).2.length (bs.getD j Bnd.zero).2.length)
          have hnone : look E (bs.getD j Bnd.zero).1 = none := (look_none E _).2 (by rw [BE.keys _ _ hbe]; exact look_take HUP.out j hjl)
          rw [putE_new _ hnone] at hvm4
          have htk : bs.take (j + 1) = bs.take j ++ [bs.getD j Bnd.zero] := by rw [List.take_succ_eq_append_getElem hjl]; simp [List.getD, hjl]
          have hpbl : mb + 1 < wr.heap.size := World.block_lt_of_cell? _ _ hcell
          have HM4 : Hid (MSt w w4 bs (mb + 1) mb (j + 1)) := by
            have hlow := HM.out.low.alloc HM.out.low.size (.cells #[.int .i64 (bs.getD j Bnd.zero).1, .slice q1 (bs.getD j Bnd.zero).2.length (bs.getD j Bnd.zero).2.length] 63)
            refine ⟨hlow.grown hg4 hlow.size (fun k e => by cases e; exact HM.out.hb), ?_, ⟨_, hvm4, by rw [htk]; exact BE.snoc hcin _ _ hbe⟩, HM.out.hb⟩
            rw [World.cell?_of_block (a := ⟨mb + 1, 0, none⟩) (hg4.block (mb + 1) (by simp; omega) (fun e => by have := Option.some.inj e; omega))]
            exact Lib.cell?_alloc_marked _ hcell
          have hcell2 : (wr.alloc (.cells #[.int .i64 (bs.getD j Bnd.zero).1, .slice q1 (bs.getD j Bnd.zero).2.length (bs.getD j Bnd.zero).2.length] 63)).cell? ⟨mb + 1, 0, none⟩ = some (.map (some mb)) := Lib.cell?_alloc_marked _ hcell
          obtain ⟨L, eL⟩ : ∃ L, L = (bs.getD j Bnd.zero).2.length := ⟨_, rfl⟩
          obtain ⟨vv, evv⟩ : ∃ L, L = (bs.getD j Bnd.zero).1 := ⟨_, rfl⟩
          rw [← eL] at d1 hrun hcell2
          rw [← evv] at d0 hrun hcell2
          clear e0 hcs hcs0 d1' d2 hvm hbe hmemj hvm4 hg4 hnone htk hcin eL evv
          go_wp2_with fail
          go_roundw
          case rel => exact ⟨j + 1, by omega, by go_num, HM4.out.cell, HM4⟩
          case measure => simp [intOf]; omega
        · obtain rfl : j = n := by omega
          have HAS : Hid (ASt w bs (mb + 1) mb wr) := by
            obtain ⟨E, h1, h2⟩ := HM.out.map
            rw [List.take_of_length_le (by rw [← HN.out]; exact Nat.le_refl _)] at h2
            exact ⟨HM.out.low, HM.out.cell, ⟨_, E, h1, h2⟩⟩
          go_wp2_with fail
          refine (HT.out wr HAS.out.low).mono ?_
          rintro e w5 ⟨v5, rfl, hf5, hb5⟩
          have HAS5 : Hid (ASt w bs (mb + 1) mb w5) := HAS.out.below hb5
          have HF5 : Hid (FoIn w5 wr.heap.size (.node c k .nil) [v5]) := hf5
          have HZ := sizeWith_any w bs env HENV.out (mb + 1) mb c k v5 wr.heap.size w5 HOK.out.1 hf5 HOK.out.2.2 HAS5.out
          have hsz := szC_len HENV.out (c :: k.cells)
          rw [hsz] at HZ
          have HCE : Hid (applyC bs (c :: k.cells) = applyC bs cs) := by show _ = _; rw [HOK.out.2.1]
          rw [HCE.out] at HZ
          obtain ⟨t5, y5, rfl⟩ := hf5.iface
          clear hf5 hb5 hsz hcell
          by_cases hlim : (applyC bs cs).length ≤ 2000
          · have hmin : min (applyC bs cs).length 2001 = (applyC bs cs).length := by omega
            rw [hmin] at HZ
            have HRR : Hid (applyR bs cs = (applyC bs cs, 0)) := by show _ = _; rw [HR.out, if_pos hlim]
            obtain ⟨z, ez⟩ : ∃ z, z = (applyC bs cs).length := ⟨_, rfl⟩
            have HEZ : Hid (z = (applyC bs cs).length) := ez
            rw [← ez] at HZ hlim
            clear hmin ez
            go_wp2_with fail
            refine HZ.mono ?_
            rintro e w6 ⟨rfl, hb6⟩
            have HAS6 : Hid (ASt w bs (mb + 1) mb w6) := HAS5.out.below hb6
            have HRP := replaceS_any w bs env HENV.out (mb + 1) mb k.cells.length c k (.iface t5 y5) wr.heap.size w5 w6 (Nat.le_refl _) HOK.out.1 HF5.out hb6 HAS6.out (by have := HOK.out.2.2; omega)
            clear hb6 HZ
            go_wp2_with fail
            refine HRP.mono ?_
            rintro e w7 ⟨v7, rfl, hf7, hb7⟩
            obtain ⟨c', k', hsn⟩ := subst_node env c k
            have hcell := Fo.cells_subst HENV.out (.node c k .nil) HOK.out.1
            have hok7 := Fo.ok_subst (fun y hy => (HENV.out.2 y hy).1) (.node c k .nil) HOK.out.1
            rw [hsn] at hf7 hcell hok7
            have hcc : c' :: k'.cells = applyC bs cs := by
              have h2 : (Fo.node c k .nil).cells = c :: k.cells := by simp [Fo.cells]
              rw [h2, HCE.out] at hcell
              rw [← hcell]; simp [Fo.cells]
            have HCO := cellsOf_any c' k' v7 w6.heap.size w7 hok7 hf7 (by have h3 := congrArg List.length hcc; have h4 := HEZ.out; rw [List.length_cons] at h3; omega)
            rw [hcc] at HCO
            have HB7 : Hid (Below w.heap.size w w7) := Below.on HAS6.out.low hb7
            obtain ⟨t7, y7, rfl⟩ := hf7.iface
            clear hf7 hb7 hsn hcell hok7 hcc HRP
            go_wp2_with fail
            refine HCO.mono ?_
            rintro e w8 ⟨p8, n8, c8, rfl, ho8, hb8⟩
            have HFIN : Hid (ApplyOut w bs cs (.returned (.tuple #[.slice p8 n8 c8, .int .i64 0])) w8) := by
              unfold ApplyOut Hid
              rw [HRR.out]
              exact ⟨p8, n8, c8, rfl, ho8.mono HB7.out.size, Below.on HB7.out hb8⟩
            clear ho8 hb8 HCO
            go_wp2_with fail
            go_ret2
            exact HFIN.out
          · have hmin : min (applyC bs cs).length 2001 = 2001 := by omega
            rw [hmin] at HZ
            have HRR : Hid (applyR bs cs = ([], 3)) := by show _ = _; rw [HR.out, if_neg hlim]
            clear hmin hlim
            go_wp2_with fail
            refine HZ.mono ?_
            rintro e w6 ⟨rfl, hb6⟩
            have HFIN : Hid (ApplyOut w bs cs (.returned (.tuple #[.slice none 0 0, .int .i64 3])) w6) := by
              unfold ApplyOut Hid
              rw [HRR.out]
              exact ⟨_, _, _, rfl, OwnC.nil _ _, Below.on HAS5.out.low hb6⟩
            clear hb6 HZ
            go_wp2_with fail
            go_ret2
            exact HFIN.out
    · have h2' : validB cs = false := by simpa using h2
      rw [h2'] at HV2
      have HFIN : Hid (∀ w', Below w.heap.size w w' → ApplyOut w bs cs (.returned (.tuple #[.slice none 0 0, .int .i64 1])) w') := fun w' hb => by
        unfold ApplyOut
        rw [applyR, if_neg (fun h => h2 h.2)]
        exact ⟨_, _, _, rfl, OwnC.nil _ _, hb⟩
      clear h1 h2 h2' hb hc hti hn hm hbb hcb
      go_enter Try.func17, Try.ntmps17
      go_wp2_with fail
      refine HV1.mono ?_
      rintro e w1 ⟨rfl, hb1⟩
      have HB1 : Hid (Below w.heap.size w w1) := hb1
      clear hb1 HV1
      go_wp2_with fail
      refine (HV2.out w1 HB1.out).mono ?_
      rintro e w2 ⟨rfl, hb2⟩
      have HB2 : Hid (Below w.heap.size w w2) := Below.on HB1.out hb2
      clear hb2
      go_wp2_with fail
      go_ret2
      exact HFIN.out _ HB2.out
  · have h1' : substB bs = false := by simpa using h1
    rw [h1'] at HV1
    have HFIN : Hid (∀ w', Below w.heap.size w w' → ApplyOut w bs cs (.returned (.tuple #[.slice none 0 0, .int .i64 1])) w') := fun w' hb => by
      unfold ApplyOut
      rw [applyR, if_neg (fun h => h1 h.1)]
      exact ⟨_, _, _, rfl, OwnC.nil _ _, hb⟩
    clear h1 h1' hb hc hti hn hm hbb hcb
    go_enter Try.func17, Try.ntmps17
    go_wp2_with fail
    refine HV1.mono ?_
    rintro e w1 ⟨rfl, hb1⟩
    go_wp2_with fail
    go_ret2
    exact HFIN.out _ hb1

end Go.Proofs.Ytedlcmkhbccjgaa

namespace Go.Proofs.Ytedlcmkhbccjgaa
open Go
section
variable {P : Program} {ops : Array Oper} {Q : Exit → Act → World → Prop} {md : Region.Mode} {S : World → Prop}

theorem hTake {i : Nat} {v : Value} {fuel : Nat} {listed : Array Bool} {a : Act} {w : World} (d : Option Tmp) (hd : (ops[i]?).map (·.dst) = some d)
    (hs : Region.noSelect ops = true) (hf : Region.free md ops listed i = true) (hr : (Region.ready md ops listed).contains i = true) (hw : (ops[i]?).map (fun o => Region.wanted o (yielded ops a.tmps)) = some true)
    (hQ : ∀ c a w, Q (.panic c) (a.put d v) w → Q (.panic c) a w) (hrun : ∀ o, ops[i]? = some o → ∀ w, S w → (execOp a.eval o).run P w = .ok (.value v) w) (hS : S w)
    (h : wpAnyH P md ops Q S fuel (listed.setIfInBounds i true) (a.put d v) w) : wpAnyH P md ops Q S (fuel + 1) listed a w := by
  cases hi : ops[i]? with
  | none => simp [hi] at hd
  | some o =>
    have hd' : o.dst = d := by simpa [hi] using hd
    have hw' : Region.wanted o (yielded ops a.tmps) = true := by simpa [hi] using hw
    subst hd'
    exact wpAnyH_take hi hs hf hr hQ (.inl ⟨hw', hrun o hi⟩) hS h
theorem hSkip {i : Nat} {fuel : Nat} {listed : Array Bool} {a : Act} {w : World} (d : Option Tmp) (hd : (ops[i]?).map (·.dst) = some d)
    (hs : Region.noSelect ops = true) (hf : Region.free md ops listed i = true) (hr : (Region.ready md ops listed).contains i = true) (hw : (ops[i]?).map (fun o => Region.wanted o (yielded ops a.tmps)) = some false)
    (hQ : ∀ c a w, Q (.panic c) (a.put d undef) w → Q (.panic c) a w) (hS : S w)
    (h : wpAnyH P md ops Q S fuel (listed.setIfInBounds i true) (a.put d undef) w) : wpAnyH P md ops Q S (fuel + 1) listed a w := by
  cases hi : ops[i]? with
  | none => simp [hi] at hd
  | some o =>
    have hd' : o.dst = d := by simpa [hi] using hd
    have hw' : Region.wanted o (yielded ops a.tmps) = false := by simpa [hi] using hw
    subst hd'
    exact wpAnyH_take hi hs hf hr hQ (.inr ⟨hw', rfl⟩) hS h
theorem hCall {i : Nat} {f : FuncId} {args : Array Value} {v : Value} {T : World → Prop} {fuel : Nat} {listed : Array Bool} {a : Act} {w : World} (d : Option Tmp) (hd : (ops[i]?).map (·.dst) = some d)
    (hr : Region.ready md ops listed = [i]) (hw : (ops[i]?).map (fun o => Region.wanted o (yielded ops a.tmps)) = some true)
    (hrun : ∀ o, ops[i]? = some o → (execOp a.eval o).run P w = .ok (.enter f args) w) (hC : Calls P f args w fun e w' => e = .returned v ∧ T w')
    (hK : ∀ w', T w' → S w' ∧ wpAnyH P md ops Q S fuel (listed.setIfInBounds i true) (a.put d v) w') : wpAnyH P md ops Q S (fuel + 1) listed a w := by
  refine wpAnyH_all hr (by simp) ?_
  intro j hj
  obtain rfl : j = i := by simpa using hj
  cases hi : ops[j]? with
  | none => simp [hi] at hd
  | some o =>
    have hd' : o.dst = d := by simpa [hi] using hd
    have hw' : Region.wanted o (yielded ops a.tmps) = true := by simpa [hi] using hw
    subst hd'
    unfold wpOp
    simp only [hi, hw', if_true, Oper.wp, hrun o hi, Oper.upon]
    refine .inl (hC.mono fun e w'' he => ?_)
    obtain ⟨rfl, ht⟩ := he
    exact hK _ ht
end
end Go.Proofs.Ytedlcmkhbccjgaa

