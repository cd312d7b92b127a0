/- Texts of VpH, Cmp0, VtP, SmA, IsG. Own work of the verifier. -/
import Derived.Test.YtfgaenggbbgboaaGreatDoorUqat
import Derived.Test.YtfgaenggbbgboaaGreatDoorUqac
import Derived.Test.YtfgaenggbbgboaaGreatDoorUqad
import Derived.Test.YtfgaenggbbgboaaGreatDoorUqae
import Derived.Test.YtfgaenggbbgboaaGreatDoorUqai
import Derived.Test.YtfgaenggbbgboaaGreatDoorUqal
namespace Go.Proofs.YtfgaenggbbgboaaGreatDoor
open Go Go.RowKit Go.Maps Go.ChangeMaps
set_option linter.unusedVariables false
set_option linter.unusedSimpArgs false
def PTt (w : World) (p : Option Addr) (ps : List Prd) : Prop :=
  0 < ps.length → ∃ b o, p = some ⟨b, o, none⟩ ∧ ∀ i, i < ps.length → ∃ q r, w.cell? ⟨b, o + i * 4, none⟩ = some (.slice q (ps.getD i Prd.zero).1.length (ps.getD i Prd.zero).1.length) ∧ w.cell? ⟨b, o + i * 4 + 1, none⟩ = some (.int .i64 (ps.getD i Prd.zero).2.1) ∧ w.cell? ⟨b, o + i * 4 + 2, none⟩ = some (.bool (ps.getD i Prd.zero).2.2.1) ∧
    w.cell? ⟨b, o + i * 4 + 3, none⟩ = some (.slice r (ps.getD i Prd.zero).2.2.2.length (ps.getD i Prd.zero).2.2.2.length) ∧ BIn w q (ps.getD i Prd.zero).1 ∧ CCT w r (ps.getD i Prd.zero).2.2.2
theorem PTt.below {W W' : World} {p : Option Addr} {ps : List Prd} (h : PTt W p ps) (hb : Below W.heap.size W W') : PTt W' p ps := fun hn => by
  obtain ⟨b, o, rfl, hc⟩ := h hn
  refine ⟨b, o, rfl, fun i hi => ?_⟩
  obtain ⟨q, r, h0, h1, h2, h3, h4, h5⟩ := hc i hi
  exact ⟨q, r, (hb.cell (World.block_lt_of_cell? _ _ h0)).trans h0, (hb.cell (World.block_lt_of_cell? _ _ h1)).trans h1, (hb.cell (World.block_lt_of_cell? _ _ h2)).trans h2, (hb.cell (World.block_lt_of_cell? _ _ h3)).trans h3, h4.below hb, h5.below hb⟩
theorem PTt.pin {W : World} {p : Option Addr} {ps : List Prd} (h : PTt W p ps) : PIn W p ps := fun hn => by
  obtain ⟨b, o, rfl, hc⟩ := h hn
  refine ⟨b, o, rfl, fun i hi => ?_⟩
  obtain ⟨q, r, h0, h1, h2, h3, h4, h5⟩ := hc i hi
  exact ⟨q, _, r, _, h0, h1, h2, h3, h4, h5.1⟩
theorem PLaid.ptt {W : World} {T : Nat} {ps : List Prd} (h : PLaid W T ps) : PTt W (some ⟨T, 0, none⟩) ps := fun _ => by
  refine ⟨T, 0, rfl, fun i hi => ?_⟩
  obtain ⟨q, r, h0, h1, h2, h3, h4⟩ := h.2 i hi
  obtain ⟨U, hc⟩ := h4.cl
  exact ⟨q, r, by rw [Nat.zero_add]; exact h0, by rw [Nat.zero_add]; exact h1, by rw [Nat.zero_add]; exact h2, by rw [Nat.zero_add]; exact h3, h4.nm.bin, hc.ccin, h4.ti⟩
def POk (ps : List Prd) : Prop := ∀ i, i < ps.length → Byte (ps.getD i Prd.zero).1 ∧ (Lit.int .i64 (ps.getD i Prd.zero).2.1).wf = true ∧ CCok (ps.getD i Prd.zero).2.2.2
def fnF (q : Prd) : Fun := (strOfNums q.1, q.2.1)
noncomputable def tN (ps : List Prd) (k : Nat) (f : Fun) : Option Value := by classical exact if f ∈ (ps.take k).map fnF then some (.int .i64 1) else none
theorem take_at {ps : List Prd} {k : Nat} (h : k < ps.length) : ps.take (k + 1) = ps.take k ++ [ps.getD k Prd.zero] := by
  rw [List.take_succ_eq_append_getElem h, List.getD, List.getElem?_eq_getElem h]; rfl
theorem tN_yes {ps : List Prd} {k : Nat} {f : Fun} (h : f ∈ (ps.take k).map fnF) : tN ps k f = some (.int .i64 1) := by unfold tN; simp only [h, if_true]
theorem tN_no {ps : List Prd} {k : Nat} {f : Fun} (h : ¬ f ∈ (ps.take k).map fnF) : tN ps k f = none := by unfold tN; simp only [h, if_false]
theorem tN_next {ps : List Prd} {k : Nat} (h : k < ps.length) : (fun g => if g = fnF (ps.getD k Prd.zero) then some (Value.int .i64 1) else tN ps k g) = tN ps (k + 1) := by
  funext g
  by_cases e : g = fnF (ps.getD k Prd.zero)
  · rw [if_pos e, tN_yes (by rw [take_at h, List.map_append, List.mem_append]; right; simp [e])]
  · rw [if_neg e]
    by_cases e2 : g ∈ (ps.take k).map fnF
    · rw [tN_yes e2, tN_yes (by rw [take_at h, List.map_append, List.mem_append]; exact .inl e2)]
    · rw [tN_no e2, tN_no (by rw [take_at h, List.map_append, List.mem_append]; rintro (h9 | h9); exact e2 h9; exact e (by simpa using h9))]
theorem fnF_mem {ps : List Prd} {k : Nat} (hok : POk ps) (h : k < ps.length) : fnF (ps.getD k Prd.zero) ∈ (ps.take k).map fnF ↔ nmF (ps.getD k Prd.zero) ∈ (ps.take k).map nmF := by
  constructor
  · intro hm
    obtain ⟨q, hq, e⟩ := List.mem_map.1 hm
    refine List.mem_map.2 ⟨q, hq, ?_⟩
    obtain ⟨i, hi, rfl⟩ := List.getElem_of_mem hq
    have hi' : i < ps.length := by simp at hi; omega
    have hb : Byte ps[i].1 := by
      have h9 := (hok i hi').1
      rw [List.getD, List.getElem?_eq_getElem hi'] at h9
      exact h9
    have e1 : (ps.take k)[i] = ps[i] := List.getElem_take
    rw [e1] at e ⊢
    unfold fnF at e
    simp only [Prod.mk.injEq] at e
    unfold nmF
    rw [str_ne hb (hok k h).1 e.1, e.2]
  · intro hm
    obtain ⟨q, hq, e⟩ := List.mem_map.1 hm
    refine List.mem_map.2 ⟨q, hq, ?_⟩
    unfold nmF at e
    simp only [Prod.mk.injEq] at e
    unfold fnF
    rw [e.1, e.2]
theorem nodup_next {ps : List Prd} {k : Nat} (h : k < ps.length) : ((ps.take (k + 1)).map nmF).Nodup ↔ ((ps.take k).map nmF).Nodup ∧ ¬ nmF (ps.getD k Prd.zero) ∈ (ps.take k).map nmF := by
  rw [take_at h, List.map_append, List.nodup_append]
  constructor
  · rintro ⟨h1, _, h3⟩
    exact ⟨h1, fun h9 => h3 _ h9 _ (by simp) rfl⟩
  · rintro ⟨h1, h2⟩
    exact ⟨h1, by simp, fun a ha b hb e => h2 (by have : b = nmF (ps.getD k Prd.zero) := by simpa using hb
                                                  rw [← this, ← e]; exact ha)⟩
theorem nodup_take {ps : List Prd} {k : Nat} (h : (ps.map nmF).Nodup) : ((ps.take k).map nmF).Nodup := by
  rw [List.map_take]
  exact h.sublist (List.take_sublist _ _)
theorem vp_dup {ps : List Prd} {gs : List (List Cel)} {k : Nat} (h : k < ps.length) (hm : nmF (ps.getD k Prd.zero) ∈ (ps.take k).map nmF) : vpB ps gs = false :=
  vpB_no (fun h9 => ((nodup_next h).1 (nodup_take (k := k + 1) h9.2.2.1)).2 hm)
theorem vp_bad {ps : List Prd} {gs : List (List Cel)} {k : Nat} (h : k < ps.length) (hm : prB (ps.getD k Prd.zero) = false) : vpB ps gs = false :=
  vpB_no (fun h9 => by
    have h8 := List.all_eq_true.1 h9.2.2.2.1 (ps.getD k Prd.zero) (by rw [List.getD, List.getElem?_eq_getElem h]; exact List.getElem_mem h)
    rw [hm] at h8
    cases h8)
theorem prB_can (q : Prd) : prB q = (canN q.1 q.2.1 && q.2.2.2.all (clB q.1 q.2.1)) := by
  unfold prB canN
  cases decide (q.1.length ≤ 100) <;> cases decide (0 ≤ q.2.1) <;> cases decide (q.2.1 ≤ 20) <;> cases resvB q.1 q.2.1 <;> simp
set_option maxRecDepth 100000 in
set_option maxHeartbeats 8000000 in
theorem implVP_any (ps : List Prd) (gs : List (List Cel)) (p : Option Addr) (np cp : Nat) (g : Option Addr) (ng cg : Nat) (a a2 : Addr) (w : World) (hnp : np = ps.length) (hng : ng = gs.length) (hsz : szPr ps gs ≤ 1048576) (hok : POk ps) (hgok : CCok gs) (hp : PTt w p ps) (hg : CCT w g gs) (he : ErrAt w a a2) :
    Calls Tryz.prog 7 #[.agg #[.slice p np cp, .slice g ng cg]] w fun e w' => e = .returned (.bool (vpB ps gs)) ∧ Below w.heap.size w w' := by
  unfold szPr at hsz
  have hmm := @run_makeMap Tryz.prog
  obtain ⟨bx, ebx⟩ : ∃ bx : Obj, bx = .cells #[.slice p np cp, .slice g ng cg] 31 := ⟨_, rfl⟩
  have HAL : Hid (Below w.heap.size w (w.alloc bx)) := (Below.refl _ _).alloc (Nat.le_refl _) _
  have HBX : Hid (∀ W, Below (w.alloc bx).heap.size (w.alloc bx) W → W.cell? ⟨w.heap.size, 0, none⟩ = some (.slice p np cp) ∧ W.cell? ⟨w.heap.size, 1, none⟩ = some (.slice g ng cg) ∧ Below w.heap.size w W) := fun W hW => by
    have hk : W.heap[w.heap.size]? = some bx := (hW.block w.heap.size (by simp)).trans (heap_alloc_new w _)
    rw [ebx] at hk
    exact ⟨(two_cells hk).1, (two_cells hk).2.1, Below.on HAL.out hW⟩
  have HEB : Hid (bx = .cells #[.slice p np cp, .slice g ng cg] 31) := ebx
  have HP : Hid (PTt w p ps ∧ CCT w g gs ∧ ErrAt w a a2 ∧ POk ps ∧ CCok gs ∧ np = ps.length ∧ ng = gs.length ∧ (ps.length + szPs ps) + (gs.length + tll gs) ≤ 1048576) := ⟨hp, hg, he, hok, hgok, hnp, hng, hsz⟩
  have hnb : np ≤ 1048576 := by omega
  have hgb : ng ≤ 1048576 := by omega
  obtain ⟨R, eR⟩ : ∃ R, R = vpB ps gs := ⟨_, rfl⟩
  have HR : Hid (R = vpB ps gs) := eR
  rw [← eR]
  obtain ⟨Wd, eD⟩ : ∃ Wd, Wd = World.drew (w.alloc bx) := ⟨_, rfl⟩
  have HAd : Hid (Below (w.alloc bx).heap.size (w.alloc bx) Wd) := by show Below _ _ _; rw [eD]; exact (Below.refl _ _).drew
  have HDe : Hid (World.drew (w.alloc bx) = Wd) := eD.symm
  have hSd := (HBX.out Wd HAd.out)
  have HSd : Hid (Wd.cell? ⟨w.heap.size, 0, none⟩ = some (.slice p np cp) ∧ Wd.cell? ⟨w.heap.size, 1, none⟩ = some (.slice g ng cg)) := ⟨hSd.1, hSd.2.1⟩
  have HCC := countCl_any ps p np cp g ng cg Wd hnp (by omega) ((hp.below hSd.2.2).pin)
  have hcb : cntP ps ≤ 1048576 := by have := cntP_sz ps; omega
  obtain ⟨m, em⟩ : ∃ m, m = cntP ps := ⟨_, rfl⟩
  rw [← em] at HCC hcb
  have HM : Hid (m = cntP ps) := em
  clear hnp hng hsz hok hgok hp hg he ebx eR eD hSd em
  by_cases h300 : np ≤ 300
  · have h300' : ((300 : Int) < (np : Int)) = False := by simp; omega
    have h300b : decide ((300 : Int) < (np : Int)) = false := by simp; omega
    go_enter Tryz.func7, Tryz.ntmps7
    go_wp2_with fail
    rw [← HEB.out]
    refine wp_region_held_drew (S := (fun W => W.cell? ⟨w.heap.size, 0, none⟩ = some (.slice p np cp) ∧ W.cell? ⟨w.heap.size, 1, none⟩ = some (.slice g ng cg))) (by kernel_rfl) ?_ (fun hHeld => ?_)
    · rw [HDe.out]; exact HSd.out
    rw [HDe.out]
    have hS0 := HSd.out
    refine hTake (i := 0) (v := .pointer (some ⟨w.heap.size, 0, none⟩)) (some 7) (by kernel_rfl) (by kernel_rfl) (by kernel_rfl) (by kernel_rfl) (by kernel_rfl) (fun _ _ _ h => h) (fun o ho W hSw => ?y0) (by assumption) ?_
    case y0 =>
      cases ho
      simp [execOp, go_sem, Act.eval]
    simp only [Act.put, List.setIfInBounds_toArray, List.set_cons_zero, List.set_cons_succ]
    refine hTake (i := 1) (v := .slice p np cp) (some 8) (by kernel_rfl) (by kernel_rfl) (by kernel_rfl) (by kernel_rfl) (by kernel_rfl) (fun _ _ _ h => h) (fun o ho W hSw => ?y1) (by assumption) ?_
    case y1 =>
      cases ho
      obtain ⟨k0, k1⟩ := hSw
      simp [execOp, go_sem, Act.eval, k0]
    simp only [Act.put, List.setIfInBounds_toArray, List.set_cons_zero, List.set_cons_succ]
    refine hTake (i := 2) (v := .int .i64 np) (some 9) (by kernel_rfl) (by kernel_rfl) (by kernel_rfl) (by kernel_rfl) (by kernel_rfl) (fun _ _ _ h => h) (fun o ho W hSw => ?y2) (by assumption) ?_
    case y2 =>
      cases ho
      simp [execOp, go_sem, Act.eval]
    simp only [Act.put, List.setIfInBounds_toArray, List.set_cons_zero, List.set_cons_succ]
    refine hTake (i := 3) (v := .bool false) (some 10) (by kernel_rfl) (by kernel_rfl) (by kernel_rfl) (by kernel_rfl) (by kernel_rfl) (fun _ _ _ h => h) (fun o ho W hSw => ?y3) (by assumption) ?_
    case y3 =>
      cases ho
      simp [execOp, go_sem, Act.eval, h300b]
    simp only [Act.put, List.setIfInBounds_toArray, List.set_cons_zero, List.set_cons_succ]
    refine hTake (i := 4) (v := .bool false) (some 11) (by kernel_rfl) (by kernel_rfl) (by kernel_rfl) (by kernel_rfl) (by kernel_rfl) (fun _ _ _ h => h) (fun o ho W hSw => ?y4) (by assumption) ?_
    case y4 =>
      cases ho
      simp [execOp, go_sem, Act.eval]
    simp only [Act.put, List.setIfInBounds_toArray, List.set_cons_zero, List.set_cons_succ]
    refine hTake (i := 5) (v := .agg #[.slice p np cp, .slice g ng cg]) (some 12) (by kernel_rfl) (by kernel_rfl) (by kernel_rfl) (by kernel_rfl) (by kernel_rfl) (fun _ _ _ h => h) (fun o ho W hSw => ?y5) (by assumption) ?_
    case y5 =>
      cases ho
      obtain ⟨k0, k1⟩ := hSw
      simp [execOp, go_sem, Act.eval, k0, k1]
    simp only [Act.put, List.setIfInBounds_toArray, List.set_cons_zero, List.set_cons_succ]
    refine hTake (i := 7) (v := .pointer (some ⟨w.heap.size, 1, none⟩)) (some 14) (by kernel_rfl) (by kernel_rfl) (by kernel_rfl) (by kernel_rfl) (by kernel_rfl) (fun _ _ _ h => h) (fun o ho W hSw => ?y6) (by assumption) ?_
    case y6 =>
      cases ho
      simp [execOp, go_sem, Act.eval]
    simp only [Act.put, List.setIfInBounds_toArray, List.set_cons_zero, List.set_cons_succ]
    refine hTake (i := 8) (v := .slice g ng cg) (some 15) (by kernel_rfl) (by kernel_rfl) (by kernel_rfl) (by kernel_rfl) (by kernel_rfl) (fun _ _ _ h => h) (fun o ho W hSw => ?y7) (by assumption) ?_
    case y7 =>
      cases ho
      obtain ⟨k0, k1⟩ := hSw
      simp [execOp, go_sem, Act.eval, k1]
    simp only [Act.put, List.setIfInBounds_toArray, List.set_cons_zero, List.set_cons_succ]
    refine hTake (i := 9) (v := .int .i64 ng) (some 16) (by kernel_rfl) (by kernel_rfl) (by kernel_rfl) (by kernel_rfl) (by kernel_rfl) (fun _ _ _ h => h) (fun o ho W hSw => ?y8) (by assumption) ?_
    case y8 =>
      cases ho
      simp [execOp, go_sem, Act.eval]
    simp only [Act.put, List.setIfInBounds_toArray, List.set_cons_zero, List.set_cons_succ]
    refine hCallE (i := 6) (f := 18) (args := #[.agg #[.slice p np cp, .slice g ng cg]]) (some 13) (by kernel_rfl) (by kernel_rfl) (by kernel_rfl) (fun o ho => ?c9) HCC ?k9 (fun ch w' hh => by cases hh.1) (fun w' hh => by cases hh.1)
    case c9 =>
      cases ho
      simp [execOp, go_sem, Act.eval]
    case k9 =>
      rintro u w1 ⟨hu, hb1⟩
      injection hu with hu
      subst hu
      have HA1 : Hid (Below (w.alloc bx).heap.size (w.alloc bx) w1) := Below.on HAd.out hb1
      have hS1 : w1.cell? ⟨w.heap.size, 0, none⟩ = some (.slice p np cp) ∧ w1.cell? ⟨w.heap.size, 1, none⟩ = some (.slice g ng cg) := ⟨(HBX.out w1 HA1.out).1, (HBX.out w1 HA1.out).2.1⟩
      refine ⟨hS1, ?_⟩
      clear hb1 HCC hS0
      simp only [Act.put, List.setIfInBounds_toArray, List.set_cons_zero, List.set_cons_succ]
      have hadd : IntKind.i64.wrap ((m : Int) + (ng : Int)) = (m : Int) + (ng : Int) := by rw [IntKind.wrap_i64]; omega
      refine hTake (i := 10) (v := .int .i64 ((m : Int) + (ng : Int))) (some 17) (by kernel_rfl) (by kernel_rfl) (by kernel_rfl) (by kernel_rfl) (by kernel_rfl) (fun _ _ _ h => h) (fun o ho W hSw => ?y10) (by assumption) ?_
      case y10 =>
        cases ho
        simp [execOp, go_sem, Act.eval, hadd]
      simp only [Act.put, List.setIfInBounds_toArray, List.set_cons_zero, List.set_cons_succ]
      by_cases h500 : m + ng ≤ 500
      · have h500b : decide ((500 : Int) < ((m + ng : Nat) : Int)) = false := by simp; omega
        refine hTake (i := 11) (v := .bool false) (some 18) (by kernel_rfl) (by kernel_rfl) (by kernel_rfl) (by kernel_rfl) (by kernel_rfl) (fun _ _ _ h => h) (fun o ho W hSw => ?y11) (by assumption) ?_
        case y11 =>
          cases ho
          simp [execOp, go_sem, Act.eval]; omega
        simp only [Act.put, List.setIfInBounds_toArray, List.set_cons_zero, List.set_cons_succ]
        refine hTake (i := 12) (v := .bool false) (some 19) (by kernel_rfl) (by kernel_rfl) (by kernel_rfl) (by kernel_rfl) (by kernel_rfl) (fun _ _ _ h => h) (fun o ho W hSw => ?y12) (by assumption) ?_
        case y12 =>
          cases ho
          simp [execOp, go_sem, Act.eval]
        simp only [Act.put, List.setIfInBounds_toArray, List.set_cons_zero, List.set_cons_succ]
        refine wpAnyH_done (by kernel_rfl) ?_ _
        change Exit.then _ _ _ _ w1
        obtain ⟨c0, c1⟩ := hS1
        have HBw : Hid (Below w.heap.size w w1) := (HBX.out _ HA1.out).2.2
        have HP1 : Hid (PTt w1 p ps ∧ CCT w1 g gs ∧ ErrAt w1 a a2) := ⟨HP.out.1.below HBw.out, HP.out.2.1.below HBw.out, HP.out.2.2.1.below HBw.out⟩
        have HC1 : Hid (w1.cell? ⟨w.heap.size, 0, none⟩ = some (.slice p np cp) ∧ w1.cell? ⟨w.heap.size, 1, none⟩ = some (.slice g ng cg)) := ⟨c0, c1⟩
        have HMG : Hid (cntP ps + gs.length ≤ 500) := by have := HM.out; have := HP.out; show _ ≤ _; omega
        have HNM : Hid (NmIn (w1.alloc (.map #[] 0)) w1.heap.size 0 (tN ps 0)) := by
          have h0 : tN ps 0 = fun _ => none := by funext f; exact tN_no (by simp)
          show NmIn _ _ _ _
          rw [h0]
          exact NmIn.made w1
        have hBm : Below w1.heap.size w1 (w1.alloc (.map #[] 0)) := (Below.refl _ _).alloc (Nat.le_refl _) _
        have c0m := (hBm.cell (World.block_lt_of_cell? _ _ c0)).trans c0
        have c1m := (hBm.cell (World.block_lt_of_cell? _ _ c1)).trans c1
        clear hHeld HSd HDe HAd h500b hadd h300b h300' hBm
        go_wp2_with fail
        go_loopw [24] (fun i wr => ∃ (k : Nat), k ≤ np ∧ i = .int .i64 k ∧ Hid (NmIn wr w1.heap.size k (tN ps k)) ∧ Hid (((ps.take k).map nmF).Nodup ∧ (ps.take k).all prB = true) ∧ Hid (Below w1.heap.size w1 wr)) (fun i _ => np - (intOf i).toNat)
        case atStart => exact ⟨0, Nat.zero_le _, rfl, HNM, ⟨by simp, by simp⟩, (Below.refl _ _).alloc (Nat.le_refl _) _⟩
        case round =>
          obtain ⟨k, hk, rfl, HMP, HAL2, HB⟩ := hrel
          by_cases hlt : k < np
          · have hkl : k < ps.length := by rw [← HP.out.2.2.2.2.2.1]; exact hlt
            obtain ⟨b, o, rfl, hcs⟩ := HP1.out.1 (by omega)
            obtain ⟨q, r, d0, d1, d2, d3, d4, d5⟩ := hcs k hkl
            obtain ⟨hby, hwf, hcok⟩ := HP.out.2.2.2.1 k hkl
            have hbd := szPs_at ps k hkl
            have hbd2 := HP.out.2.2.2.2.2.2.2
            unfold szP at hbd
            have hszn : (ps.getD k Prd.zero).1.length + ((ps.getD k Prd.zero).2.2.2.length + tll (ps.getD k Prd.zero).2.2.2) ≤ 1048576 := by omega
            have hF := fnF_mem HP.out.2.2.2.1 hkl
            have HDUP : Hid (nmF (ps.getD k Prd.zero) ∈ (ps.take k).map nmF → vpB ps gs = false) := vp_dup hkl
            have HBAD : Hid (prB (ps.getD k Prd.zero) = false → vpB ps gs = false) := vp_bad hkl
            have HNX : Hid (¬ nmF (ps.getD k Prd.zero) ∈ (ps.take k).map nmF → prB (ps.getD k Prd.zero) = true → ((ps.take (k + 1)).map nmF).Nodup ∧ (ps.take (k + 1)).all prB = true) := fun h1 h2 => ⟨(nodup_next hkl).2 ⟨HAL2.out.1, h1⟩, by rw [take_at hkl, List.all_append, HAL2.out.2, Bool.true_and]; show (prB _ && true) = true; rw [h2]; rfl⟩
            have HTN : Hid _ := tN_next hkl
            have HPC := prB_can (ps.getD k Prd.zero)
            obtain ⟨x, hx⟩ : ∃ x : Int, ((tN ps k (fnF (ps.getD k Prd.zero))).getD (.int .i64 0) = .int .i64 x) ∧ ((x = 0 ∧ ¬ nmF (ps.getD k Prd.zero) ∈ (ps.take k).map nmF) ∨ (x = 1 ∧ nmF (ps.getD k Prd.zero) ∈ (ps.take k).map nmF)) := by
              by_cases hm : fnF (ps.getD k Prd.zero) ∈ (ps.take k).map fnF
              · exact ⟨1, by rw [tN_yes hm]; rfl, .inr ⟨rfl, hF.1 hm⟩⟩
              · exact ⟨0, by rw [tN_no hm]; rfl, .inl ⟨rfl, fun h => hm (hF.2 h)⟩⟩
            obtain ⟨nm, enm⟩ : ∃ x, x = (ps.getD k Prd.zero).1 := ⟨_, rfl⟩
            obtain ⟨ar, ear⟩ : ∃ x, x = (ps.getD k Prd.zero).2.1 := ⟨_, rfl⟩
            obtain ⟨dy, edy⟩ : ∃ x, x = (ps.getD k Prd.zero).2.2.1 := ⟨_, rfl⟩
            obtain ⟨css, ecs⟩ : ∃ x, x = (ps.getD k Prd.zero).2.2.2 := ⟨_, rfl⟩
            have efn : fnF (ps.getD k Prd.zero) = (strOfNums nm, ar) := by unfold fnF; rw [enm, ear]
            rw [efn] at hx
            have HTN2 : Hid ((fun g => if g = (strOfNums nm, ar) then some (Value.int .i64 1) else tN ps k g) = tN ps (k + 1)) := by have := HTN.out; rw [efn] at this; exact this
            rw [← enm, ← ear, ← ecs] at HPC
            rw [← enm] at d0 d4 hby hszn
            rw [← ear] at d1 hwf
            rw [← edy] at d2
            rw [← ecs] at d3 d5 hcok hszn
            have hokn : okN (strOfNums nm, ar) := ⟨by show (strOfNums nm).size ≤ 2000000; rw [strSize]; omega, hwf⟩
            obtain ⟨m, em2⟩ : ∃ m, m = nm.length := ⟨_, rfl⟩
            obtain ⟨nc, enc⟩ : ∃ nc, nc = css.length := ⟨_, rfl⟩
            have HF : Hid (∀ W, Below w1.heap.size w1 W → Calls Tryz.prog 19 #[.agg #[.slice q m m, .int .i64 ar, .bool dy, .slice r nc nc]] W fun e w' => e = .returned (.agg #[.string (strOfNums nm), .int .i64 ar]) ∧ Below W.heap.size W w') := fun W hW => predFun_any nm ar dy q m m r nc nc W em2 (d4.below hW)
            have HCN : Hid (∀ W, Calls Tryz.prog 20 #[.agg #[.string (strOfNums nm), .int .i64 ar]] W fun e w' => e = .returned (.bool (canN nm ar)) ∧ Below W.heap.size W w') := fun W => canBe_any nm ar W hby (by omega) hwf
            have HHO : Hid (∀ W, Below w1.heap.size w1 W → Calls Tryz.prog 21 #[.agg #[.slice q m m, .int .i64 ar, .bool dy, .slice r nc nc]] W fun e w' => e = .returned (.bool (css.all (clB nm ar))) ∧ Below W.heap.size W w') := fun W hW => hasOwn_any nm ar dy css q m m r nc nc a a2 W hby em2 enc hszn hcok (d4.below hW) (d5.below hW) (HP1.out.2.2.below hW)
            rw [← em2] at d0
            rw [← enc] at d3
            have e0 := (HB.out.cell (World.block_lt_of_cell? _ _ d0)).trans d0
            have e1 := (HB.out.cell (World.block_lt_of_cell? _ _ d1)).trans d1
            have e2 := (HB.out.cell (World.block_lt_of_cell? _ _ d2)).trans d2
            have e3 := (HB.out.cell (World.block_lt_of_cell? _ _ d3)).trans d3
            obtain ⟨sn, esn⟩ : ∃ x, x = strOfNums nm := ⟨_, rfl⟩
            obtain ⟨cn, ecn⟩ : ∃ x, x = canN nm ar := ⟨_, rfl⟩
            obtain ⟨al, eal⟩ : ∃ x, x = css.all (clB nm ar) := ⟨_, rfl⟩
            rw [← esn] at HF HCN hx HTN2 hokn
            rw [← ecn] at HCN HPC
            rw [← eal] at HHO HPC
            have HPC2 : Hid (prB (ps.getD k Prd.zero) = (cn && al)) := HPC
            have HX : Hid _ := hx
            have HOK : Hid (okN (sn, ar)) := hokn
            have hmbk : w1.heap.size < wr.heap.size := HMP.out.lt
            obtain ⟨pb, epb⟩ : ∃ pb : Obj, pb = .cells #[.slice q m m, .int .i64 ar, .bool dy, .slice r nc nc] 39 := ⟨_, rfl⟩
            have HPB : Hid (pb = .cells #[.slice q m m, .int .i64 ar, .bool dy, .slice r nc nc] 39) := epb
            have HBa : Hid (Below w1.heap.size w1 (wr.alloc pb)) := HB.out.alloc HB.out.size _
            clear hcs d0 d1 d2 d3 d4 d5 hby hwf hcok hbd hbd2 hszn hF HPC enm ear edy ecs efn em2 enc esn ecn eal hx hokn epb
            go_wp2_with fail
            rw [← HPB.out]
            refine (HF.out _ HBa.out).mono ?_
            rintro e w2 ⟨rfl, hb2⟩
            obtain ⟨W2, hW2⟩ : ∃ W, W = w2.alloc (.cells #[.string sn, .int .i64 ar] 52) := ⟨_, rfl⟩
            have hba2 : Below (wr.alloc pb).heap.size (wr.alloc pb) W2 := by rw [hW2]; exact hb2.alloc hb2.size _
            have hs2 : wr.heap.size + 1 ≤ w2.heap.size := by have := hb2.size; simpa using this
            have hs3 : W2.heap.size = w2.heap.size + 1 := by rw [hW2]; simp
            have hB2 : Below w1.heap.size w1 W2 := Below.on HBa.out hba2
            have hk2 : W2.heap[w2.heap.size]? = some (.cells #[.string sn, .int .i64 ar] 52) := by rw [hW2]; exact heap_alloc_new w2 _
            have hk1 : W2.heap[wr.heap.size]? = some pb := (hba2.block wr.heap.size (by simp)).trans (heap_alloc_new wr _)
            have hm2 : NmIn W2 w1.heap.size k (tN ps k) := (HMP.out.of (Below.heap_alloc wr pb _ hmbk)).of (hba2.block w1.heap.size (by simp; omega))
            obtain ⟨Wd2, eWd⟩ : ∃ W, W = World.drew W2 := ⟨_, rfl⟩
            have hmd : NmIn Wd2 w1.heap.size k (tN ps k) := hm2.of (by rw [eWd]; rfl)
            have hlk := hmd.lookI (sn, ar) HOK.out
            rw [HX.out.1] at hlk
            obtain ⟨v0, st, W3, hme, hg3, hst⟩ := hmd.bump (by omega) (sn, ar) HOK.out
            obtain ⟨W4, hes, hm4, hg4⟩ := hst (.int .i64 (x + 1))
            have hlk3 := hmd.entryLook (by omega) (sn, ar) HOK.out hme
            rw [HX.out.1] at hlk3
            have hlk4 := hm4.lookI (sn, ar) HOK.out
            simp only [if_true] at hlk4
            have hsd : Wd2.heap.size = w2.heap.size + 1 := by rw [eWd]; exact hs3
            have keep : ∀ (V : World), Wd2.grownBy V (some w1.heap.size) → ∀ j, j < w2.heap.size + 1 → j ≠ w1.heap.size → V.heap[j]? = W2.heap[j]? := fun V hV j hj hne => (hV.block j (by omega) (fun e => hne (Option.some.inj e))).trans (by rw [eWd]; rfl)
            have f3 := two_cells ((keep W3 hg3 w2.heap.size (by omega) (by omega)).trans hk2)
            have f4 := two_cells ((keep W4 hg4 w2.heap.size (by omega) (by omega)).trans hk2)
            have hk4 := (keep W4 hg4 wr.heap.size (by omega) (by omega)).trans hk1
            rw [HPB.out] at hk4
            have B4 := Box4.of_block hk4
            have fd := two_cells ((show Wd2.heap[w2.heap.size]? = W2.heap[w2.heap.size]? by rw [eWd]; rfl).trans hk2)
            have hBd : Below w1.heap.size w1 Wd2 := by rw [eWd]; exact hB2.drew
            have HB4 : Hid (Below w1.heap.size w1 W4) := hBd.grown hg4 hBd.size (fun k hk => by cases hk; exact Nat.le_refl _)
            have HM4 : Hid (NmIn W4 w1.heap.size (k + 1) (fun g => if g = (sn, ar) then some (Value.int .i64 (x + 1)) else tN ps k g)) := hm4
            have HL4 : Hid ((Instr.lookup 50 (.map (some w1.heap.size)) (.agg #[.string sn, .int .i64 ar]) false).run Tryz.prog W4 = .ok (.int .i64 (x + 1)) W4) := hlk4
            have HB44 : Hid (Box4 W4 wr.heap.size (.slice q m m) (.int .i64 ar) (.bool dy) (.slice r nc nc)) := B4
            have HF4 : Hid (W4.cell? ⟨w2.heap.size, 0, none⟩ = some (.string sn) ∧ W4.cell? ⟨w2.heap.size, 1, none⟩ = some (.int .i64 ar)) := ⟨f4.1, f4.2.1⟩
            have hS3 : W3.cell? ⟨w2.heap.size, 0, none⟩ = some (.string sn) ∧ W3.cell? ⟨w2.heap.size, 1, none⟩ = some (.int .i64 ar) := ⟨f3.1, f3.2.1⟩
            have hSd2 : Wd2.cell? ⟨w2.heap.size, 0, none⟩ = some (.string sn) ∧ Wd2.cell? ⟨w2.heap.size, 1, none⟩ = some (.int .i64 ar) := ⟨fd.1, fd.2.1⟩
            have hx01 : 0 ≤ x ∧ x ≤ 1 := by rcases HX.out.2 with h | h <;> omega
            have HW2 : Hid (w2.alloc (.cells #[.string sn, .int .i64 ar] 52) = W2) := hW2.symm
            have HWD : Hid (World.drew W2 = Wd2) := eWd.symm
            clear hb2 hW2 hba2 hs2 hB2 hk2 hk1 hm2 eWd hmd hst hm4 hg3 hg4 hlk4 keep f3 f4 hk4 B4 fd hBd hs3 hsd
            go_wp2_with fail
            rw [HW2.out]
            refine wp_region_any (by kernel_rfl) ?_
            refine wpAny_last (p := 6) (S := (fun W => (W.cell? ⟨w2.heap.size, 0, none⟩ = some (.string sn) ∧ W.cell? ⟨w2.heap.size, 1, none⟩ = some (.int .i64 ar)) ∧ (Instr.lookup 50 (.map (some w1.heap.size)) (.agg #[.string sn, .int .i64 ar]) false).run Tryz.prog W = .ok (.int .i64 x) W)) (by kernel_rfl) 6 _ _ _ rfl (by kernel_rfl) ?_
            change wpAnyH _ _ _ _ _ _ _ _ (World.drew W2)
            rw [HWD.out]
            have hSA := And.intro hSd2 hlk
            have hSB := And.intro hS3 hlk3
            refine hTake (i := 0) (v := .map (some w1.heap.size)) (some 30) (by kernel_rfl) (by kernel_rfl) (by kernel_rfl) (by kernel_rfl) (by kernel_rfl) (fun _ _ _ h => h) (fun o ho W hSw => ?y13) (by assumption) ?_
            case y13 =>
              cases ho
              simp [execOp, go_sem, Act.eval]
            simp only [Act.put, List.setIfInBounds_toArray, List.set_cons_zero, List.set_cons_succ]
            refine hTake (i := 1) (v := .agg #[.string sn, .int .i64 ar]) (some 31) (by kernel_rfl) (by kernel_rfl) (by kernel_rfl) (by kernel_rfl) (by kernel_rfl) (fun _ _ _ h => h) (fun o ho W hSw => ?y14) (by assumption) ?_
            case y14 =>
              cases ho
              obtain ⟨⟨k0, k1⟩, k2⟩ := hSw
              simp [execOp, go_sem, Act.eval, k0, k1]
            simp only [Act.put, List.setIfInBounds_toArray, List.set_cons_zero, List.set_cons_succ]
            refine hTake (i := 2) (v := .int .i64 x) (some 32) (by kernel_rfl) (by kernel_rfl) (by kernel_rfl) (by kernel_rfl) (by kernel_rfl) (fun _ _ _ h => h) (fun o ho W hSw => ?y15) (by assumption) ?_
            case y15 =>
              cases ho
              obtain ⟨⟨k0, k1⟩, k2⟩ := hSw
              simp [execOp, go_sem, Act.eval, k2]
            simp only [Act.put, List.setIfInBounds_toArray, List.set_cons_zero, List.set_cons_succ]
            refine hTake (i := 3) (v := .int .i64 (x + 1)) (some 33) (by kernel_rfl) (by kernel_rfl) (by kernel_rfl) (by kernel_rfl) (by kernel_rfl) (fun _ _ _ h => h) (fun o ho W hSw => ?y16) (by assumption) ?_
            case y16 =>
              cases ho
              simp [execOp, go_sem, Act.eval, IntKind.wrap_i64]; omega
            simp only [Act.put, List.setIfInBounds_toArray, List.set_cons_zero, List.set_cons_succ]
            refine hStep (i := 4) (v := .tuple #[v0, .int .i64 st]) (w' := W3) (some 34) (by kernel_rfl) (by kernel_rfl) (by kernel_rfl) (fun o ho => ?y17) hSB ?_
            case y17 =>
              cases ho
              simp [execOp, go_sem, Act.eval, hme, goInt]
            simp only [Act.put, List.setIfInBounds_toArray, List.set_cons_zero, List.set_cons_succ]
            refine hTake (i := 5) (v := .int .i64 st) (some 35) (by kernel_rfl) (by kernel_rfl) (by kernel_rfl) (by kernel_rfl) (by kernel_rfl) (fun _ _ _ h => h) (fun o ho W hSw => ?y18) (by assumption) ?_
            case y18 =>
              cases ho
              simp [execOp, go_sem, Act.eval]
            simp only [Act.put, List.setIfInBounds_toArray, List.set_cons_zero, List.set_cons_succ]
            refine wpAnyH_done (by kernel_rfl) ?_ _
            refine rest_skipV (by rfl) (by rfl) (by rfl) (w' := W4) ?_ ?_
            · have hes' := hes
              simp only [goInt] at hes'
              simp [execOp, go_sem, Act.eval, hes']
            obtain ⟨f0, f1⟩ := HF4.out
            have hl4 := HL4.out
            have HBw4 : Hid (Below w.heap.size w W4) := Below.on HBw.out HB4.out
            clear hlk hlk3 hme hes hSA hSB hS3 hSd2 HW2 HWD hx01 e0 e1 e2 e3
            rcases HX.out.2 with ⟨hx0, hnm⟩ | ⟨hx1, hnm⟩
            · subst hx0
              rw [show (0 : Int) + 1 = 1 from rfl] at hl4 HM4
              rw [HTN2.out] at HM4
              have HC4 := HCN.out W4
              have HNX2 : Hid (prB (ps.getD k Prd.zero) = true → ((ps.take (k + 1)).map nmF).Nodup ∧ (ps.take (k + 1)).all prB = true) := HNX.out hnm
              clear hnm HNX HL4 HX
              cases cn with
              | false =>
                have HRF : Hid (R = false) := by show _ = _; rw [HR.out]; exact HBAD.out (by rw [HPC2.out]; rfl)
                go_wp2_with fail
                refine HC4.mono ?_
                rintro e w5 ⟨rfl, hb5⟩
                have HB5 : Hid (Below w.heap.size w w5) := Below.on HBw4.out hb5
                clear hb5 HC4
                go_wp2_with fail
                go_ret
                exact ⟨ret_bool HRF.out.symm, HB5.out⟩
              | true =>
                go_wp2_with fail
                refine HC4.mono ?_
                rintro e w5 ⟨rfl, hb5⟩
                have HB5 : Hid (Below w1.heap.size w1 w5) := Below.on HB4.out hb5
                have HM5 : Hid (NmIn w5 w1.heap.size (k + 1) (tN ps (k + 1))) := HM4.out.below hb5
                obtain ⟨y0, y1, y2, y3, _⟩ := HB44.out.below hb5
                have HH5 := HHO.out w5 HB5.out
                clear hb5 HC4
                cases al with
                | false =>
                  have HRF : Hid (R = false) := by show _ = _; rw [HR.out]; exact HBAD.out (by rw [HPC2.out]; rfl)
                  go_wp2_with fail
                  refine HH5.mono ?_
                  rintro e w6 ⟨rfl, hb6⟩
                  have HB6 : Hid (Below w.heap.size w w6) := Below.on (Below.on HBw.out HB5.out) hb6
                  clear hb6 HH5
                  go_wp2_with fail
                  go_ret
                  exact ⟨ret_bool HRF.out.symm, HB6.out⟩
                | true =>
                  have HNX3 : Hid _ := HNX2.out (by rw [HPC2.out]; rfl)
                  go_wp2_with fail
                  refine HH5.mono ?_
                  rintro e w6 ⟨rfl, hb6⟩
                  have HB6 : Hid (Below w1.heap.size w1 w6) := Below.on HB5.out hb6
                  have HM6 : Hid (NmIn w6 w1.heap.size (k + 1) (tN ps (k + 1))) := HM5.out.below hb6
                  clear hb6 HH5 y0 y1 y2 y3
                  go_wp2_with fail
                  go_roundw
                  case rel => exact ⟨k + 1, by omega, by go_num, HM6, HNX3, HB6⟩
                  case measure => simp [intOf]; omega
            · subst hx1
              have HRF : Hid (R = false) := by show _ = _; rw [HR.out]; exact HDUP.out hnm
              rw [show (1 : Int) + 1 = 2 from rfl] at hl4
              clear hnm HNX HL4 HX HM4
              go_wp2_with fail
              go_ret
              exact ⟨ret_bool HRF.out.symm, HBw4.out⟩
          · obtain rfl : k = np := by omega
            have hfull : ps.take k = ps := by rw [HP.out.2.2.2.2.2.1]; exact List.take_length
            rw [hfull] at HAL2
            have e0 := (HB.out.cell (World.block_lt_of_cell? _ _ HC1.out.1)).trans HC1.out.1
            have e1 := (HB.out.cell (World.block_lt_of_cell? _ _ HC1.out.2)).trans HC1.out.2
            have HG := contG_any g cg gs a a2 wr (HP1.out.2.1.below HB.out) (by have := HP.out.2.2.2.2.2.2.2; omega) HP.out.2.2.2.2.1 (HP1.out.2.2.below HB.out)
            rw [← HP.out.2.2.2.2.2.2.1] at HG
            have HRV : Hid (R = gs.all goB) := by
              show _ = _
              rw [HR.out]
              cases hgo : gs.all goB with
              | true => exact vpB_yes ⟨by have := HP.out.2.2.2.2.2.1; omega, HMG.out, HAL2.out.1, HAL2.out.2, hgo⟩
              | false => exact vpB_no (fun h9 => by have := h9.2.2.2.2; rw [hgo] at this; cases this)
            have HBr : Hid (Below w.heap.size w wr) := Below.on HBw.out HB.out
            generalize gs.all goB = G9 at HG HRV
            clear hfull
            go_wp2_with fail
            refine HG.mono ?_
            rintro e w2 ⟨rfl, hb2⟩
            have HB2 : Hid (Below w.heap.size w w2) := Below.on HBr.out hb2
            clear hb2 HG
            go_wp2_with fail
            go_ret
            refine ⟨?_, HB2.out⟩
            rw [HRV.out]
            simp
      · have h500b : decide ((500 : Int) < ((m + ng : Nat) : Int)) = true := by simp; omega
        refine hTake (i := 11) (v := .bool true) (some 18) (by kernel_rfl) (by kernel_rfl) (by kernel_rfl) (by kernel_rfl) (by kernel_rfl) (fun _ _ _ h => h) (fun o ho W hSw => ?y19) (by assumption) ?_
        case y19 =>
          cases ho
          simp [execOp, go_sem, Act.eval]; omega
        simp only [Act.put, List.setIfInBounds_toArray, List.set_cons_zero, List.set_cons_succ]
        refine hTake (i := 12) (v := .bool true) (some 19) (by kernel_rfl) (by kernel_rfl) (by kernel_rfl) (by kernel_rfl) (by kernel_rfl) (fun _ _ _ h => h) (fun o ho W hSw => ?y20) (by assumption) ?_
        case y20 =>
          cases ho
          simp [execOp, go_sem, Act.eval]
        simp only [Act.put, List.setIfInBounds_toArray, List.set_cons_zero, List.set_cons_succ]
        refine wpAnyH_done (by kernel_rfl) ?_ _
        change Exit.then _ _ _ _ w1
        have HRF : Hid (R = false) := by show _ = _; rw [HR.out]; exact vpB_no (fun h9 => by have := h9.2.1; have := HM.out; have := HP.out; omega)
        go_wp2_with fail
        go_ret
        exact ⟨ret_bool HRF.out.symm, (HBX.out _ HA1.out).2.2⟩
  · have h300b : decide ((300 : Int) < (np : Int)) = true := by simp; omega
    go_enter Tryz.func7, Tryz.ntmps7
    go_wp2_with fail
    rw [← HEB.out]
    refine wp_region_held_drew (S := (fun W => W.cell? ⟨w.heap.size, 0, none⟩ = some (.slice p np cp) ∧ W.cell? ⟨w.heap.size, 1, none⟩ = some (.slice g ng cg))) (by kernel_rfl) ?_ (fun hHeld => ?_)
    · rw [HDe.out]; exact HSd.out
    rw [HDe.out]
    have hS0 := HSd.out
    refine hTake (i := 0) (v := .pointer (some ⟨w.heap.size, 0, none⟩)) (some 7) (by kernel_rfl) (by kernel_rfl) (by kernel_rfl) (by kernel_rfl) (by kernel_rfl) (fun _ _ _ h => h) (fun o ho W hSw => ?y0) (by assumption) ?_
    case y0 =>
      cases ho
      simp [execOp, go_sem, Act.eval]
    simp only [Act.put, List.setIfInBounds_toArray, List.set_cons_zero, List.set_cons_succ]
    refine hTake (i := 1) (v := .slice p np cp) (some 8) (by kernel_rfl) (by kernel_rfl) (by kernel_rfl) (by kernel_rfl) (by kernel_rfl) (fun _ _ _ h => h) (fun o ho W hSw => ?y1) (by assumption) ?_
    case y1 =>
      cases ho
      obtain ⟨k0, k1⟩ := hSw
      simp [execOp, go_sem, Act.eval, k0]
    simp only [Act.put, List.setIfInBounds_toArray, List.set_cons_zero, List.set_cons_succ]
    refine hTake (i := 2) (v := .int .i64 np) (some 9) (by kernel_rfl) (by kernel_rfl) (by kernel_rfl) (by kernel_rfl) (by kernel_rfl) (fun _ _ _ h => h) (fun o ho W hSw => ?y2) (by assumption) ?_
    case y2 =>
      cases ho
      simp [execOp, go_sem, Act.eval]
    simp only [Act.put, List.setIfInBounds_toArray, List.set_cons_zero, List.set_cons_succ]
    refine hTake (i := 3) (v := .bool true) (some 10) (by kernel_rfl) (by kernel_rfl) (by kernel_rfl) (by kernel_rfl) (by kernel_rfl) (fun _ _ _ h => h) (fun o ho W hSw => ?y3) (by assumption) ?_
    case y3 =>
      cases ho
      simp [execOp, go_sem, Act.eval, h300b]
    simp only [Act.put, List.setIfInBounds_toArray, List.set_cons_zero, List.set_cons_succ]
    refine hTake (i := 4) (v := .bool true) (some 11) (by kernel_rfl) (by kernel_rfl) (by kernel_rfl) (by kernel_rfl) (by kernel_rfl) (fun _ _ _ h => h) (fun o ho W hSw => ?y4) (by assumption) ?_
    case y4 =>
      cases ho
      simp [execOp, go_sem, Act.eval]
    simp only [Act.put, List.setIfInBounds_toArray, List.set_cons_zero, List.set_cons_succ]
    refine hSkip (i := 5) (some 12) (by kernel_rfl) (by kernel_rfl) (by kernel_rfl) (by kernel_rfl) (by kernel_rfl) (fun _ _ _ h => h) (by assumption) ?_
    simp only [Act.put, List.setIfInBounds_toArray, List.set_cons_zero, List.set_cons_succ]
    refine hSkip (i := 6) (some 13) (by kernel_rfl) (by kernel_rfl) (by kernel_rfl) (by kernel_rfl) (by kernel_rfl) (fun _ _ _ h => h) (by assumption) ?_
    simp only [Act.put, List.setIfInBounds_toArray, List.set_cons_zero, List.set_cons_succ]
    refine hSkip (i := 7) (some 14) (by kernel_rfl) (by kernel_rfl) (by kernel_rfl) (by kernel_rfl) (by kernel_rfl) (fun _ _ _ h => h) (by assumption) ?_
    simp only [Act.put, List.setIfInBounds_toArray, List.set_cons_zero, List.set_cons_succ]
    refine hSkip (i := 8) (some 15) (by kernel_rfl) (by kernel_rfl) (by kernel_rfl) (by kernel_rfl) (by kernel_rfl) (fun _ _ _ h => h) (by assumption) ?_
    simp only [Act.put, List.setIfInBounds_toArray, List.set_cons_zero, List.set_cons_succ]
    refine hSkip (i := 9) (some 16) (by kernel_rfl) (by kernel_rfl) (by kernel_rfl) (by kernel_rfl) (by kernel_rfl) (fun _ _ _ h => h) (by assumption) ?_
    simp only [Act.put, List.setIfInBounds_toArray, List.set_cons_zero, List.set_cons_succ]
    refine hSkip (i := 10) (some 17) (by kernel_rfl) (by kernel_rfl) (by kernel_rfl) (by kernel_rfl) (by kernel_rfl) (fun _ _ _ h => h) (by assumption) ?_
    simp only [Act.put, List.setIfInBounds_toArray, List.set_cons_zero, List.set_cons_succ]
    refine hSkip (i := 11) (some 18) (by kernel_rfl) (by kernel_rfl) (by kernel_rfl) (by kernel_rfl) (by kernel_rfl) (fun _ _ _ h => h) (by assumption) ?_
    simp only [Act.put, List.setIfInBounds_toArray, List.set_cons_zero, List.set_cons_succ]
    refine hTake (i := 12) (v := .bool true) (some 19) (by kernel_rfl) (by kernel_rfl) (by kernel_rfl) (by kernel_rfl) (by kernel_rfl) (fun _ _ _ h => h) (fun o ho W hSw => ?y5) (by assumption) ?_
    case y5 =>
      cases ho
      simp [execOp, go_sem, Act.eval]
    simp only [Act.put, List.setIfInBounds_toArray, List.set_cons_zero, List.set_cons_succ]
    refine wpAnyH_done (by kernel_rfl) ?_ _
    change Exit.then _ _ _ _ Wd
    have HRF : Hid (R = false) := by show _ = _; rw [HR.out]; exact vpB_no (fun h9 => by have := h9.1; have := HP.out; omega)
    clear HCC
    go_wp2_with fail
    go_ret
    exact ⟨ret_bool HRF.out.symm, (HBX.out _ HAd.out).2.2⟩
end Go.Proofs.YtfgaenggbbgboaaGreatDoor

namespace Go.Proofs.YtfgaenggbbgboaaGreatDoor
open Go Go.RowKit
set_option linter.unusedVariables false
def sgn (b : Bool) : Int := if b then -1 else 1
theorem sgn_ne (b : Bool) : sgn b ≠ 0 := by cases b <;> decide
def cellCmp (x y : Cel) : Int := if x.1 ≠ y.1 then sgn (decide (x.1 < y.1)) else if x.2.1 ≠ y.2.1 then sgn (decide (x.2.1 < y.2.1)) else if (strOfNums x.2.2).toList == (strOfNums y.2.2).toList then 0 else sgn (Op.bytesLess (strOfNums x.2.2).toList (strOfNums y.2.2).toList)
def cmpC : List Cel → List Cel → Int
  | x :: xs, y :: ys => if cellCmp x y ≠ 0 then cellCmp x y else cmpC xs ys
  | _, _ => 0
theorem cmpC_drop (xs ys : List Cel) (k : Nat) (h1 : k < xs.length) (h2 : k < ys.length) : cmpC (xs.drop k) (ys.drop k) = if cellCmp (xs.getD k Cel.none) (ys.getD k Cel.none) ≠ 0 then cellCmp (xs.getD k Cel.none) (ys.getD k Cel.none) else cmpC (xs.drop (k + 1)) (ys.drop (k + 1)) := by
  rw [List.drop_eq_getElem_cons h1, List.drop_eq_getElem_cons h2, cmpC, List.getD, List.getD, List.getElem?_eq_getElem h1, List.getElem?_eq_getElem h2]; rfl
theorem cmpC_nil (xs ys : List Cel) (k : Nat) (h : xs.length ≤ k ∨ ys.length ≤ k) : cmpC (xs.drop k) (ys.drop k) = 0 := by
  rcases h with h | h
  · rw [List.drop_eq_nil_of_le h, cmpC]; simp
  · rw [List.drop_eq_nil_of_le h]
    cases xs.drop k <;> simp [cmpC]
theorem l2sign_any (b : Bool) (w : World) : Calls Tryz.prog 66 #[.bool b] w fun e w' => e = .returned (.int .i64 (sgn b)) ∧ w' = w := by
  cases b
  · go_enter Tryz.func66, Tryz.ntmps66
    go_wp2_with fail
    go_ret
    exact ⟨rfl, rfl⟩
  · go_enter Tryz.func66, Tryz.ntmps66
    go_wp2_with fail
    go_ret
    exact ⟨rfl, rfl⟩
set_option maxRecDepth 100000 in
set_option maxHeartbeats 1000000 in
theorem l2compare_any (xs ys : List Cel) (p q : Option Addr) (n m c1 c2 : Nat) (w : World) (hn : n = xs.length) (hm : m = ys.length) (hnb : n ≤ 1000000000) (hmb : m ≤ 1000000000) (hx : CIn w p xs) (hy : CIn w q ys) :
    Calls Tryz.prog 43 #[.slice p n c1, .slice q m c2] w fun e w' => e = .returned (.int .i64 (cmpC xs ys)) ∧ Below w.heap.size w w' := by
  have HX : Hid (CIn w p xs) := hx
  have HY : Hid (CIn w q ys) := hy
  have HL : Hid (n = xs.length ∧ m = ys.length) := ⟨hn, hm⟩
  clear hx hy hn hm
  go_enter Tryz.func43, Tryz.ntmps43
  go_wp2_with fail
  go_loopw [5] (fun i wr => ∃ k : Nat, k ≤ n ∧ i = .int .i64 k ∧ Hid (cmpC xs ys = cmpC (xs.drop k) (ys.drop k)) ∧ Hid (Below w.heap.size w wr)) (fun i _ => n - (intOf i).toNat)
  case atStart => exact ⟨0, Nat.zero_le _, rfl, rfl, Below.refl _ _⟩
  case round =>
    obtain ⟨k, hk, rfl, HC, HB⟩ := hrel
    by_cases h1 : k < n
    · by_cases h2 : k < m
      · have hkx : k < xs.length := by rw [← HL.out.1]; exact h1
        have hky : k < ys.length := by rw [← HL.out.2]; exact h2
        have HD : Hid _ := cmpC_drop xs ys k hkx hky
        obtain ⟨b, o, rfl, hcx⟩ := (HX.out.below HB.out) (by omega)
        obtain ⟨b', o', rfl, hcy⟩ := (HY.out.below HB.out) (by omega)
        obtain ⟨px, qx, x0, x1, x2, x3⟩ := hcx k hkx
        obtain ⟨py, qy, y0, y1, y2, y3⟩ := hcy k hky
        obtain ⟨X, eX⟩ : ∃ X, X = xs.getD k Cel.none := ⟨_, rfl⟩
        obtain ⟨Y, eY⟩ : ∃ Y, Y = ys.getD k Cel.none := ⟨_, rfl⟩
        rw [← eX, ← eY] at HD
        rw [← eX] at x0 x1 x2 x3
        rw [← eY] at y0 y1 y2 y3
        obtain ⟨lx, elx⟩ : ∃ l, l = X.2.2.length := ⟨_, rfl⟩
        obtain ⟨ly, ely⟩ : ∃ l, l = Y.2.2.length := ⟨_, rfl⟩
        rw [← elx] at x2
        rw [← ely] at y2
        obtain ⟨sx, esx⟩ : ∃ s, s = strOfNums X.2.2 := ⟨_, rfl⟩
        obtain ⟨sy, esy⟩ : ∃ s, s = strOfNums Y.2.2 := ⟨_, rfl⟩
        have cvx : ∀ W, Below wr.heap.size wr W → (convert 37 9 (.slice px lx qx)).run Tryz.prog W = .ok (.string sx) W := fun W hW => by rw [esx]; exact conv_str (x3.below hW) lx qx elx 9 Tryz.underlying9
        have cvy : ∀ W, Below wr.heap.size wr W → (convert 37 9 (.slice py ly qy)).run Tryz.prog W = .ok (.string sy) W := fun W hW => by rw [esy]; exact conv_str (y3.below hW) ly qy ely 9 Tryz.underlying9
        obtain ⟨a1, ea1⟩ : ∃ a, a = X.1 := ⟨_, rfl⟩
        obtain ⟨a2, ea2⟩ : ∃ a, a = X.2.1 := ⟨_, rfl⟩
        obtain ⟨d1, ed1⟩ : ∃ a, a = Y.1 := ⟨_, rfl⟩
        obtain ⟨d2, ed2⟩ : ∃ a, a = Y.2.1 := ⟨_, rfl⟩
        have HCC : Hid (cellCmp X Y = if a1 ≠ d1 then sgn (decide (a1 < d1)) else if a2 ≠ d2 then sgn (decide (a2 < d2)) else if sx.toList == sy.toList then 0 else sgn (Op.bytesLess sx.toList sy.toList)) := by
          show _ = _
          rw [ea1, ea2, ed1, ed2, esx, esy]; rfl
        rw [← ea1] at x0
        rw [← ea2] at x1
        rw [← ed1] at y0
        rw [← ed2] at y1
        clear hcx hcy x3 y3 eX eY elx ely esx esy ea1 ea2 ed1 ed2
        have hW2 : Below wr.heap.size wr ((wr.alloc (Obj.cells #[.int .i64 a1, .int .i64 a2, .slice px lx qx] 69)).alloc (Obj.cells #[.int .i64 d1, .int .i64 d2, .slice py ly qy] 69)) := ((Below.refl _ wr).alloc (Nat.le_refl _) _).alloc (by simp) _
        have cx := cvx _ hW2
        have cy := cvy _ hW2
        have HB2 : Hid (Below w.heap.size w ((wr.alloc (Obj.cells #[.int .i64 a1, .int .i64 a2, .slice px lx qx] 69)).alloc (Obj.cells #[.int .i64 d1, .int .i64 d2, .slice py ly qy] 69))) := Below.on HB.out hW2
        clear cvx cvy hW2
        have hW1 : Below wr.heap.size wr (wr.alloc (Obj.cells #[.int .i64 a1, .int .i64 a2, .slice px lx qx] 69)) := (Below.refl _ wr).alloc (Nat.le_refl _) _
        have z0 := (hW1.cell (World.block_lt_of_cell? _ _ y0)).trans y0
        have z1 := (hW1.cell (World.block_lt_of_cell? _ _ y1)).trans y1
        have z2 := (hW1.cell (World.block_lt_of_cell? _ _ y2)).trans y2
        clear hW1 y0 y1 y2
        by_cases e1 : a1 = d1
        · subst e1
          by_cases e2 : a2 = d2
          · subst e2
            cases e3 : (sx.toList == sy.toList) with
            | true =>
              have HZ : Hid (cellCmp X Y = 0) := by show _ = _; rw [HCC.out, if_neg (by simp), if_neg (by simp), if_pos e3]
              go_wp2_with fail
              go_roundw
              case rel => exact ⟨k + 1, by omega, by go_num, by show _ = _; rw [HC.out, HD.out, if_neg (by rw [HZ.out]; simp)], HB2⟩
              case measure => simp [intOf]; omega
            | false =>
              have HZ : Hid (cellCmp X Y = sgn (Op.bytesLess sx.toList sy.toList)) := by show _ = _; rw [HCC.out, if_neg (by simp), if_neg (by simp), if_neg (by rw [e3]; simp)]
              go_wp2_with fail
              refine (l2sign_any _ _).mono ?_
              rintro e w9 ⟨rfl, rfl⟩
              go_wp2_with fail
              go_ret
              exact ⟨ret_int (by rw [HC.out, HD.out, if_pos (by rw [HZ.out]; exact sgn_ne _), HZ.out]), HB2.out⟩
          · have HZ : Hid (cellCmp X Y = sgn (decide (a2 < d2))) := by show _ = _; rw [HCC.out, if_neg (by simp), if_pos e2]
            go_wp2_with fail
            refine (l2sign_any _ _).mono ?_
            rintro e w9 ⟨rfl, rfl⟩
            go_wp2_with fail
            go_ret
            exact ⟨ret_int (by rw [HC.out, HD.out, if_pos (by rw [HZ.out]; exact sgn_ne _), HZ.out]), HB2.out⟩
        · have HZ : Hid (cellCmp X Y = sgn (decide (a1 < d1))) := by show _ = _; rw [HCC.out, if_pos e1]
          go_wp2_with fail
          refine (l2sign_any _ _).mono ?_
          rintro e w9 ⟨rfl, rfl⟩
          go_wp2_with fail
          go_ret
          exact ⟨ret_int (by rw [HC.out, HD.out, if_pos (by rw [HZ.out]; exact sgn_ne _), HZ.out]), HB2.out⟩
      · have HF : Hid (cmpC xs ys = 0) := by show _ = _; rw [HC.out]; exact cmpC_nil _ _ _ (.inr (by rw [← HL.out.2]; omega))
        go_wp2_with fail
        go_ret
        exact ⟨ret_int HF.out.symm, HB.out⟩
    · have HF : Hid (cmpC xs ys = 0) := by show _ = _; rw [HC.out]; exact cmpC_nil _ _ _ (.inl (by rw [← HL.out.1]; omega))
      go_wp2_with fail
      go_ret
      exact ⟨ret_int HF.out.symm, HB.out⟩
end Go.Proofs.YtfgaenggbbgboaaGreatDoor

namespace Go.Proofs.YtfgaenggbbgboaaGreatDoor
open Go Go.RowKit
set_option linter.unusedVariables false
theorem cellCmp_zero {x y : Cel} (hx : Byte x.2.2) (hy : Byte y.2.2) : cellCmp x y = 0 ↔ x = y := by
  obtain ⟨a, b, c⟩ := x
  obtain ⟨a', b', c'⟩ := y
  simp only at hx hy
  simp only [cellCmp]
  by_cases h1 : a = a'
  · by_cases h2 : b = b'
    · subst h1 h2
      have hs := str_inj hx hy
      rw [beq_toListBytes] at hs
      simp only [ne_eq, not_true_eq_false, if_false, hs]
      by_cases h3 : c = c'
      · simp [h3]
      · simp [h3, sgn_ne]
    · simp [h1, h2, sgn_ne]
  · simp [h1, sgn_ne]
theorem cmpC_zero : ∀ (xs ys : List Cel), xs.length = ys.length → (∀ x ∈ xs, Byte x.2.2) → (∀ y ∈ ys, Byte y.2.2) → (cmpC xs ys = 0 ↔ xs = ys)
  | [], [], _, _, _ => by simp [cmpC]
  | [], _ :: _, h, _, _ => by simp at h
  | _ :: _, [], h, _, _ => by simp at h
  | x :: xs, y :: ys, h, hx, hy => by
    have h0 := cellCmp_zero (hx x (by simp)) (hy y (by simp))
    have ih := cmpC_zero xs ys (by simpa using h) (fun z hz => hx z (by simp [hz])) (fun z hz => hy z (by simp [hz]))
    simp only [cmpC]
    by_cases hc : cellCmp x y = 0
    · rw [if_neg (by simp [hc]), ih, h0.1 hc]; simp
    · rw [if_pos hc]
      constructor
      · intro e; exact absurd e hc
      · intro e; injection e with e1 e2; exact absurd (h0.2 e1) hc
theorem byte_mem {cs : List Cel} (hb : ∀ i, i < cs.length → Byte (cs.getD i Cel.none).2.2) : ∀ x ∈ cs, Byte x.2.2 := fun x hx => by
  obtain ⟨i, hi, e⟩ := List.getElem_of_mem hx
  have := hb i hi
  rwa [List.getD, List.getElem?_eq_getElem hi, Option.getD_some, e] at this
theorem ren_byte {cs : List Cel} (hb : ∀ x ∈ cs, Byte x.2.2) : ∀ y ∈ renCells cs, Byte y.2.2 := fun y hy => by
  obtain ⟨x, hx, rfl⟩ := List.mem_map.1 hy
  rw [renI_text]; exact hb x hx
theorem ren_len (cs : List Cel) : (renCells cs).length = cs.length := by simp [renCells]
end Go.Proofs.YtfgaenggbbgboaaGreatDoor

namespace Go.Proofs.YtfgaenggbbgboaaGreatDoor
open Go Go.RowKit
set_option linter.unusedVariables false
set_option maxRecDepth 100000 in
theorem same_any (xs ys : List Cel) (p q : Option Addr) (c1 c2 n : Nat) (w : World) (hn : n = xs.length) (hm : n = ys.length) (hl : n ≤ 1000000) (h0 : 0 < n) (hx : CIn w p xs) (hy : CIn w q ys) (hbx : ∀ c ∈ xs, Byte c.2.2) (hby : ∀ c ∈ ys, Byte c.2.2) :
    Calls Tryz.prog 15 #[.slice p n c1, .slice q n c2] w fun e w' => e = .returned (.bool (decide (xs = ys))) ∧ Below w.heap.size w w' := by
  have HC := l2compare_any xs ys p q n n c1 c2 w hn hm (by omega) (by omega) hx hy
  have HR : Hid (decide (xs = ys) = (cmpC xs ys == 0)) := by
    show _ = _
    rw [Bool.eq_iff_iff]
    simp [cmpC_zero xs ys (by rw [← hn, ← hm]) hbx hby]
  rw [HR.out]
  generalize cmpC xs ys = R at HC ⊢
  clear hn hm hx hy hbx hby HR
  have hz : ((n : Int) == 0) = false := by rw [beq_eq_false_iff_ne]; omega
  go_enter Tryz.func15, Tryz.ntmps15
  go_wp2_with fail
  refine HC.mono ?_
  rintro e w1 ⟨rfl, hb1⟩
  have HB : Hid (Below w.heap.size w w1) := hb1
  clear HC hb1
  go_wp2_with fail
  go_ret
  exact ⟨rfl, HB.out⟩
end Go.Proofs.YtfgaenggbbgboaaGreatDoor

namespace Go.Proofs.YtfgaenggbbgboaaGreatDoor
open Go Go.RowKit
set_option linter.unusedVariables false
def isB (s nm : ByteArray) (k n ar : Int) : Bool := (s.toList == nm.toList) && (if ar == 0 then k == 2 else (k == 3 && n == ar))
set_option maxRecDepth 100000 in
theorem l2isG_any (s nm : ByteArray) (k n ar : Int) (b o : Nat) (q : Option Addr) (m qc len cap : Nat) (w : World) (hlen : 0 < len)
    (d0 : w.cell? ⟨b, o, none⟩ = some (.int .i64 k)) (d1 : w.cell? ⟨b, o + 1, none⟩ = some (.int .i64 n)) (d2 : w.cell? ⟨b, o + 2, none⟩ = some (.slice q m qc))
    (hcv : (convert 37 9 (.slice q m qc)).run Tryz.prog w = .ok (.string s) w) :
    Calls Tryz.prog 37 #[.slice (some ⟨b, o, none⟩) len cap, .string nm, .int .i64 ar] w fun e w' => e = .returned (.bool (isB s nm k n ar)) ∧ w' = w := by
  have hlt : (0 : Int) < len := by omega
  have HF : Hid (∀ b, b = isB s nm k n ar → Ending.returned (.bool b) = .returned (.bool (isB s nm k n ar))) := fun b h => ret_bool h
  have HR : Hid (isB s nm k n ar = ((s.toList == nm.toList) && (if ar == 0 then k == 2 else (k == 3 && n == ar)))) := rfl
  clear hlen
  cases h1 : (s.toList == nm.toList)
  · rw [h1] at HR
    go_enter Tryz.func37, Tryz.ntmps37
    go_wp2_with fail
    go_ret
    exact ⟨HF.out _ (by rw [HR.out]; rfl), rfl⟩
  · rw [h1] at HR
    cases h2 : (ar == 0)
    · rw [h2] at HR
      have h2' : ¬ ar = 0 := by simpa using h2
      cases h3 : (k == 3)
      · rw [h3] at HR
        go_enter Tryz.func37, Tryz.ntmps37
        go_wp2_with fail
        go_ret
        exact ⟨HF.out _ (by rw [HR.out]; rfl), rfl⟩
      · rw [h3] at HR
        cases h4 : (n == ar)
        · rw [h4] at HR
          have h4' : ¬ n = ar := by simpa using h4
          go_enter Tryz.func37, Tryz.ntmps37
          go_wp2_with fail
          go_ret
          exact ⟨HF.out _ (by rw [HR.out]; rfl), rfl⟩
        · rw [h4] at HR
          go_enter Tryz.func37, Tryz.ntmps37
          go_wp2_with fail
          go_ret
          exact ⟨HF.out _ (by rw [HR.out]; rfl), rfl⟩
    · rw [h2] at HR
      cases h3 : (k == 2)
      · rw [h3] at HR
        go_enter Tryz.func37, Tryz.ntmps37
        go_wp2_with fail
        go_ret
        exact ⟨HF.out _ (by rw [HR.out]; rfl), rfl⟩
      · rw [h3] at HR
        go_enter Tryz.func37, Tryz.ntmps37
        go_wp2_with fail
        go_ret
        exact ⟨HF.out _ (by rw [HR.out]; rfl), rfl⟩
end Go.Proofs.YtfgaenggbbgboaaGreatDoor

