/- Texts of UnP4, UmW, FoI. Own work of the verifier. -/
import Derived.Test.YtglebnelmnnboaaUqak
import Derived.Test.YtglebnelmnnboaaUqbb
import Derived.Test.YtglebnelmnnboaaUqaf
namespace Go.Proofs.Ytglebnelmnnboaa
open Go Go.RowKit
set_option linter.unusedVariables false

open Classical in
/-- The cells of what a tree stands for in the end. -/
noncomputable def fullC (M : BM) (t : Tr) : List Cel := if h : ∃ g : Fo, FullF M t.fo g then (Classical.choose h).cells else []
theorem fullC_eq {M : BM} {t : Tr} {g : Fo} (h : FullF M t.fo g) : fullC M t = g.cells := by
  have hx : ∃ g : Fo, FullF M t.fo g := ⟨g, h⟩
  unfold fullC
  rw [dif_pos hx, (Classical.choose_spec hx).det h]
/-- What is put in for a cell. -/
noncomputable def putC (M : BM) (c : Cel) : List Cel := if c.1 = 0 then (match M c.2.1 with | some u => fullC M u | none => [c]) else [c]
theorem full_cells {M : BM} {F G : Fo} (h : FullF M F G) : G.cells = F.cells.flatMap (putC M) := by
  induction h with
  | nil => rfl
  | @keep c k r k' r' h _ _ ihk ihr =>
    have e : putC M c = [c] := by
      unfold putC
      by_cases h0 : c.1 = 0
      · rw [if_pos h0, h h0]
      · rw [if_neg h0]
    simp only [Fo.cells, List.flatMap_cons, List.flatMap_append, ihk, ihr, e, List.singleton_append]
  | @put c r r' u g h0 hm hu _ _ ihr =>
    have e : putC M c = g.1 :: g.2.cells := by
      unfold putC
      rw [if_pos h0, hm]
      simp only [fullC_eq hu, Tr.fo, Fo.cells, List.append_nil]
    simp only [Fo.cells, List.flatMap_cons, List.nil_append, ihr, e, List.cons_append]
/-- What bindings are: each tree stands for one in the end. -/
theorem WfU.full {M : BM} (h : WfU M) (t : Tr) (ht : t.fo.ok) : ∃ g : Tr, FullF M t.fo g.fo := by
  obtain ⟨r, hr⟩ := h.acyc
  obtain ⟨K, hK⟩ := list_top r (vsT t)
  obtain ⟨G, hG, hc⟩ := full_ex hr h.ok K t.fo ht hK
  cases G with
  | nil => simp [Tr.fo, Fo.count] at hc
  | node a b d =>
    cases d with
    | nil => exact ⟨(a, b), hG⟩
    | node _ _ _ => simp [Tr.fo, Fo.count] at hc
theorem WfU.full_flat {M : BM} (h : WfU M) (t : Tr) (ht : t.fo.ok) : fullC M t = (t.1 :: t.2.cells).flatMap (putC M) := by
  obtain ⟨g, hg⟩ := h.full t ht
  rw [fullC_eq hg, full_cells hg]
  simp [Tr.fo, Fo.cells]
theorem Cut.full_same {P M : BM} (hc : Cut P M) (h : WfU M) (t : Tr) (ht : t.fo.ok) : fullC P t = fullC M t := by
  obtain ⟨g, hg⟩ := (hc.wf h).full t ht
  rw [fullC_eq hg, fullC_eq (hc.full hg)]
theorem putC_pos {M : BM} (h : WfU M) (c : Cel) : 1 ≤ (putC M c).length := by
  unfold putC
  by_cases h0 : c.1 = 0
  · rw [if_pos h0]
    cases hm : M c.2.1 with
    | none => simp
    | some u =>
      obtain ⟨g, hg⟩ := h.full u (h.ok _ _ hm)
      simp only [fullC_eq hg, Tr.fo, Fo.cells, List.length_cons]
      omega
  · rw [if_neg h0]; simp
/-- Sums of numbers that are cut off at a bound, cut off there, are the sum cut off there. -/
def sumN : List Nat → Nat
  | [] => 0
  | a :: r => a + sumN r
theorem sum_cut (B : Nat) : ∀ l : List Nat, min (sumN (l.map (min · B))) B = min (sumN l) B
  | [] => rfl
  | a :: r => by
    have := sum_cut B r
    simp only [List.map_cons, sumN]
    omega
theorem flat_lenU {α β : Type} (f : α → List β) : ∀ l : List α, (l.flatMap f).length = sumN (l.map fun a => (f a).length)
  | [] => rfl
  | a :: r => by simp only [List.flatMap_cons, List.length_append, List.map_cons, sumN, flat_lenU f r]
/-- The number of cells in the end, cut off at B, by the same of what is put in. -/
theorem WfU.count {M : BM} (h : WfU M) (B : Nat) (t : Tr) (ht : t.fo.ok) : min (fullC M t).length B = min (sumN ((t.1 :: t.2.cells).map fun c => min (putC M c).length B)) B := by
  rw [h.full_flat t ht, flat_lenU, ← sum_cut B, List.map_map]
  rfl
/-- Cells that are put behind one another grow: as soon as they are too many they stay so. -/
theorem take_len {M : BM} (l : List Cel) (j : Nat) : ((l.take j).flatMap (putC M)).length ≤ (l.flatMap (putC M)).length := by
  conv => rhs; rw [← List.take_append_drop j l, List.flatMap_append, List.length_append]
  omega

end Go.Proofs.Ytglebnelmnnboaa

namespace Go.Proofs.Ytglebnelmnnboaa
open Go Go.RowKit
set_option linter.unusedVariables false

theorem fo_textU : ∀ (F : Fo), F.ok → ∀ c ∈ F.cells, c.2.2.length ≤ 100
  | .nil, _, c, h => by cases h
  | .node a k r, h, c, hc => by
    simp only [Fo.cells, List.mem_cons, List.mem_append] at hc
    rcases hc with rfl | hc | hc
    · have := h.1
      simp only [cellB, decide_eq_true_eq] at this
      omega
    · exact fo_textU k h.2.2.2.2.1 c hc
    · exact fo_textU r h.2.2.2.2.2 c hc
/-- What l5whole answers: ds lay there before. -/
def WholeO (B : Nat) (w : World) (R : List Cel) (e : Ending) (w' : World) : Prop := Below B w w' ∧ ((R.length ≤ 2000 ∧ ∃ p m c, e = .returned (.tuple #[.slice p m c, .bool true]) ∧ OwnC w' B p m c R) ∨ (2000 < R.length ∧ e = .returned (.tuple #[.slice none 0 0, .bool false])))
/-- What l5whole is asked to do for trees whose variables have ranks below N. -/
def WholeOk (W0 Wp : World) (sb : Nat) (M : BM) (r : Int → Nat) (N : Nat) : Prop := ∀ (t : Tr) (q : Option Addr) (n cq : Nat) (B : Nat) (w : World) (ds : List Cel) (p : Option Addr) (m c : Nat), t.fo.ok → (tcs t).length ≤ 2000 → TIn W0 q n cq t → (∀ v ∈ vsT t, (M v).isSome = true → r v < N) → Below Wp.heap.size Wp w → Wp.heap.size ≤ B → B ≤ w.heap.size → OwnC w B p m c ds → m ≤ 2000 →
  Calls Try.prog 53 #[.pointer (some ⟨sb, 0, none⟩), .slice q n cq, .slice p m c] w (WholeO B w (ds ++ (tcs t).flatMap (putC M)))
theorem below_drewU (w : World) : Below w.heap.size w w.drew := ⟨rfl, rfl, rfl, Nat.le_refl _, fun _ _ => rfl⟩
theorem flat_take (M : BM) (cs : List Cel) (j : Nat) (h : j < cs.length) : (cs.take (j + 1)).flatMap (putC M) = (cs.take j).flatMap (putC M) ++ putC M (cs.getD j Cel.none) := by
  rw [List.take_add_one, List.getElem?_eq_getElem h, List.flatMap_append]
  simp only [Option.toList, List.flatMap_cons, List.flatMap_nil, List.append_nil, List.getD, List.getElem?_eq_getElem h, Option.getD_some]

set_option maxRecDepth 100000 in
set_option maxHeartbeats 2000000 in
theorem whole_step (W0 Wp : World) (sb : Nat) (M : BM) (r : Int → Nat) (hac : Acyc M r) (hwf : WfU M) (hsm : ∀ x u, M x = some u → (tcs u).length ≤ 2000) (kk : Nat) (sp : Option Addr) (sn sc : Nat) (bs : List Bnd) (hs : MS W0 Wp sb M kk sp sn sc bs) (N : Nat) (ih : ∀ N', N' < N → WholeOk W0 Wp sb M r N') : WholeOk W0 Wp sb M r N := by
  intro t q n cq B w ds p m c ht htl hin hrk hWp hBp hBw hown hm
  obtain ⟨cs, ecs⟩ : ∃ cs, cs = tcs t := ⟨_, rfl⟩
  have hnl : n = cs.length := by rw [ecs]; exact hin.1
  have hn2 : n ≤ 2000 := by rw [hnl, ecs]; exact htl
  have hncq : n ≤ cq := hin.2.1
  have hcq : cq ≤ 1000000000 := hin.2.2.1
  have HMS : Hid (∀ W, Below Wp.heap.size Wp W → MS W0 W sb M kk sp sn sc bs) := fun W h => hs.below h
  have HLOW : Hid (∀ W, Below B w W → Below Wp.heap.size Wp W) := fun W h => hWp.trans (h.mono hBp)
  have HTX : Hid (∀ j, j < cs.length → (cs.getD j Cel.none).2.2.length ≤ 100) := fun j hj => fo_textU t.fo ht _ (by rw [← tcs_fo, ← ecs] at *; simp [List.getD, hj])
  have HVR : Hid (∀ j, j < cs.length → (cs.getD j Cel.none).1 = 0 → ∀ u, M (cs.getD j Cel.none).2.1 = some u → WholeOk W0 Wp sb M r (r (cs.getD j Cel.none).2.1)) := fun j hj h0 u hu => by
    rw [ecs] at hj h0 hu ⊢
    exact ih _ (hrk _ (cell_var hj h0) (by rw [hu]; rfl))
  have HU : Hid (Acyc M r ∧ WfU M ∧ ∀ x u, M x = some u → (tcs u).length ≤ 2000) := ⟨hac, hwf, hsm⟩
  have HIN : Hid (CIn W0 q cs) := by rw [ecs]; exact hin.2.2.2
  have HN : Hid (n = cs.length) := hnl
  have HFS : Hid (sn = bs.length ∧ sn ≤ 20000) := ⟨hs.len, by have := hs.few; have := hs.kle; omega⟩
  have HFIN0 : Hid (∀ w' r m cr, Below B w w' → OwnC w' B r m cr (ds ++ (cs.take n).flatMap (putC M)) → m ≤ 2000 → WholeO B w (ds ++ (tcs t).flatMap (putC M)) (.returned (.tuple #[.slice r m cr, .bool true])) w') := fun w' r m cr hb' ho hle => by
    rw [List.take_of_length_le (by rw [hnl]; exact Nat.le_refl _), ecs] at ho
    exact ⟨hb', .inl ⟨by rw [← ho.1]; exact hle, r, m, cr, rfl, ho⟩⟩
  have HFIN3 : Hid (∀ w', Below B w w' → ∀ j, 2000 < (ds ++ (cs.take (j + 1)).flatMap (putC M)).length → WholeO B w (ds ++ (tcs t).flatMap (putC M)) (.returned (.tuple #[.slice none 0 0, .bool false])) w') := fun w' hb' j hj => by
    refine ⟨hb', .inr ⟨?_, rfl⟩⟩
    have := take_len (M := M) cs (j + 1)
    rw [← ecs]
    simp only [List.length_append] at hj ⊢
    omega
  have HMSB : Hid (Wp.heap.size ≤ B) := hBp
  have HO0 : Hid (OwnC w B p m c (ds ++ (cs.take 0).flatMap (putC M))) := by
    show OwnC _ _ _ _ _ _
    simpa using hown
  have HBS : Hid (∀ W, Below B w W → Below W0.heap.size W0 W) := fun W h => (hs.below (hWp.trans (h.mono hBp))).low
  clear hs ht htl hin hrk hWp hBp hown ih hac hwf hsm hnl ecs
  go_enter Try.func53, Try.ntmps53
  go_wp2_with fail
  go_loopw [2, 8] (fun s i wr => ∃ (j : Nat) (r : Option Addr) (m cr : Nat), j ≤ n ∧ m ≤ 2000 ∧ i = .int .i64 j ∧ s = .slice r m cr ∧ Hid (OwnC wr B r m cr (ds ++ (cs.take j).flatMap (putC M))) ∧ Hid (Below B w wr)) (fun _ i _ => n - (intOf i).toNat)
  case atStart => exact ⟨0, p, m, c, Nat.zero_le _, hm, rfl, rfl, HO0, Below.refl _ _⟩
  case round =>
    clear HO0 hm
    obtain ⟨j, rp, m, cr, hj, hm, rfl, rfl, HO, HB⟩ := hrel
    have hBs : B ≤ wr.heap.size := Nat.le_trans hBw HB.out.size
    by_cases hlt : j < n
    · have hjl : j < cs.length := by rw [← HN.out]; exact hlt
      obtain ⟨b, o, rfl, hcs⟩ := (HIN.out.below (HBS.out wr HB.out)) (by omega)
      obtain ⟨p0, q0, d0, d1, d2, d3⟩ := hcs j hjl
      have hms := HMS.out wr (HLOW.out wr HB.out)
      have s0 := hms.sub
      have HDS : Hid (ds ++ (cs.take (j + 1)).flatMap (putC M) = (ds ++ (cs.take j).flatMap (putC M)) ++ putC M (cs.getD j Cel.none)) := by show _ = _; rw [flat_take M cs j hjl, List.append_assoc]
      have HONE : Hid (Calls Try.prog 41 #[.slice (some ⟨b, o + j * 3, none⟩) 1 (cq - j)] wr fun e w' => ∃ q m c2, e = .returned (.slice q m c2) ∧ OwnC w' wr.heap.size q m c2 [cs.getD j Cel.none] ∧ Below wr.heap.size wr w') := by
        have htl := HTX.out j hjl
        refine l2copy_any _ 1 _ [cs.getD j Cel.none] wr rfl (by simp only [tl, List.length_cons, List.length_nil]; omega) (CIn.part5 hcs j ⟨cs.drop (j + 1), ?_⟩)
        rw [List.drop_eq_getElem_cons hjl]; simp [List.getD, hjl]
      have HONE2 : Hid (Calls Try.prog 41 #[.slice (some ⟨b, o + j * 3, none⟩) 1 (cq - j)] wr.drew fun e w' => ∃ q m c2, e = .returned (.slice q m c2) ∧ OwnC w' wr.drew.heap.size q m c2 [cs.getD j Cel.none] ∧ Below wr.drew.heap.size wr.drew w') := by
        have htl := HTX.out j hjl
        refine l2copy_any _ 1 _ [cs.getD j Cel.none] wr.drew rfl (by simp only [tl, List.length_cons, List.length_nil]; omega) ((CIn.part5 hcs j ⟨cs.drop (j + 1), ?_⟩).below (below_drewU wr))
        rw [List.drop_eq_getElem_cons hjl]; simp [List.getD, hjl]
      clear hcs d3 d2
      by_cases hc0 : (cs.getD j Cel.none).1 = 0
      · rw [hc0] at d0
        have HIX := l5index_any sp sn sc bs (cs.getD j Cel.none).2.1 wr.drew HFS.out.1 (by have := HFS.out.2; omega) hms.bsr.up ((hms.lies.bdin hms.low).below (below_drewU wr))
        have HOd : Hid (OwnC wr.drew B rp m cr (ds ++ (cs.take j).flatMap (putC M))) := HO.out.below (below_drewU wr)
        have HBd : Hid (Below B w wr.drew) := HB.out.trans ((below_drewU wr).mono hBs)
        have hBd : B ≤ wr.drew.heap.size := hBs
        rcases hms.bsr.find (cs.getD j Cel.none).2.1 with ⟨k, u, hk, ef, hu, eu⟩ | ⟨ef, hu⟩
        · rw [ef] at HIX
          obtain ⟨sg, so, rfl, hbs⟩ := hms.lies (by omega)
          obtain ⟨qd, cd, y0, y1, y2, y3, y4⟩ := hbs k hk
          rw [eu] at y1 y2 y4
          have hput : putC M (cs.getD j Cel.none) = (tcs u).flatMap (putC M) := by
            unfold putC
            rw [if_pos hc0, hu]
            exact HU.out.2.1.full_flat u (HU.out.2.1.ok _ _ hu)
          rw [hput] at HDS
          have HREC := HVR.out j hjl hc0 u hu u qd (tcs u).length cd B wr.drew _ rp m cr (HU.out.2.1.ok _ _ hu) (HU.out.2.2 _ _ hu) ⟨rfl, y2, y3, y4⟩ (fun v hv _ => HU.out.1 _ _ hu v hv) (HLOW.out _ HBd.out) HMSB.out hBd HOd.out hm
          rw [← HDS.out] at HREC
          obtain ⟨ld, eld⟩ : ∃ l, l = (tcs u).length := ⟨_, rfl⟩
          rw [← eld] at y1 HREC
          have hkn : k < sn := by rw [HFS.out.1]; exact hk
          obtain ⟨vv, evv⟩ : ∃ v, v = (cs.getD j Cel.none).2.1 := ⟨_, rfl⟩
          rw [← evv] at d1 HIX
          have hsn : sn ≤ sc := hms.room
          have hsn2 : sn ≤ 20000 := HFS.out.2
          clear hbs y0 y2 y3 y4 hput eu hu ef eld evv hk hc0 HONE HONE2 hms
          go_wp2_with fail
          go_region_held3 (fun W => W = wr.drew) (rfl) ((go_at_call 40; refine HIX.mono ?_; rintro e w' ⟨rfl, rfl⟩))
          go_wp2_with fail
          refine HREC.mono ?_
          rintro e w3 ⟨hb3, ⟨hle, q3, m3, c3, rfl, ho3⟩ | ⟨hle, rfl⟩⟩
          · have HO3 : Hid (OwnC w3 B q3 m3 c3 (ds ++ (cs.take (j + 1)).flatMap (putC M))) := ho3
            have HB3 : Hid (Below B w w3) := HBd.out.trans hb3
            have hm3 : m3 ≤ 2000 := by rw [ho3.1]; exact hle
            clear ho3 hb3 HREC hle
            go_wp2_with fail
            go_roundw
            case rel => exact ⟨j + 1, _, m3, c3, by omega, hm3, by go_num, rfl, HO3, HB3⟩
            case measure => simp [intOf]; omega
          · have HF : Hid (WholeO B w (ds ++ (tcs t).flatMap (putC M)) (.returned (.tuple #[.slice none 0 0, .bool false])) w3) := HFIN3.out w3 (HBd.out.trans hb3) j hle
            clear hb3 HREC hle
            go_wp2_with fail
            go_ret2
            exact HF.out
        · rw [ef] at HIX
          have hput : putC M (cs.getD j Cel.none) = [cs.getD j Cel.none] := by
            unfold putC
            rw [if_pos hc0, hu]
          have HONED := HONE2.out
          rw [← hput] at HONED
          have HD1 : Hid ((putC M (cs.getD j Cel.none)).length = 1) := by show _ = _; rw [hput]; rfl
          obtain ⟨vv, evv⟩ : ∃ v, v = (cs.getD j Cel.none).2.1 := ⟨_, rfl⟩
          rw [← evv] at d1 HIX
          clear ef evv hc0 hput hu hms HONE HONE2
          have HONEd : Hid (Calls Try.prog 41 #[.slice (some ⟨b, o + j * 3, none⟩) 1 (cq - j)] wr.drew fun e w' => ∃ q m c2, e = .returned (.slice q m c2) ∧ OwnC w' wr.drew.heap.size q m c2 (putC M (cs.getD j Cel.none)) ∧ Below wr.drew.heap.size wr.drew w') := HONED
          go_wp2_with fail
          go_region_held3 (fun W => W = wr.drew) (rfl) ((go_at_call 40; refine HIX.mono ?_; rintro e w' ⟨rfl, rfl⟩))
          go_wp2_with fail
          refine HONEd.out.mono ?_
          rintro e w3 ⟨q3, m3, c3, rfl, ho3, hb3⟩
          obtain rfl : m3 = 1 := ho3.1.trans HD1.out
          have HO3 : Hid (OwnC w3 wr.drew.heap.size q3 1 c3 (putC M (cs.getD j Cel.none))) := ho3
          have HB3 : Hid (Below wr.drew.heap.size wr.drew w3) := hb3
          clear ho3 hb3 HONEd
          by_cases hbig : m + 1 ≤ 2000
          · go_wp2_with (at_builtin; refine app_cells wr.drew w3 rfl _ _ rfl B rp m cr _ rfl HOd.out HB3.out hBd q3 1 c3 _ rfl HO3.out (by decide) (by omega) ?_; intro g4 n4 cap4 w4 hown4 hb4 hn4; have hn4' : n4 ≤ 2000 := by have := hn4.out; omega)
            have HO4 : Hid (OwnC w4 B (some ⟨g4, 0, none⟩) n4 cap4 (ds ++ (cs.take (j + 1)).flatMap (putC M))) := by rw [HDS.out]; exact hown4
            have HB4 : Hid (Below B w w4) := (HBd.out.trans (HB3.out.mono hBd)).trans hb4
            clear hown4 hb4
            go_roundw
            case rel => exact ⟨j + 1, _, n4, cap4, by omega, hn4', by go_num, rfl, HO4, HB4⟩
            case measure => simp [intOf]; omega
          · go_wp2_with (at_builtin; refine app_cells wr.drew w3 rfl _ _ rfl B rp m cr _ rfl HOd.out HB3.out hBd q3 1 c3 _ rfl HO3.out (by decide) (by omega) ?_; intro g4 n4 cap4 w4 hown4 hb4 hn4; have hn4' : 2000 < n4 := by have := hn4.out; omega)
            go_ret2
            refine HFIN3.out w4 ((HBd.out.trans (HB3.out.mono hBd)).trans hb4) j ?_
            rw [HDS.out, ← hown4.1]; exact hn4'
      · have hput : putC M (cs.getD j Cel.none) = [cs.getD j Cel.none] := by
          unfold putC
          rw [if_neg hc0]
        rw [← hput] at HONE
        have HD1 : Hid ((putC M (cs.getD j Cel.none)).length = 1) := by show _ = _; rw [hput]; rfl
        obtain ⟨kd, ekd⟩ : ∃ v, v = (cs.getD j Cel.none).1 := ⟨_, rfl⟩
        rw [← ekd] at d0 hc0
        have hc0' : (kd == 0) = false := by simpa using hc0
        clear ekd hc0 d1 hput hms HONE2
        go_wp2_with fail
        refine HONE.out.mono ?_
        rintro e w3 ⟨q3, m3, c3, rfl, ho3, hb3⟩
        obtain rfl : m3 = 1 := ho3.1.trans HD1.out
        have HO3 : Hid (OwnC w3 wr.heap.size q3 1 c3 (putC M (cs.getD j Cel.none))) := ho3
        have HB3 : Hid (Below wr.heap.size wr w3) := hb3
        clear ho3 hb3 HONE
        by_cases hbig : m + 1 ≤ 2000
        · go_wp2_with (at_builtin; refine app_cells wr w3 rfl _ _ rfl B rp m cr _ rfl HO.out HB3.out hBs q3 1 c3 _ rfl HO3.out (by decide) (by omega) ?_; intro g4 n4 cap4 w4 hown4 hb4 hn4; have hn4' : n4 ≤ 2000 := by have := hn4.out; omega)
          have HO4 : Hid (OwnC w4 B (some ⟨g4, 0, none⟩) n4 cap4 (ds ++ (cs.take (j + 1)).flatMap (putC M))) := by rw [HDS.out]; exact hown4
          have HB4 : Hid (Below B w w4) := (HB.out.trans (HB3.out.mono hBs)).trans hb4
          clear hown4 hb4
          go_roundw
          case rel => exact ⟨j + 1, _, n4, cap4, by omega, hn4', by go_num, rfl, HO4, HB4⟩
          case measure => simp [intOf]; omega
        · go_wp2_with (at_builtin; refine app_cells wr w3 rfl _ _ rfl B rp m cr _ rfl HO.out HB3.out hBs q3 1 c3 _ rfl HO3.out (by decide) (by omega) ?_; intro g4 n4 cap4 w4 hown4 hb4 hn4; have hn4' : 2000 < n4 := by have := hn4.out; omega)
          go_ret2
          refine HFIN3.out w4 ((HB.out.trans (HB3.out.mono hBs)).trans hb4) j ?_
          rw [HDS.out, ← hown4.1]; exact hn4'
    · obtain rfl : j = n := by omega
      go_wp2_with fail
      go_ret2
      exact HFIN0.out _ _ _ _ HB.out HO.out hm
theorem whole_any (W0 Wp : World) (sb : Nat) (M : BM) (r : Int → Nat) (hac : Acyc M r) (hwf : WfU M) (hsm : ∀ x u, M x = some u → (tcs u).length ≤ 2000) (kk : Nat) (sp : Option Addr) (sn sc : Nat) (bs : List Bnd) (hs : MS W0 Wp sb M kk sp sn sc bs) (N : Nat) : WholeOk W0 Wp sb M r N := by
  induction N using Nat.strongRecOn with
  | _ N ih => exact whole_step W0 Wp sb M r hac hwf hsm kk sp sn sc bs hs N ih

end Go.Proofs.Ytglebnelmnnboaa

namespace Go.Proofs.Ytglebnelmnnboaa
open Go Go.RowKit
set_option linter.unusedVariables false

theorem NodeIn.imp2 {w w' : World} {B B' : Nat} {c : Cel} {K K' : List Value → Prop} {v : Value} (h : NodeIn w B c K v) (hB : B' ≤ B) (hc : ∀ p v, w.cell? p = some v → w'.cell? p = some v) (hs : w.heap.size ≤ w'.heap.size) (hK : ∀ vs, K vs → K' vs) : NodeIn w' B' c K' v := by
  rcases h with h | h | h | ⟨h, b, g, vs, hv, h1, h2, c0, c1, hg, cg, hk⟩
  · exact .inl h
  · exact .inr (.inl h)
  · exact .inr (.inr (.inl h))
  · exact .inr (.inr (.inr ⟨h, b, g, vs, hv, by omega, by omega, hc _ _ c0, hc _ _ c1, by omega, fun i hi => hc _ _ (cg i hi), hK _ hk⟩))
theorem FoIn.imp2 {w w' : World} {B B' : Nat} (hB : B' ≤ B) (hc : ∀ p v, w.cell? p = some v → w'.cell? p = some v) (hs : w.heap.size ≤ w'.heap.size) : ∀ (F : Fo) (vs : List Value), FoIn w B F vs → FoIn w' B' F vs
  | .nil, vs, h => h
  | .node c k r, vs, ⟨v, vr, e, hn, hr⟩ => ⟨v, vr, e, hn.imp2 hB hc hs (fun kv => FoIn.imp2 hB hc hs k kv), FoIn.imp2 hB hc hs r vr hr⟩

end Go.Proofs.Ytglebnelmnnboaa

