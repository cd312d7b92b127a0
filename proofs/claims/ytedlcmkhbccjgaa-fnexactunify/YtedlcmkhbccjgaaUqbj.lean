/- Texts of UmU, Mark, MarkH. Own work of the verifier. -/
import Derived.Test.YtedlcmkhbccjgaaUqbe
import Derived.Test.YtedlcmkhbccjgaaUqbi
import Derived.Test.YtedlcmkhbccjgaaUqar
import Derived.Test.YtedlcmkhbccjgaaUqas
namespace Go.Proofs.Ytedlcmkhbccjgaa
open Go Go.RowKit
set_option linter.unusedVariables false

theorem look_up : ∀ (bs : List Bnd), (∀ i j, i < j → j < bs.length → (bs.getD i Bnd.zero).1 < (bs.getD j Bnd.zero).1) → ∀ i, i < bs.length → look bs (bs.getD i Bnd.zero).1 = some (bs.getD i Bnd.zero).2
  | [], _, i, hi => by simp at hi
  | b :: r, h, 0, hi => by simp [look]
  | b :: r, h, i + 1, hi => by
    have h0 := h 0 (i + 1) (by omega) hi
    simp only [List.getD_cons_zero, List.getD_cons_succ] at h0 ⊢
    have hne : ¬ b.1 = (r.getD i Bnd.zero).1 := by omega
    have := look_up r (fun i j hij hj => by have := h (i + 1) (j + 1) (by omega) (by simp; omega); simpa using this) i (by simpa using hi)
    unfold look
    first
      | rw [if_neg hne]; exact this
      | rw [if_neg (fun e => hne e.symm)]; exact this
theorem BsR.at {bs : List Bnd} {M : BM} (h : BsR bs M) (i : Nat) (hi : i < bs.length) : ∃ u, M (bs.getD i Bnd.zero).1 = some u ∧ (bs.getD i Bnd.zero).2 = tcs u := by
  have h1 := look_up bs h.up i hi
  rcases h.rel (bs.getD i Bnd.zero).1 with ⟨u, h2, h3⟩ | ⟨h2, h3⟩
  · rw [h1] at h3; exact ⟨u, h2, Option.some.inj h3⟩
  · rw [h1] at h3; cases h3
theorem BsR.asc {bs : List Bnd} {M : BM} (h : BsR bs M) : AscM M (bs.map Prod.fst) := by
  refine ⟨?_, fun x => ?_⟩
  · rw [List.pairwise_iff_getElem]
    intro i j hi hj hij
    have := h.up i j hij (by simpa using hj)
    simp only [List.length_map] at hi hj
    simpa [List.getD, hi, hj] using this
  · constructor
    · intro hx
      obtain ⟨b, hb, rfl⟩ := List.mem_map.1 hx
      obtain ⟨i, hi, rfl⟩ := List.mem_iff_getElem.1 hb
      obtain ⟨u, hu, _⟩ := h.at i hi
      simp only [List.getD, List.getElem?_eq_getElem hi, Option.getD_some] at hu
      rw [hu]; rfl
    · intro hx
      rcases h.find x with ⟨k, u, hk, hf, hu, _⟩ | ⟨_, hu⟩
      · have := findI_at hf hk
        rw [← this]
        exact List.mem_map.2 ⟨_, by simp [List.getD, hk], rfl⟩
      · rw [hu] at hx; cases hx
theorem OwnBB.fresh {w w' : World} {B : Nat} {p : Option Addr} {n c : Nat} {bs : List Bnd} (h : OwnBB w B w.heap.size p n c bs) (hb : Below w.heap.size w w') : OwnBB w' B w'.heap.size p n c bs := by
  obtain ⟨ds, hd⟩ := h
  have h1 : OwnBB w' B w.heap.size p n c bs := ⟨ds, hd.other hb.size (fun k hk _ _ => hb.block k hk)⟩
  exact h1.wide hb.size (Nat.le_refl _)
theorem MS.start (w : World) : MS w (w.alloc (.cells #[.slice none 0 0, .int .i64 0] 78)) w.heap.size (fun _ => none) 0 none 0 0 [] := by
  have hnew := heap_alloc_new w (.cells #[.slice none 0 0, .int .i64 0] 78)
  refine ⟨(Below.refl _ _).alloc (Nat.le_refl _) _, Nat.le_refl _, ?_, ?_, rfl, fun h => by simp at h, ⟨fun i j _ h => by simp at h, fun v => .inr ⟨rfl, rfl⟩⟩, Nat.le_refl _, by decide, fun _ => ⟨rfl, rfl⟩, Nat.le_refl _, (fun a h => by cases h), fun o => ?_⟩
  · simp only [World.cell?]; rw [hnew]; rfl
  · simp only [World.cell?]; rw [hnew]; rfl
  · simp only [World.frozen?]; rw [hnew]; rfl
set_option maxRecDepth 100000 in
set_option maxHeartbeats 1000000 in
theorem specUni_bad (xs ys : List Cel) (p q : Option Addr) (w : World) (hn : xs.length ≤ 1000000000) (hm : ys.length ≤ 1000000000) (hp : CIn w p xs) (hq : CIn w q ys) (hb : ¬ (validB xs = true ∧ validB ys = true)) :
    Calls Try.prog 22 #[.slice p xs.length xs.length, .slice q ys.length ys.length] w (UniO w xs ys) := by
  have HV1 := specValid_any p xs.length xs w hn hp
  have HF : Hid (∀ W, Below w.heap.size w W → UniO w xs ys (.returned (.tuple #[.slice none 0 0, .int .i64 1])) W) := fun W hW => ⟨[], 1, none, 0, 0, .inr ⟨hb, rfl, rfl⟩, rfl, OwnBB.nil _ _ _, hW⟩
  by_cases h1 : validB xs = true
  · have HV2 : Hid (∀ W, Below w.heap.size w W → Calls Try.prog 26 #[.slice q ys.length ys.length] W fun e w' => e = .returned (.bool (validB ys)) ∧ Below W.heap.size W w') := fun W hW => specValid_any q ys.length ys W hm (hq.below hW)
    rw [h1] at HV1
    have h2' : validB ys = false := by
      cases h : validB ys with
      | false => rfl
      | true => exact (hb ⟨h1, h⟩).elim
    rw [h2'] at HV2
    clear h1 h2' hp hq hb
    go_enter Try.func22, Try.ntmps22
    go_wp2_with fail
    refine HV1.mono ?_
    rintro e w1 ⟨rfl, hb1⟩
    have HB1 : Hid (Below w.heap.size w w1) := hb1
    clear hb1 HV1
    go_wp2_with fail
    refine (HV2.out w1 HB1.out).mono ?_
    rintro e w2 ⟨rfl, hb2⟩
    have HB2 : Hid (Below w.heap.size w w2) := Below.on HB1.out hb2
    clear hb2
    go_wp2_with fail
    go_ret2
    exact HF.out _ HB2.out
  · have h1' : validB xs = false := by simpa using h1
    rw [h1'] at HV1
    clear h1 h1' hp hq hb
    go_enter Try.func22, Try.ntmps22
    go_wp2_with fail
    refine HV1.mono ?_
    rintro e w1 ⟨rfl, hb1⟩
    have HB1 : Hid (Below w.heap.size w w1) := hb1
    clear hb1 HV1
    go_wp2_with fail
    go_ret2
    exact HF.out _ HB1.out

set_option maxRecDepth 100000 in
set_option maxHeartbeats 2000000 in
theorem specUni_any (xs ys : List Cel) (p q : Option Addr) (w : World) (hxb : ∀ i, i < xs.length → Byte (xs.getD i Cel.none).2.2) (hyb : ∀ i, i < ys.length → Byte (ys.getD i Cel.none).2.2) (hn : xs.length ≤ 1000000000) (hm : ys.length ≤ 1000000000) (hp : CIn w p xs) (hq : CIn w q ys) :
    Calls Try.prog 22 #[.slice p xs.length xs.length, .slice q ys.length ys.length] w (UniO w xs ys) := by
  by_cases hv : validB xs = true ∧ validB ys = true
  · obtain ⟨h1, h2⟩ := hv
    obtain ⟨c, k, ex, hok, hlx⟩ := tree_of hxb h1
    obtain ⟨c', k', ey, hok', hly⟩ := tree_of hyb h2
    have HV1 := specValid_any p xs.length xs w hn hp
    have HV2 : Hid (∀ W, Below w.heap.size w W → Calls Try.prog 26 #[.slice q ys.length ys.length] W fun e w' => e = .returned (.bool (validB ys)) ∧ Below W.heap.size W w') := fun W hW => specValid_any q ys.length ys W hm (hq.below hW)
    rw [h1] at HV1
    rw [h2] at HV2
    have HFIN : Hid (∀ bs code e pp nn cc W, UniT (c, k) (c', k') bs code → e = .returned (.tuple #[.slice pp nn cc, .int .i64 code]) → OwnBB W w.heap.size W.heap.size pp nn cc bs → Below w.heap.size w W → UniO w xs ys e W) := fun bs code e pp nn cc W h he ho hW => ⟨bs, code, pp, nn, cc, .inl ⟨h1, h2, c, k, c', k', ex, ey, hok, hok', h⟩, he, ho, hW⟩
    obtain ⟨n, en⟩ : ∃ n, n = xs.length := ⟨_, rfl⟩
    obtain ⟨m, em⟩ : ∃ m, m = ys.length := ⟨_, rfl⟩
    rw [← en] at HV1 hn hlx ⊢
    rw [← em] at HV2 hm hly ⊢
    have HK : Hid ((tcs (c, k)).length ≤ 2000 ∧ (tcs (c', k')).length ≤ 2000) := ⟨by rw [en, ex] at hlx; simp [tcs] at hlx ⊢; omega, by rw [em, ey] at hly; simp [tcs] at hly ⊢; omega⟩
    have HX : Hid ((Fo.node c k .nil).ok ∧ (Fo.node c' k' .nil).ok) := ⟨hok, hok'⟩
    have HPR : Hid (∀ W, Below w.heap.size w W → Calls Try.prog 52 #[.pointer (some ⟨W.heap.size, 0, none⟩), .slice p n n, .slice q m m] (W.alloc (.cells #[.slice none 0 0, .int .i64 0] 78)) (PairO W W.heap.size (runU 4 5 3 20000 (fun _ => none) [((c, k), (c', k'))]) (W.alloc (.cells #[.slice none 0 0, .int .i64 0] 78)))) := fun W hW => pair_any W W.heap.size 20000 (Nat.le_refl _) (fun _ => none) none 0 0 [] (c, k) (c', k') p q n n m m _ (MS.start W) WfU.zero (fun x u h => by cases h) hok hok' HK.out.1 HK.out.2 ⟨by rw [en, ex]; rfl, Nat.le_refl _, hn, by have := hp.below hW; rwa [ex] at this⟩ ⟨by rw [em, ey]; rfl, Nat.le_refl _, hm, by have := hq.below hW; rwa [ey] at this⟩
    clear h1 h2 hp hq ex ey en em hok hok' hxb hyb hlx hly
    obtain ⟨RR, eRR⟩ : ∃ RR, RR = runU 4 5 3 20000 (fun _ => none) [((c, k), (c', k'))] := ⟨_, rfl⟩
    have HER : Hid (RR = runU 4 5 3 20000 (fun _ => none) [((c, k), (c', k'))]) := eRR
    rw [← eRR] at HPR
    clear eRR
    go_enter Try.func22, Try.ntmps22
    go_wp2_with fail
    refine HV1.mono ?_
    rintro e w1 ⟨rfl, hb1⟩
    have HB1 : Hid (Below w.heap.size w w1) := hb1
    clear hb1 HV1
    go_wp2_with fail
    refine (HV2.out w1 HB1.out).mono ?_
    rintro e w2 ⟨rfl, hb2⟩
    have HB2 : Hid (Below w.heap.size w w2) := Below.on HB1.out hb2
    clear hb2
    have HP2 := HPR.out w2 HB2.out
    go_wp2_with fail
    refine HP2.mono ?_
    intro e w3 ho
    clear HP2
    cases RR with
    | error d =>
      obtain ⟨hd, rfl, hb3, _⟩ := ho
      have HB3 : Hid (Below w.heap.size w w3) := Below.on HB2.out hb3
      have HD : Hid (3 ≤ d ∧ d ≤ 5) := hd
      have hd0 : (d == 0) = false := by rw [beq_eq_false_iff_ne]; omega
      clear hd hb3
      go_wp2_with fail
      go_ret2
      refine HFIN.out [] d _ _ _ _ _ ?_ rfl (OwnBB.nil _ _ _) HB3.out
      unfold UniT
      rw [← HER.out]
      exact ⟨rfl, rfl, HD.out.1, HD.out.2⟩
    | ok r =>
      obtain ⟨M, ff⟩ := r
      obtain ⟨rfl, hff, ⟨sp, sn, sc, bs, hms⟩, hwf, hsm, _⟩ := ho
      have HB3 : Hid (Below w.heap.size w w3) := Below.on HB2.out hms.low
      have s0 := hms.sub
      have hsn := hms.len
      have hsr : sn ≤ sc := hms.room
      have hsn2 : sn ≤ 20000 := by have := hms.few; have := hms.kle; omega
      have HBR : Hid (BsR bs M) := hms.bsr
      have HU : Hid (∀ (l : List Bnd) (code : Int), (match bindR M (bs.map Prod.fst) with | none => l = [] ∧ code = 3 | some l' => l = l' ∧ code = 0) → UniT (c, k) (c', k') l code) := fun l code h => by
        unfold UniT
        rw [← HER.out]
        exact ⟨_, HBR.out.asc, h⟩
      by_cases hbig : 1000 < sn
      · have HF : Hid (UniO w xs ys (.returned (.tuple #[.slice none 0 0, .int .i64 3])) w3) := HFIN.out [] 3 _ _ _ _ _ (HU.out [] 3 (by
          have : bindR M (bs.map Prod.fst) = none := by
            unfold bindR
            rw [if_neg (fun h => by have := h.1; simp only [List.length_map] at this; omega)]
          rw [this]; exact ⟨rfl, rfl⟩)) rfl (OwnBB.nil _ _ _) HB3.out
        have hL : (1000 : Int) < (sn : Int) := by omega
        clear hms hwf hsm hsn HBR HU hff
        go_wp2_with fail
        go_ret2
        exact HF.out
      · obtain ⟨rk, hac⟩ := hwf.acyc
        have HWH : Hid (∀ N, WholeOk w2 w3 w2.heap.size M rk N) := fun N => whole_any w2 w3 w2.heap.size M rk hac hwf hsm _ sp sn sc bs hms N
        have HM0 : Hid (∀ W, Below w3.heap.size w3 W → MS w2 W w2.heap.size M (20000 - ff) sp sn sc bs) := fun W h => hms.below h
        have HW : Hid ((Acyc M rk ∧ WfU M) ∧ ∀ x u, M x = some u → (tcs u).length ≤ 2000) := ⟨⟨hac, hwf⟩, hsm⟩
        have HLN : Hid (sn = bs.length) := hsn
        have hL : (sn : Int) ≤ 1000 := by omega
        have hbg : sn ≤ 1000 := by omega
        clear hms hwf hsm hsn hac hbig hff
        go_wp2_with fail
        go_loopw [8, 9] (fun al i wr => ∃ (j n c : Nat) (p : Option Addr), j ≤ sn ∧ n ≤ 1000 ∧ al = .slice p n c ∧ i = .int .i64 j ∧ Hid (n = j) ∧ Hid (OwnBB wr w3.heap.size wr.heap.size p n c (bndsU M ((bs.map Prod.fst).take j))) ∧ Hid (Below w3.heap.size w3 wr) ∧ Hid (∀ v ∈ (bs.map Prod.fst).take j, (bndU M v).2.length ≤ 2000)) (fun _ i _ => sn - (intOf i).toNat)
        case atStart => exact ⟨0, 0, 0, none, Nat.zero_le _, Nat.zero_le _, rfl, rfl, rfl, OwnBB.nil _ _ _, Below.refl _ _, fun v hv => by simp at hv⟩
        case round =>
          obtain ⟨j, n, c, p, hj, hn, rfl, rfl, HNJ, HOB, HB, HSM⟩ := hrel
          clear s0
          have hms := HM0.out wr HB.out
          have s0 := hms.sub
          by_cases hlt : j < sn
          · have hjk : j < bs.length := by rw [← HLN.out]; exact hlt
            obtain ⟨sg, so, rfl, hbs⟩ := hms.lies (by omega)
            obtain ⟨qd, cd, y0, y1, y2, y3, y4⟩ := hbs j hjk
            obtain ⟨u, hu, eu⟩ := HBR.out.at j hjk
            rw [eu] at y1 y2 y4
            have hfl : bndU M (bs.getD j Bnd.zero).1 = ((bs.getD j Bnd.zero).1, (tcs u).flatMap (putC M)) := by
              unfold bndU
              rw [hu]
              simp only [HW.out.1.2.full_flat u (HW.out.1.2.ok _ _ hu)]
              rfl
            have HTK : Hid ((bs.map Prod.fst).take (j + 1) = (bs.map Prod.fst).take j ++ [(bs.getD j Bnd.zero).1]) := by
              show _ = _
              rw [List.take_add_one, List.getElem?_eq_getElem (by simpa using hjk)]
              simp [List.getD, hjk]
            have hmem : (bs.getD j Bnd.zero).1 ∈ bs.map Prod.fst := List.mem_map.2 ⟨_, by simp [List.getD, hjk], rfl⟩
            have HREC := HWH.out (rk (bs.getD j Bnd.zero).1) u qd (tcs u).length cd wr.heap.size wr [] none 0 0 (HW.out.1.2.ok _ _ hu) (HW.out.2 _ _ hu) ⟨rfl, y2, y3, y4⟩ (fun v hv _ => HW.out.1.1 _ _ hu v hv) HB.out HB.out.size (Nat.le_refl _) (OwnC.nil _ _) (Nat.zero_le _)
            obtain ⟨x, ex⟩ : ∃ x, x = (bs.getD j Bnd.zero).1 := ⟨_, rfl⟩
            rw [← ex] at y0 hfl hmem HTK
            obtain ⟨ld, eld⟩ : ∃ l, l = (tcs u).length := ⟨_, rfl⟩
            rw [← eld] at y1 HREC
            obtain ⟨R, eR⟩ : ∃ R, R = (tcs u).flatMap (putC M) := ⟨_, rfl⟩
            rw [← eR] at hfl HREC
            rw [List.nil_append] at HREC
            have HBU : Hid (bndU M x = (x, R) ∧ x ∈ bs.map Prod.fst) := ⟨hfl, hmem⟩
            have HY0 : Hid (∀ W, Below wr.heap.size wr W → W.cell? ⟨sg, so + j * 2, none⟩ = some (.int .i64 x) ∧ W.cell? ⟨w2.heap.size, 0, none⟩ = some (.slice (some ⟨sg, so, none⟩) sn sc)) := fun W hW => ⟨(hW.cell (World.block_lt_of_cell? _ _ y0)).trans y0, (hW.cell (World.block_lt_of_cell? _ _ s0)).trans s0⟩
            clear hbs y0 y2 y3 y4 eu hu hfl hmem ex eld eR hms
            go_wp2_with fail
            refine HREC.mono ?_
            rintro e w4 ⟨hb4, ⟨hle, q4, m4, c4, rfl, ho4⟩ | ⟨hle, rfl⟩⟩
            · have HOC : Hid (OwnC w4 wr.heap.size q4 m4 c4 R) := ho4
              have HB4 : Hid (Below wr.heap.size wr w4) := hb4
              have HLR : Hid (R.length ≤ 2000) := hle
              clear s0 y1
              obtain ⟨y0, s0⟩ := HY0.out w4 hb4
              have HW3 : Hid (w3.heap.size ≤ wr.heap.size) := HB.out.size
              clear ho4 hb4 hle HREC
              go_wp2_with (at_builtin; refine app_bnd wr _ rfl _ _ rfl w3.heap.size p n c _ x rfl HOB.out HB4.out HW3.out q4 m4 c4 _ HOC.out rfl (by omega) ?_; intro g6 n6 cap6 w6 hown6 hb6 hn6 hg6 hat6)
              have HO6 : Hid (OwnBB w6 w3.heap.size w6.heap.size (some ⟨g6, 0, none⟩) n6 cap6 (bndsU M ((bs.map Prod.fst).take (j + 1)))) := by
                have e : bndsU M ((bs.map Prod.fst).take (j + 1)) = bndsU M ((bs.map Prod.fst).take j) ++ [(x, R)] := by
                  rw [HTK.out]
                  unfold bndsU
                  rw [List.map_append, List.map_singleton, HBU.out.1]
                rw [e]; exact hown6
              have HB6 : Hid (Below w3.heap.size w3 w6) := (HB.out.trans ((Below.on HB4.out ((Below.refl _ _).alloc (Nat.le_refl _) _)).mono HW3.out)).trans hb6
              have HM6 : Hid (∀ v ∈ (bs.map Prod.fst).take (j + 1), (bndU M v).2.length ≤ 2000) := fun v hv => by
                rw [HTK.out] at hv
                rcases List.mem_append.1 hv with hv | hv
                · exact HSM.out v hv
                · rw [List.mem_singleton.1 hv, HBU.out.1]; exact HLR.out
              have HN6 : Hid (n6 = j + 1) := by have := hn6.out; have := HNJ.out; show n6 = j + 1; omega
              have hn6b : n6 ≤ 1000 := by have := hn6.out; have := HNJ.out; omega
              clear hown6 hb6 hn6 hg6 hat6 HOC HB4
              go_wp2_with fail
              go_roundw
              case rel => exact ⟨j + 1, n6, cap6, _, by omega, hn6b, rfl, by go_num, HN6, HO6, HB6, HM6⟩
              case measure => simp [intOf]; omega
            · have HF : Hid (UniO w xs ys (.returned (.tuple #[.slice none 0 0, .int .i64 3])) w4) := HFIN.out [] 3 _ _ _ _ _ (HU.out [] 3 (by
                have : bindR M (bs.map Prod.fst) = none := by
                  unfold bindR
                  rw [if_neg (fun h => by have := h.2 x HBU.out.2; rw [HBU.out.1] at this; exact absurd this (by show ¬ R.length ≤ 2000; omega))]
                rw [this]; exact ⟨rfl, rfl⟩)) rfl (OwnBB.nil _ _ _) (Below.on HB3.out (Below.on HB.out hb4))
              clear hb4 hle HREC s0 y1
              go_wp2_with fail
              go_ret2
              exact HF.out
          · obtain rfl : j = sn := by omega
            have hall : (bs.map Prod.fst).take j = bs.map Prod.fst := List.take_of_length_le (by rw [List.length_map, HLN.out]; exact Nat.le_refl _)
            rw [hall] at HOB HSM
            have HF : Hid (UniO w xs ys (.returned (.tuple #[.slice p n c, .int .i64 0])) wr) := HFIN.out (bndsU M (bs.map Prod.fst)) 0 _ _ _ _ _ (HU.out _ 0 (by
              have : bindR M (bs.map Prod.fst) = some (bndsU M (bs.map Prod.fst)) := by
                unfold bindR
                rw [if_pos ⟨by rw [List.length_map, ← HLN.out]; omega, HSM.out⟩]
              rw [this]; exact ⟨rfl, rfl⟩)) rfl (HOB.out.wide (Nat.le_refl _) HB3.out.size) (Below.on HB3.out HB.out)
            clear hms hall
            go_wp2_with fail
            go_ret2
            exact HF.out
  · exact specUni_bad xs ys p q w hn hm hp hq hv

end Go.Proofs.Ytedlcmkhbccjgaa

namespace Go.Proofs.Ytedlcmkhbccjgaa
open Go Go.RowKit
set_option linter.unusedVariables false

theorem held_any (p : Option Addr) (n c : Nat) (k : Int) (w : World) (h0 : 0 ≤ k) (h1 : k ≤ 1000000000000) (hn : n ≤ 1000000000) (hin : BIn w p (marks k n)) :
    Calls Try.prog 51 #[.slice p n c, .int .i64 k] w fun e w' => e = .returned (.int .i64 (k + n)) ∧ w' = w := by
  have HI : Hid (BIn w p (marks k n)) := hin
  clear hin
  go_enter Try.func51, Try.ntmps51
  go_wp2
  go_loop [1, 5] (fun q i => ∃ j : Nat, j ≤ n ∧ i = .int .i64 j ∧ q = .int .i64 (k + j)) (fun _ i => n - (intOf i).toNat)
  case atStart => exact ⟨0, Nat.zero_le _, rfl, by simp⟩
  case round =>
    obtain ⟨j, hj, rfl, rfl⟩ := hrel
    by_cases hlt : j < n
    · obtain ⟨b, o, rfl, hc⟩ := HI.out (by rw [marks_len]; omega)
      have hx := hc j (by rw [marks_len]; exact hlt)
      rw [marks_at n k j hlt] at hx
      have hwr := wrap_byte (k + j) (by omega)
      clear hc
      go_wp2
      go_round
      case rel => exact ⟨j + 1, by omega, by go_num, by simp; omega⟩
      case measure => simp [intOf]; omega
    · obtain rfl : j = n := by omega
      go_wp2
      go_ret
      exact ⟨rfl, rfl⟩

end Go.Proofs.Ytedlcmkhbccjgaa

namespace Go.Proofs.Ytedlcmkhbccjgaa
open Go Go.RowKit
set_option linter.unusedVariables false

theorem heldCells_any (p : Option Addr) (n c : Nat) (k : Int) (cs : List Cel) (w : World) (h0 : 0 ≤ k) (h1 : k ≤ 10000000) (hn : cs.length + tl cs ≤ 100000000) (hl : n = cs.length) (hin : CIn w p (markC k cs)) :
    Calls Try.prog 21 #[.slice p n c, .int .i64 k] w fun e w' => e = .returned (.int .i64 (endC k cs)) ∧ w' = w := by
  have HI : Hid (CIn w p (markC k cs)) := hin
  have HNL : Hid (n = cs.length) := hl
  clear hin
  have hnn : n ≤ 100000000 := by omega
  clear hl
  go_enter Try.func21, Try.ntmps21
  go_wp2_with fail
  go_loop [1, 5] (fun q i => ∃ (j : Nat) (kj : Int), j ≤ n ∧ 0 ≤ kj ∧ kj ≤ 1000000000 ∧ i = .int .i64 j ∧ q = .int .i64 kj ∧ Hid (kj = kAt k cs j)) (fun _ i => n - (intOf i).toNat)
  case atStart => exact ⟨0, k, Nat.zero_le _, h0, by omega, rfl, rfl, (kAt_zero _ _).symm⟩
  case round =>
    obtain ⟨j, kj, hj, hk0, hk1, rfl, rfl, HK⟩ := hrel
    by_cases hlt : j < n
    · have hjl : j < cs.length := by rw [← HNL.out]; exact hlt
      obtain ⟨b, o, rfl, hcs⟩ := HI.out (by rw [markC, mixC_len]; omega)
      obtain ⟨q, qc, d0, d1, d2, d3⟩ := hcs j (by rw [markC, mixC_len]; exact hjl)
      have hm : (markC k cs).getD j Cel.none = markedC k cs j := by rw [markC, mixC_at _ _ _ _ hjl, if_pos hjl]
      rw [hm] at d0 d1 d2 d3
      simp only [markedC, ← HK.out, marks_len] at d0 d1 d2 d3
      have htl := tl_at cs j hjl
      have HS1 : Hid _ := kAt_succ k cs j hjl
      have hbound : kAt k cs (j + 1) ≤ 1000000000 := by have := tl_take_le cs (j + 1); simp only [kAt]; omega
      have HBD : Hid _ := hbound
      obtain ⟨tn, etn⟩ : ∃ x, x = (cs.getD j Cel.none).2.2.length := ⟨_, rfl⟩
      rw [← etn] at d2 d3 HS1
      have htn : tn ≤ 100000000 := by omega
      have hpos : ¬ (kj + 1 + 1 + (tn : Int) < 0) := by omega
      have HH := held_any q tn qc (kj + 1 + 1) w (by omega) (by omega) (by omega) d3
      clear etn hcs hm htl HI hbound d3
      go_wp2_with fail
      refine HH.mono ?_
      rintro e w3 ⟨rfl, rfl⟩
      go_wp2_with fail
      have e1 := HS1.out
      have e3 := HK.out
      have e5 := HBD.out
      go_round
      case rel => exact ⟨j + 1, kj + 1 + 1 + tn, by omega, by omega, by rw [e1] at e5; omega, by go_num, rfl, by show _ = _; rw [e1]; omega⟩
      case measure => simp [intOf]; omega
    · obtain rfl : j = n := by omega
      clear HI
      go_wp2_with fail
      go_ret
      exact ⟨ret_int (by rw [HK.out, HNL.out]; rfl), rfl⟩

end Go.Proofs.Ytedlcmkhbccjgaa

